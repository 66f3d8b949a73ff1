/- FirstOf (layer 20), over any program that does what it must: the cases in which nothing is asked. Written by wip/tools/gen_frsd.py. -/
import Derived.Test.YtnaamjpiaekmeaaGreatFrsB
import Derived.Test.YtnaamjpiaekmeaaGreatPr
set_option linter.unusedVariables false
set_option linter.unusedSimpArgs false
namespace Go.Proofs.YtnaamjpiaekmeaaGreat
open Go.RowKit
set_option maxRecDepth 100000 in
set_option maxHeartbeats 8000000 in
theorem lfo_few (hC : ProgFirst) (hO : ProgFof) (g : GramG) (gv : Value) (k : Int) (ss : List Int) (sv : Value) (w : World) (hg : gramAt w gv g) (hi : IntG g) (gn : ∀ n ∈ g.names, n.length ≤ maxLen) (gt : ∀ n ∈ g.terms, n.length ≤ maxLen) (hs : intsAt w sv ss) (hsi : IntS ss) (hf : fewB g = 0) :
  Calls Tryz.prog 4 #[gv, .int .i64 k, sv] w fun e w' => e = .returned (.bool true) ∧ Fr [] w w' := by
 obtain ⟨a1, c1, a2, c2, a3, c3, rfl, HF0, HB⟩ := box_gram hg
 obtain ⟨a8, c8, rfl, hc8, hm8⟩ := hs.form
 obtain ⟨w0, hw0⟩ : ∃ w0, w0 = w.alloc (.cells #[.slice a1 g.names.length c1, .slice a2 g.terms.length c2, .slice a3 g.rules.length c3] 25) := ⟨_, rfl⟩
 obtain ⟨q0, hq0⟩ : ∃ q0, q0 = w.heap.size := ⟨_, rfl⟩
 rw [← hw0] at HF0 HB
 rw [← hq0] at HB
 have HFEW := Lib.hid (rfew_any g _ w0 (hg.below HF0.out) gn gt)
 have HAW := Lib.hid (fun wx => lfawake_any hC wx)
 have HW0 := Lib.hid hw0
 have HQ0 := Lib.hid hq0
 rw [hf] at HFEW
 clear hw0 hq0 hg hi gn gt hC hO hf hs hsi
 obtain ⟨x0, x1, x2, -⟩ := three_of_heap HB.out
 go_enter Tryz.func4, Tryz.ntmps4
 go_upto_region 1 with fail
 rw [← HW0.out, ← HQ0.out]
 go_wp2_with (first | (go_at_call 9; refine HFEW.out.mono ?_; rintro e w1 ⟨rfl, hf1⟩; have HF1 := Lib.hid (HF0.out.tr0 hf1); have HB1 := Lib.hid (hf1.heap HB.out (by simp)); clear hf1; clear x0 x1 x2; obtain ⟨x0, x1, x2, -⟩ := three_of_heap HB1.out) | (go_at_call 10; refine (HAW.out _).mono ?_; rintro e w9 ⟨rfl, hf9⟩))
 go_ret
 exact ⟨rfl, HF1.out.tr0 hf9⟩
set_option maxRecDepth 100000 in
set_option maxHeartbeats 8000000 in
theorem lfo_terms (hC : ProgFirst) (hO : ProgFof) (g : GramG) (gv : Value) (k : Int) (ss : List Int) (sv : Value) (w : World) (hg : gramAt w gv g) (hi : IntG g) (gn : ∀ n ∈ g.names, n.length ≤ maxLen) (gt : ∀ n ∈ g.terms, n.length ≤ maxLen) (hs : intsAt w sv ss) (hsi : IntS ss) (hf : fewB g = 1) (hx : 3 < g.terms.length) :
  Calls Tryz.prog 4 #[gv, .int .i64 k, sv] w fun e w' => e = .returned (.bool true) ∧ Fr [] w w' := by
 obtain ⟨a1, c1, a2, c2, a3, c3, rfl, HF0, HB⟩ := box_gram hg
 obtain ⟨a8, c8, rfl, hc8, hm8⟩ := hs.form
 obtain ⟨w0, hw0⟩ : ∃ w0, w0 = w.alloc (.cells #[.slice a1 g.names.length c1, .slice a2 g.terms.length c2, .slice a3 g.rules.length c3] 25) := ⟨_, rfl⟩
 obtain ⟨q0, hq0⟩ : ∃ q0, q0 = w.heap.size := ⟨_, rfl⟩
 rw [← hw0] at HF0 HB
 rw [← hq0] at HB
 have HFEW := Lib.hid (rfew_any g _ w0 (hg.below HF0.out) gn gt)
 have HAW := Lib.hid (fun wx => lfawake_any hC wx)
 have HW0 := Lib.hid hw0
 have HQ0 := Lib.hid hq0
 rw [hf] at HFEW
 have hsz := few_size (g := g) (by rw [hf]; decide)
 have HRC := Lib.hid (fun wx (hx : Fr [] w wx) => rcheck_any g _ wx (hg.below hx) hsz)
 have hm2 : g.terms.length ≤ 100000 := by obtain ⟨-, h2, -⟩ := hsz; omega
 obtain ⟨n2, hn2⟩ : ∃ n, n = g.terms.length := ⟨_, rfl⟩
 obtain ⟨n1, hn1⟩ : ∃ n, n = g.names.length := ⟨_, rfl⟩
 obtain ⟨n3, hn3⟩ : ∃ n, n = g.rules.length := ⟨_, rfl⟩
 obtain ⟨n8, hn8⟩ : ∃ n, n = ss.length := ⟨_, rfl⟩
 rw [← hn1, ← hn2, ← hn3] at HB HW0 HFEW HRC ⊢
 rw [← hn8] at hc8 ⊢
 rw [← hn2] at hx hm2
 have hd : decide ((3 : Int) < (n2 : Int)) = true := decide_eq_true (by omega)
 clear hw0 hq0 hg hi gn gt hC hO hf hs hsi hsz hn1 hn2 hn3 hn8 hx
 obtain ⟨x0, x1, x2, -⟩ := three_of_heap HB.out
 go_enter Tryz.func4, Tryz.ntmps4
 go_upto_region 1 with fail
 rw [← HW0.out, ← HQ0.out]
 go_wp2_with (first | (go_at_call 9; refine HFEW.out.mono ?_; rintro e w1 ⟨rfl, hf1⟩; have HF1 := Lib.hid (HF0.out.tr0 hf1); have HB1 := Lib.hid (hf1.heap HB.out (by simp)); clear hf1; clear x0 x1 x2; obtain ⟨x0, x1, x2, -⟩ := three_of_heap HB1.out) | (go_at_call 10; refine (HAW.out _).mono ?_; rintro e w9 ⟨rfl, hf9⟩))
 go_ret
 exact ⟨rfl, HF1.out.tr0 hf9⟩
set_option maxRecDepth 100000 in
set_option maxHeartbeats 8000000 in
theorem lfo_long (hC : ProgFirst) (hO : ProgFof) (g : GramG) (gv : Value) (k : Int) (ss : List Int) (sv : Value) (w : World) (hg : gramAt w gv g) (hi : IntG g) (gn : ∀ n ∈ g.names, n.length ≤ maxLen) (gt : ∀ n ∈ g.terms, n.length ≤ maxLen) (hs : intsAt w sv ss) (hsi : IntS ss) (hf : fewB g = 1) (ht : g.terms.length ≤ 3) (hx : 6 < ss.length) :
  Calls Tryz.prog 4 #[gv, .int .i64 k, sv] w fun e w' => e = .returned (.bool true) ∧ Fr [] w w' := by
 obtain ⟨a1, c1, a2, c2, a3, c3, rfl, HF0, HB⟩ := box_gram hg
 obtain ⟨a8, c8, rfl, hc8, hm8⟩ := hs.form
 obtain ⟨w0, hw0⟩ : ∃ w0, w0 = w.alloc (.cells #[.slice a1 g.names.length c1, .slice a2 g.terms.length c2, .slice a3 g.rules.length c3] 25) := ⟨_, rfl⟩
 obtain ⟨q0, hq0⟩ : ∃ q0, q0 = w.heap.size := ⟨_, rfl⟩
 rw [← hw0] at HF0 HB
 rw [← hq0] at HB
 have HFEW := Lib.hid (rfew_any g _ w0 (hg.below HF0.out) gn gt)
 have HAW := Lib.hid (fun wx => lfawake_any hC wx)
 have HW0 := Lib.hid hw0
 have HQ0 := Lib.hid hq0
 rw [hf] at HFEW
 have hsz := few_size (g := g) (by rw [hf]; decide)
 have HRC := Lib.hid (fun wx (hx : Fr [] w wx) => rcheck_any g _ wx (hg.below hx) hsz)
 have hm2 : g.terms.length ≤ 100000 := by obtain ⟨-, h2, -⟩ := hsz; omega
 obtain ⟨n2, hn2⟩ : ∃ n, n = g.terms.length := ⟨_, rfl⟩
 obtain ⟨n1, hn1⟩ : ∃ n, n = g.names.length := ⟨_, rfl⟩
 obtain ⟨n3, hn3⟩ : ∃ n, n = g.rules.length := ⟨_, rfl⟩
 obtain ⟨n8, hn8⟩ : ∃ n, n = ss.length := ⟨_, rfl⟩
 rw [← hn1, ← hn2, ← hn3] at HB HW0 HFEW HRC ⊢
 rw [← hn8] at hc8 ⊢
 rw [← hn2] at ht
 rw [← hn8] at hx
 have hd : decide ((3 : Int) < (n2 : Int)) = false := decide_eq_false (by omega)
 have hd1 : decide ((6 : Int) < (n8 : Int)) = true := decide_eq_true (by omega)
 clear hw0 hq0 hg hi gn gt hC hO hf hs hsi hsz hn1 hn2 hn3 hn8 hx ht
 obtain ⟨x0, x1, x2, -⟩ := three_of_heap HB.out
 go_enter Tryz.func4, Tryz.ntmps4
 go_upto_region 1 with fail
 rw [← HW0.out, ← HQ0.out]
 go_wp2_with (first | (go_at_call 9; refine HFEW.out.mono ?_; rintro e w1 ⟨rfl, hf1⟩; have HF1 := Lib.hid (HF0.out.tr0 hf1); have HB1 := Lib.hid (hf1.heap HB.out (by simp)); clear hf1; clear x0 x1 x2; obtain ⟨x0, x1, x2, -⟩ := three_of_heap HB1.out) | (go_at_call 10; refine (HAW.out _).mono ?_; rintro e w9 ⟨rfl, hf9⟩))
 go_ret
 exact ⟨rfl, HF1.out.tr0 hf9⟩
set_option maxRecDepth 100000 in
set_option maxHeartbeats 8000000 in
theorem lfo_low (hC : ProgFirst) (hO : ProgFof) (g : GramG) (gv : Value) (k : Int) (ss : List Int) (sv : Value) (w : World) (hg : gramAt w gv g) (hi : IntG g) (gn : ∀ n ∈ g.names, n.length ≤ maxLen) (gt : ∀ n ∈ g.terms, n.length ≤ maxLen) (hs : intsAt w sv ss) (hsi : IntS ss) (hf : fewB g = 1) (ht : g.terms.length ≤ 3) (hl : ss.length ≤ 6) (hx : k < 1) :
  Calls Tryz.prog 4 #[gv, .int .i64 k, sv] w fun e w' => e = .returned (.bool true) ∧ Fr [] w w' := by
 obtain ⟨a1, c1, a2, c2, a3, c3, rfl, HF0, HB⟩ := box_gram hg
 obtain ⟨a8, c8, rfl, hc8, hm8⟩ := hs.form
 obtain ⟨w0, hw0⟩ : ∃ w0, w0 = w.alloc (.cells #[.slice a1 g.names.length c1, .slice a2 g.terms.length c2, .slice a3 g.rules.length c3] 25) := ⟨_, rfl⟩
 obtain ⟨q0, hq0⟩ : ∃ q0, q0 = w.heap.size := ⟨_, rfl⟩
 rw [← hw0] at HF0 HB
 rw [← hq0] at HB
 have HFEW := Lib.hid (rfew_any g _ w0 (hg.below HF0.out) gn gt)
 have HAW := Lib.hid (fun wx => lfawake_any hC wx)
 have HW0 := Lib.hid hw0
 have HQ0 := Lib.hid hq0
 rw [hf] at HFEW
 have hsz := few_size (g := g) (by rw [hf]; decide)
 have HRC := Lib.hid (fun wx (hx : Fr [] w wx) => rcheck_any g _ wx (hg.below hx) hsz)
 have hm2 : g.terms.length ≤ 100000 := by obtain ⟨-, h2, -⟩ := hsz; omega
 obtain ⟨n2, hn2⟩ : ∃ n, n = g.terms.length := ⟨_, rfl⟩
 obtain ⟨n1, hn1⟩ : ∃ n, n = g.names.length := ⟨_, rfl⟩
 obtain ⟨n3, hn3⟩ : ∃ n, n = g.rules.length := ⟨_, rfl⟩
 obtain ⟨n8, hn8⟩ : ∃ n, n = ss.length := ⟨_, rfl⟩
 rw [← hn1, ← hn2, ← hn3] at HB HW0 HFEW HRC ⊢
 rw [← hn8] at hc8 ⊢
 rw [← hn2] at ht
 rw [← hn8] at hl
 have hd : decide ((3 : Int) < (n2 : Int)) = false := decide_eq_false (by omega)
 have hd1 : decide ((6 : Int) < (n8 : Int)) = false := decide_eq_false (by omega)
 have hd2 : decide (k < 1) = true := decide_eq_true hx
 clear hw0 hq0 hg hi gn gt hC hO hf hs hsi hsz hn1 hn2 hn3 hn8 hx ht
 obtain ⟨x0, x1, x2, -⟩ := three_of_heap HB.out
 go_enter Tryz.func4, Tryz.ntmps4
 go_upto_region 1 with fail
 rw [← HW0.out, ← HQ0.out]
 go_wp2_with (first | (go_at_call 9; refine HFEW.out.mono ?_; rintro e w1 ⟨rfl, hf1⟩; have HF1 := Lib.hid (HF0.out.tr0 hf1); have HB1 := Lib.hid (hf1.heap HB.out (by simp)); clear hf1; clear x0 x1 x2; obtain ⟨x0, x1, x2, -⟩ := three_of_heap HB1.out) | (go_at_call 10; refine (HAW.out _).mono ?_; rintro e w9 ⟨rfl, hf9⟩))
 go_ret
 exact ⟨rfl, HF1.out.tr0 hf9⟩
set_option maxRecDepth 100000 in
set_option maxHeartbeats 8000000 in
theorem lfo_high (hC : ProgFirst) (hO : ProgFof) (g : GramG) (gv : Value) (k : Int) (ss : List Int) (sv : Value) (w : World) (hg : gramAt w gv g) (hi : IntG g) (gn : ∀ n ∈ g.names, n.length ≤ maxLen) (gt : ∀ n ∈ g.terms, n.length ≤ maxLen) (hs : intsAt w sv ss) (hsi : IntS ss) (hf : fewB g = 1) (ht : g.terms.length ≤ 3) (hl : ss.length ≤ 6) (hx : 4 < k) :
  Calls Tryz.prog 4 #[gv, .int .i64 k, sv] w fun e w' => e = .returned (.bool true) ∧ Fr [] w w' := by
 obtain ⟨a1, c1, a2, c2, a3, c3, rfl, HF0, HB⟩ := box_gram hg
 obtain ⟨a8, c8, rfl, hc8, hm8⟩ := hs.form
 obtain ⟨w0, hw0⟩ : ∃ w0, w0 = w.alloc (.cells #[.slice a1 g.names.length c1, .slice a2 g.terms.length c2, .slice a3 g.rules.length c3] 25) := ⟨_, rfl⟩
 obtain ⟨q0, hq0⟩ : ∃ q0, q0 = w.heap.size := ⟨_, rfl⟩
 rw [← hw0] at HF0 HB
 rw [← hq0] at HB
 have HFEW := Lib.hid (rfew_any g _ w0 (hg.below HF0.out) gn gt)
 have HAW := Lib.hid (fun wx => lfawake_any hC wx)
 have HW0 := Lib.hid hw0
 have HQ0 := Lib.hid hq0
 rw [hf] at HFEW
 have hsz := few_size (g := g) (by rw [hf]; decide)
 have HRC := Lib.hid (fun wx (hx : Fr [] w wx) => rcheck_any g _ wx (hg.below hx) hsz)
 have hm2 : g.terms.length ≤ 100000 := by obtain ⟨-, h2, -⟩ := hsz; omega
 obtain ⟨n2, hn2⟩ : ∃ n, n = g.terms.length := ⟨_, rfl⟩
 obtain ⟨n1, hn1⟩ : ∃ n, n = g.names.length := ⟨_, rfl⟩
 obtain ⟨n3, hn3⟩ : ∃ n, n = g.rules.length := ⟨_, rfl⟩
 obtain ⟨n8, hn8⟩ : ∃ n, n = ss.length := ⟨_, rfl⟩
 rw [← hn1, ← hn2, ← hn3] at HB HW0 HFEW HRC ⊢
 rw [← hn8] at hc8 ⊢
 rw [← hn2] at ht
 rw [← hn8] at hl
 have hd : decide ((3 : Int) < (n2 : Int)) = false := decide_eq_false (by omega)
 have hd1 : decide ((6 : Int) < (n8 : Int)) = false := decide_eq_false (by omega)
 have hd2 : decide (k < 1) = false := decide_eq_false (by omega)
 have hd3 : decide (4 < k) = true := decide_eq_true hx
 clear hw0 hq0 hg hi gn gt hC hO hf hs hsi hsz hn1 hn2 hn3 hn8 hx ht
 obtain ⟨x0, x1, x2, -⟩ := three_of_heap HB.out
 go_enter Tryz.func4, Tryz.ntmps4
 go_upto_region 1 with fail
 rw [← HW0.out, ← HQ0.out]
 go_wp2_with (first | (go_at_call 9; refine HFEW.out.mono ?_; rintro e w1 ⟨rfl, hf1⟩; have HF1 := Lib.hid (HF0.out.tr0 hf1); have HB1 := Lib.hid (hf1.heap HB.out (by simp)); clear hf1; clear x0 x1 x2; obtain ⟨x0, x1, x2, -⟩ := three_of_heap HB1.out) | (go_at_call 10; refine (HAW.out _).mono ?_; rintro e w9 ⟨rfl, hf9⟩))
 go_ret
 exact ⟨rfl, HF1.out.tr0 hf9⟩
set_option maxRecDepth 100000 in
set_option maxHeartbeats 8000000 in
theorem lfo_check (hC : ProgFirst) (hO : ProgFof) (g : GramG) (gv : Value) (k : Int) (ss : List Int) (sv : Value) (w : World) (hg : gramAt w gv g) (hi : IntG g) (gn : ∀ n ∈ g.names, n.length ≤ maxLen) (gt : ∀ n ∈ g.terms, n.length ≤ maxLen) (hs : intsAt w sv ss) (hsi : IntS ss) (hf : fewB g = 1) (ht : g.terms.length ≤ 3) (hl : ss.length ≤ 6) (hk1 : 1 ≤ k) (hk4 : k ≤ 4) (hx : checkG g ≠ 0) :
  Calls Tryz.prog 4 #[gv, .int .i64 k, sv] w fun e w' => e = .returned (.bool true) ∧ Fr [] w w' := by
 obtain ⟨a1, c1, a2, c2, a3, c3, rfl, HF0, HB⟩ := box_gram hg
 obtain ⟨a8, c8, rfl, hc8, hm8⟩ := hs.form
 obtain ⟨w0, hw0⟩ : ∃ w0, w0 = w.alloc (.cells #[.slice a1 g.names.length c1, .slice a2 g.terms.length c2, .slice a3 g.rules.length c3] 25) := ⟨_, rfl⟩
 obtain ⟨q0, hq0⟩ : ∃ q0, q0 = w.heap.size := ⟨_, rfl⟩
 rw [← hw0] at HF0 HB
 rw [← hq0] at HB
 have HFEW := Lib.hid (rfew_any g _ w0 (hg.below HF0.out) gn gt)
 have HAW := Lib.hid (fun wx => lfawake_any hC wx)
 have HW0 := Lib.hid hw0
 have HQ0 := Lib.hid hq0
 rw [hf] at HFEW
 have hsz := few_size (g := g) (by rw [hf]; decide)
 have HRC := Lib.hid (fun wx (hx : Fr [] w wx) => rcheck_any g _ wx (hg.below hx) hsz)
 have hm2 : g.terms.length ≤ 100000 := by obtain ⟨-, h2, -⟩ := hsz; omega
 obtain ⟨n2, hn2⟩ : ∃ n, n = g.terms.length := ⟨_, rfl⟩
 obtain ⟨n1, hn1⟩ : ∃ n, n = g.names.length := ⟨_, rfl⟩
 obtain ⟨n3, hn3⟩ : ∃ n, n = g.rules.length := ⟨_, rfl⟩
 obtain ⟨n8, hn8⟩ : ∃ n, n = ss.length := ⟨_, rfl⟩
 rw [← hn1, ← hn2, ← hn3] at HB HW0 HFEW HRC ⊢
 rw [← hn8] at hc8 ⊢
 rw [← hn2] at ht
 rw [← hn8] at hl
 have hd : decide ((3 : Int) < (n2 : Int)) = false := decide_eq_false (by omega)
 have hd1 : decide ((6 : Int) < (n8 : Int)) = false := decide_eq_false (by omega)
 have hd2 : decide (k < 1) = false := decide_eq_false (by omega)
 have hd3 : decide (4 < k) = false := decide_eq_false (by omega)
 obtain ⟨C, hCC⟩ : ∃ C, C = checkG g := ⟨_, rfl⟩
 rw [← hCC] at HRC hx
 have hd4 : (C == 0) = false := by rw [beq_eq_false_iff_ne]; exact hx
 clear hCC
 clear hw0 hq0 hg hi gn gt hC hO hf hs hsi hsz hn1 hn2 hn3 hn8 hx ht
 obtain ⟨x0, x1, x2, -⟩ := three_of_heap HB.out
 go_enter Tryz.func4, Tryz.ntmps4
 go_upto_region 1 with fail
 rw [← HW0.out, ← HQ0.out]
 go_wp2_with (first | (go_at_call 9; refine HFEW.out.mono ?_; rintro e w1 ⟨rfl, hf1⟩; have HF1 := Lib.hid (HF0.out.tr0 hf1); have HB1 := Lib.hid (hf1.heap HB.out (by simp)); clear hf1; clear x0 x1 x2; obtain ⟨x0, x1, x2, -⟩ := three_of_heap HB1.out) | (go_at_call 12; have := HB1; refine (HRC.out _ HF1.out).mono ?_; rintro e w3 ⟨rfl, hf3⟩; have HF3 := Lib.hid (HF1.out.tr0 hf3); have HB3 := Lib.hid (hf3.heap HB1.out (by simp)); clear hf3 x0 x1 x2; obtain ⟨x0, x1, x2, -⟩ := three_of_heap HB3.out) | (go_at_call 10; refine (HAW.out _).mono ?_; rintro e w9 ⟨rfl, hf9⟩))
 go_ret
 exact ⟨rfl, HF3.out.tr0 hf9⟩
end Go.Proofs.YtnaamjpiaekmeaaGreat
