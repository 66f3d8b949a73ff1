/- FirstWords (layer 20), over any program that does what it must. Written by wip/tools/gen_frsb.py. -/
import Derived.Test.YtnaamjpiaekmeaaGreatFrsA
import Derived.Test.YtnaamjpiaekmeaaGreatFi
import Derived.Test.YtnaamjpiaekmeaaGreatFiE
import Derived.Test.YtnaamjpiaekmeaaGreatWrD
import Derived.Test.YtnaamjpiaekmeaaGreatAllR
import Derived.Test.YtnaamjpiaekmeaaGreatWsHas
import Derived.Test.YtnaamjpiaekmeaaGreatGrmFw
import Derived.Test.YtnaamjpiaekmeaaGreatMn
import Derived.Test.YtnaamjpiaekmeaaGreatGa
import Derived.Test.YtnaamjpiaekmeaaGreatBs
set_option linter.unusedVariables false
set_option linter.unusedSimpArgs false
namespace Go.Proofs.YtnaamjpiaekmeaaGreat
open Go.RowKit
def FW1 (w : World) (ls : List Words) (A : Words) (nv iv : Value) (wx : World) : Prop := ∃ i : Nat, i ≤ A.length ∧ iv = .int .i64 (i : Int) ∧ nv = .int .i64 ((cntW ls (A.take i) : Nat) : Int) ∧ Fr [] w wx
def FW2 (w : World) (ls : List Words) (c : Nat) (x : List UInt8) (nv av : Value) (wx : World) : Prop := ∃ a : Nat, a ≤ ls.length ∧ av = .int .i64 (a : Int) ∧ nv = .int .i64 ((c + hitsW (ls.take a) x : Nat) : Int) ∧ Fr [] w wx
def FW3 (w : World) (ls : List Words) (nv av : Value) (wx : World) : Prop := ∃ a : Nat, a ≤ ls.length ∧ av = .int .i64 (a : Int) ∧ nv = .int .i64 ((sumW ls : Nat) - (sumW (ls.take a) : Nat) : Int) ∧ Fr [] w wx
def TMid (w : World) (g : GramG) (W : List UInt8) (N : Nat) (tv : Value) (wx : World) : Prop :=
 ∃ q C T F, tv = .pointer (some ⟨q, 0, none⟩) ∧ wx.heap[q]? = some (.cells C 36 (0, 0)) ∧ TabK wx C W N T F ∧ SoundT g W T ∧ SoundF g W F ∧ ClosedT g W T F ∧ Fr [] w wx
theorem sum_take_le (ls : List Words) (a : Nat) : sumW (ls.take a) ≤ sumW ls := by
 have h : sumW ls = sumW (ls.take a) + sumW (ls.drop a) := by
  unfold sumW
  rw [← List.sum_append, ← List.map_append, List.take_append_drop]
 omega
theorem hits_take_le (ls : List Words) (x : List UInt8) (a : Nat) : hitsW (ls.take a) x ≤ ls.length := Nat.le_trans (hits_le _ _) (by rw [List.length_take]; omega)
set_option maxRecDepth 100000 in
set_option maxHeartbeats 8000000 in
theorem lfw_few (hC : ProgFirst) (g : GramG) (gv : Value) (k : Int) (w : World) (hg : gramAt w gv g) (hi : IntG g) (gn : ∀ n ∈ g.names, n.length ≤ maxLen) (gt : ∀ n ∈ g.terms, n.length ≤ maxLen) (hf : fewB g = 0) :
  Calls Tryz.prog 3 #[gv, .int .i64 k] w fun e w' => e = .returned (.bool true) ∧ Fr [] w w' := by
 obtain ⟨a1, c1, a2, c2, a3, c3, rfl, HF0, HB⟩ := box_gram hg
 obtain ⟨w0, hw0⟩ : ∃ w0, w0 = w.alloc (.cells #[.slice a1 g.names.length c1, .slice a2 g.terms.length c2, .slice a3 g.rules.length c3] 25) := ⟨_, rfl⟩
 obtain ⟨q0, hq0⟩ : ∃ q0, q0 = w.heap.size := ⟨_, rfl⟩
 rw [← hw0] at HF0 HB
 rw [← hq0] at HB
 have HFEW := Lib.hid (rfew_any g _ w0 (hg.below HF0.out) gn gt)
 have HAW := Lib.hid (fun wx => lfawake_any hC wx)
 rw [hf] at HFEW
 have HW0 := Lib.hid hw0
 have HQ0 := Lib.hid hq0
 clear hw0 hq0 hg hi gn gt hC hf
 obtain ⟨x0, x1, x2, -⟩ := three_of_heap HB.out
 go_enter Tryz.func3, Tryz.ntmps3
 go_upto_region 1 with fail
 rw [← HW0.out, ← HQ0.out]
 go_wp2_with (first | (go_at_call 9; refine HFEW.out.mono ?_; rintro e w1 ⟨rfl, hf1⟩; have HF1 := Lib.hid (HF0.out.tr0 hf1); have HB1 := Lib.hid (hf1.heap HB.out (by simp)); clear hf1) | (go_at_call 10; refine (HAW.out _).mono ?_; rintro e w9 ⟨rfl, hf9⟩))
 go_ret
 exact ⟨rfl, HF1.out.tr0 hf9⟩
set_option maxRecDepth 100000 in
set_option maxHeartbeats 8000000 in
theorem lfw_terms (hC : ProgFirst) (g : GramG) (gv : Value) (k : Int) (w : World) (hg : gramAt w gv g) (hi : IntG g) (gn : ∀ n ∈ g.names, n.length ≤ maxLen) (gt : ∀ n ∈ g.terms, n.length ≤ maxLen) (hf : fewB g = 1) (ht : 3 < g.terms.length) :
  Calls Tryz.prog 3 #[gv, .int .i64 k] w fun e w' => e = .returned (.bool true) ∧ Fr [] w w' := by
 obtain ⟨a1, c1, a2, c2, a3, c3, rfl, HF0, HB⟩ := box_gram hg
 obtain ⟨w0, hw0⟩ : ∃ w0, w0 = w.alloc (.cells #[.slice a1 g.names.length c1, .slice a2 g.terms.length c2, .slice a3 g.rules.length c3] 25) := ⟨_, rfl⟩
 obtain ⟨q0, hq0⟩ : ∃ q0, q0 = w.heap.size := ⟨_, rfl⟩
 rw [← hw0] at HF0 HB
 rw [← hq0] at HB
 have HFEW := Lib.hid (rfew_any g _ w0 (hg.below HF0.out) gn gt)
 have HAW := Lib.hid (fun wx => lfawake_any hC wx)
 rw [hf] at HFEW
 have HW0 := Lib.hid hw0
 have HQ0 := Lib.hid hq0
 obtain ⟨n2, hn2⟩ : ∃ n, n = g.terms.length := ⟨_, rfl⟩
 have hm2 : n2 ≤ maxLen := by
  obtain ⟨-, h2, -⟩ := few_size (g := g) (by rw [hf]; decide)
  simp only [maxLen]; omega
 rw [← hn2] at HB HW0 HFEW ht ⊢
 have hd : decide ((3 : Int) < (n2 : Int)) = true := decide_eq_true (by omega)
 clear hw0 hq0 hg hi gn gt hC hf ht hn2
 obtain ⟨x0, x1, x2, -⟩ := three_of_heap HB.out
 go_enter Tryz.func3, Tryz.ntmps3
 go_upto_region 1 with fail
 rw [← HW0.out, ← HQ0.out]
 go_wp2_with (first | (go_at_call 9; refine HFEW.out.mono ?_; rintro e w1 ⟨rfl, hf1⟩; have HF1 := Lib.hid (HF0.out.tr0 hf1); have HB1 := Lib.hid (hf1.heap HB.out (by simp)); clear hf1; clear x0 x1 x2; obtain ⟨x0, x1, x2, -⟩ := three_of_heap HB1.out) | (go_at_call 10; refine (HAW.out _).mono ?_; rintro e w9 ⟨rfl, hf9⟩))
 go_ret
 exact ⟨rfl, HF1.out.tr0 hf9⟩
set_option maxRecDepth 100000 in
set_option maxHeartbeats 8000000 in
theorem lfw_low (hC : ProgFirst) (g : GramG) (gv : Value) (k : Int) (w : World) (hg : gramAt w gv g) (hi : IntG g) (gn : ∀ n ∈ g.names, n.length ≤ maxLen) (gt : ∀ n ∈ g.terms, n.length ≤ maxLen) (hf : fewB g = 1) (ht : g.terms.length ≤ 3) (hk : k < 1) :
  Calls Tryz.prog 3 #[gv, .int .i64 k] w fun e w' => e = .returned (.bool true) ∧ Fr [] w w' := by
 obtain ⟨a1, c1, a2, c2, a3, c3, rfl, HF0, HB⟩ := box_gram hg
 obtain ⟨w0, hw0⟩ : ∃ w0, w0 = w.alloc (.cells #[.slice a1 g.names.length c1, .slice a2 g.terms.length c2, .slice a3 g.rules.length c3] 25) := ⟨_, rfl⟩
 obtain ⟨q0, hq0⟩ : ∃ q0, q0 = w.heap.size := ⟨_, rfl⟩
 rw [← hw0] at HF0 HB
 rw [← hq0] at HB
 have HFEW := Lib.hid (rfew_any g _ w0 (hg.below HF0.out) gn gt)
 have HAW := Lib.hid (fun wx => lfawake_any hC wx)
 rw [hf] at HFEW
 have hsz := few_size (g := g) (by rw [hf]; decide)
 have HFS := Lib.hid (fun wx (hx : Fr [] w wx) => hC g _ k wx (hg.below hx) hsz hi)
 have HRC := Lib.hid (fun wx (hx : Fr [] w wx) => rcheck_any g _ wx (hg.below hx) hsz)
 have HOUT := Lib.hid (fun ls c (h : FirstOut g k ls c) => out_arg h (.inl hk))
 have hm2 : g.terms.length ≤ 3 := by omega
 obtain ⟨n2, hn2⟩ : ∃ n, n = g.terms.length := ⟨_, rfl⟩
 obtain ⟨n1, hn1⟩ : ∃ n, n = g.names.length := ⟨_, rfl⟩
 obtain ⟨n3, hn3⟩ : ∃ n, n = g.rules.length := ⟨_, rfl⟩
 have hd : decide ((3 : Int) < (n2 : Int)) = false := decide_eq_false (by omega)
 have HW0 := Lib.hid hw0
 have HQ0 := Lib.hid hq0
 rw [← hn1, ← hn2, ← hn3] at HB HW0 HFEW HFS HRC ⊢
 have hk1 : decide (k < 1) = true := decide_eq_true hk
 clear hw0 hq0 hg hi gn gt hC hf ht hk hn1 hn2 hn3 hm2 hsz
 obtain ⟨x0, x1, x2, -⟩ := three_of_heap HB.out
 go_enter Tryz.func3, Tryz.ntmps3
 go_upto_region 1 with fail
 rw [← HW0.out, ← HQ0.out]
 go_wp2_with (first
  | (go_at_call 9; refine HFEW.out.mono ?_; rintro e w1 ⟨rfl, hf1⟩; have HF1 := Lib.hid (HF0.out.tr0 hf1); have HB1 := Lib.hid (hf1.heap HB.out (by simp)); clear hf1; clear x0 x1 x2; obtain ⟨x0, x1, x2, -⟩ := three_of_heap HB1.out)
  | (go_at_call 11; have := HB1; refine (HFS.out _ HF1.out).mono ?_; rintro e w2 ⟨v2, ls, c, rfl, hs, ho, hf2⟩; obtain ⟨rfl, rfl⟩ := HOUT.out _ _ ho; have HF2 := Lib.hid (HF1.out.tr0 hf2); have HB2 := Lib.hid (hf2.heap HB1.out (by simp)); have HS := Lib.hid hs; obtain ⟨a4, c4, rfl, hc4, hm4⟩ := hs.form; clear hs hf2 ho x0 x1 x2; obtain ⟨x0, x1, x2, -⟩ := three_of_heap HB2.out)
  | (go_at_call 10; refine (HAW.out _).mono ?_; rintro e w9 ⟨rfl, hf9⟩))
 go_ret
 exact ⟨rfl, HF2.out.tr0 hf9⟩
set_option maxRecDepth 100000 in
set_option maxHeartbeats 8000000 in
theorem lfw_high (hC : ProgFirst) (g : GramG) (gv : Value) (k : Int) (w : World) (hg : gramAt w gv g) (hi : IntG g) (gn : ∀ n ∈ g.names, n.length ≤ maxLen) (gt : ∀ n ∈ g.terms, n.length ≤ maxLen) (hf : fewB g = 1) (ht : g.terms.length ≤ 3) (hk : 4 < k) :
  Calls Tryz.prog 3 #[gv, .int .i64 k] w fun e w' => e = .returned (.bool true) ∧ Fr [] w w' := by
 obtain ⟨a1, c1, a2, c2, a3, c3, rfl, HF0, HB⟩ := box_gram hg
 obtain ⟨w0, hw0⟩ : ∃ w0, w0 = w.alloc (.cells #[.slice a1 g.names.length c1, .slice a2 g.terms.length c2, .slice a3 g.rules.length c3] 25) := ⟨_, rfl⟩
 obtain ⟨q0, hq0⟩ : ∃ q0, q0 = w.heap.size := ⟨_, rfl⟩
 rw [← hw0] at HF0 HB
 rw [← hq0] at HB
 have HFEW := Lib.hid (rfew_any g _ w0 (hg.below HF0.out) gn gt)
 have HAW := Lib.hid (fun wx => lfawake_any hC wx)
 rw [hf] at HFEW
 have hsz := few_size (g := g) (by rw [hf]; decide)
 have HFS := Lib.hid (fun wx (hx : Fr [] w wx) => hC g _ k wx (hg.below hx) hsz hi)
 have HRC := Lib.hid (fun wx (hx : Fr [] w wx) => rcheck_any g _ wx (hg.below hx) hsz)
 have HOUT := Lib.hid (fun ls c (h : FirstOut g k ls c) => out_arg h (.inr (.inl hk)))
 have hm2 : g.terms.length ≤ 3 := by omega
 obtain ⟨n2, hn2⟩ : ∃ n, n = g.terms.length := ⟨_, rfl⟩
 obtain ⟨n1, hn1⟩ : ∃ n, n = g.names.length := ⟨_, rfl⟩
 obtain ⟨n3, hn3⟩ : ∃ n, n = g.rules.length := ⟨_, rfl⟩
 have hd : decide ((3 : Int) < (n2 : Int)) = false := decide_eq_false (by omega)
 have HW0 := Lib.hid hw0
 have HQ0 := Lib.hid hq0
 rw [← hn1, ← hn2, ← hn3] at HB HW0 HFEW HFS HRC ⊢
 have hk1 : decide (k < 1) = false := decide_eq_false (by omega)
 have hk2 : decide (4 < k) = true := decide_eq_true hk
 clear hw0 hq0 hg hi gn gt hC hf ht hk hn1 hn2 hn3 hm2 hsz
 obtain ⟨x0, x1, x2, -⟩ := three_of_heap HB.out
 go_enter Tryz.func3, Tryz.ntmps3
 go_upto_region 1 with fail
 rw [← HW0.out, ← HQ0.out]
 go_wp2_with (first
  | (go_at_call 9; refine HFEW.out.mono ?_; rintro e w1 ⟨rfl, hf1⟩; have HF1 := Lib.hid (HF0.out.tr0 hf1); have HB1 := Lib.hid (hf1.heap HB.out (by simp)); clear hf1; clear x0 x1 x2; obtain ⟨x0, x1, x2, -⟩ := three_of_heap HB1.out)
  | (go_at_call 11; have := HB1; refine (HFS.out _ HF1.out).mono ?_; rintro e w2 ⟨v2, ls, c, rfl, hs, ho, hf2⟩; obtain ⟨rfl, rfl⟩ := HOUT.out _ _ ho; have HF2 := Lib.hid (HF1.out.tr0 hf2); have HB2 := Lib.hid (hf2.heap HB1.out (by simp)); have HS := Lib.hid hs; obtain ⟨a4, c4, rfl, hc4, hm4⟩ := hs.form; clear hs hf2 ho x0 x1 x2; obtain ⟨x0, x1, x2, -⟩ := three_of_heap HB2.out)
  | (go_at_call 10; refine (HAW.out _).mono ?_; rintro e w9 ⟨rfl, hf9⟩))
 go_ret
 exact ⟨rfl, HF2.out.tr0 hf9⟩
set_option maxRecDepth 100000 in
set_option maxHeartbeats 8000000 in
theorem lfw_check (hC : ProgFirst) (g : GramG) (gv : Value) (k : Int) (w : World) (hg : gramAt w gv g) (hi : IntG g) (gn : ∀ n ∈ g.names, n.length ≤ maxLen) (gt : ∀ n ∈ g.terms, n.length ≤ maxLen) (hf : fewB g = 1) (ht : g.terms.length ≤ 3) (hk1 : 1 ≤ k) (hk4 : k ≤ 4) (hk : checkG g ≠ 0) :
  Calls Tryz.prog 3 #[gv, .int .i64 k] w fun e w' => e = .returned (.bool true) ∧ Fr [] w w' := by
 obtain ⟨a1, c1, a2, c2, a3, c3, rfl, HF0, HB⟩ := box_gram hg
 obtain ⟨w0, hw0⟩ : ∃ w0, w0 = w.alloc (.cells #[.slice a1 g.names.length c1, .slice a2 g.terms.length c2, .slice a3 g.rules.length c3] 25) := ⟨_, rfl⟩
 obtain ⟨q0, hq0⟩ : ∃ q0, q0 = w.heap.size := ⟨_, rfl⟩
 rw [← hw0] at HF0 HB
 rw [← hq0] at HB
 have HFEW := Lib.hid (rfew_any g _ w0 (hg.below HF0.out) gn gt)
 have HAW := Lib.hid (fun wx => lfawake_any hC wx)
 rw [hf] at HFEW
 have hsz := few_size (g := g) (by rw [hf]; decide)
 have HFS := Lib.hid (fun wx (hx : Fr [] w wx) => hC g _ k wx (hg.below hx) hsz hi)
 have HRC := Lib.hid (fun wx (hx : Fr [] w wx) => rcheck_any g _ wx (hg.below hx) hsz)
 have HOUT := Lib.hid (fun ls c (h : FirstOut g k ls c) => out_arg h (.inr (.inr hk)))
 have hm2 : g.terms.length ≤ 3 := by omega
 obtain ⟨n2, hn2⟩ : ∃ n, n = g.terms.length := ⟨_, rfl⟩
 obtain ⟨n1, hn1⟩ : ∃ n, n = g.names.length := ⟨_, rfl⟩
 obtain ⟨n3, hn3⟩ : ∃ n, n = g.rules.length := ⟨_, rfl⟩
 have hd : decide ((3 : Int) < (n2 : Int)) = false := decide_eq_false (by omega)
 have HW0 := Lib.hid hw0
 have HQ0 := Lib.hid hq0
 rw [← hn1, ← hn2, ← hn3] at HB HW0 HFEW HFS HRC ⊢
 have hk1 : decide (k < 1) = false := decide_eq_false (by omega)
 have hk2 : decide (4 < k) = false := decide_eq_false (by omega)
 obtain ⟨C, hCC⟩ : ∃ C, C = checkG g := ⟨_, rfl⟩
 rw [← hCC] at HRC hk
 have hk3 : (C == 0) = false := by rw [beq_eq_false_iff_ne]; exact hk
 clear hCC
 clear hw0 hq0 hg hi gn gt hC hf ht hk hn1 hn2 hn3 hm2 hsz
 obtain ⟨x0, x1, x2, -⟩ := three_of_heap HB.out
 go_enter Tryz.func3, Tryz.ntmps3
 go_upto_region 1 with fail
 rw [← HW0.out, ← HQ0.out]
 go_wp2_with (first
  | (go_at_call 9; refine HFEW.out.mono ?_; rintro e w1 ⟨rfl, hf1⟩; have HF1 := Lib.hid (HF0.out.tr0 hf1); have HB1 := Lib.hid (hf1.heap HB.out (by simp)); clear hf1; clear x0 x1 x2; obtain ⟨x0, x1, x2, -⟩ := three_of_heap HB1.out)
  | (go_at_call 11; have := HB1; refine (HFS.out _ HF1.out).mono ?_; rintro e w2 ⟨v2, ls, c, rfl, hs, ho, hf2⟩; obtain ⟨rfl, rfl⟩ := HOUT.out _ _ ho; have HF2 := Lib.hid (HF1.out.tr0 hf2); have HB2 := Lib.hid (hf2.heap HB1.out (by simp)); have HS := Lib.hid hs; obtain ⟨a4, c4, rfl, hc4, hm4⟩ := hs.form; clear hs hf2 ho x0 x1 x2; obtain ⟨x0, x1, x2, -⟩ := three_of_heap HB2.out)
  | (go_at_call 10; refine (HAW.out _).mono ?_; rintro e w9 ⟨rfl, hf9⟩)
  | (go_at_call 12; have := HB2; refine (HRC.out _ HF2.out).mono ?_; rintro e w3 ⟨rfl, hf3⟩; have HF3 := Lib.hid (HF2.out.tr0 hf3); have HB3 := Lib.hid (hf3.heap HB2.out (by simp)); clear hf3 x0 x1 x2; obtain ⟨x0, x1, x2, -⟩ := three_of_heap HB3.out))
 go_ret
 exact ⟨rfl, HF3.out.tr0 hf9⟩
end Go.Proofs.YtnaamjpiaekmeaaGreat
