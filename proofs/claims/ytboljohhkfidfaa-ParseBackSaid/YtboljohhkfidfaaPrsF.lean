/- The program's parser (layer 13): colon, body. Written by wip/tools/gen_prf.py. -/
import Derived.Test.YtboljohhkfidfaaPrsE
namespace Go.Proofs.Ytboljohhkfidfaa
open Go.RowKit

theorem BodySt.pset {base p : Nat} {w w' : World} {ev ev' : Value} {wh wh' : Bool} {ls : List LineD} {n : List UInt8} {als : List (List ItemD)} {cur : List ItemD} (h : BodySt base w p ev wh ls n als cur) (hf : Fr [p] w w')
    (hp' : ∀ lv, w.heap[p]? = some (.cells #[lv, ev, .bool wh] pP (0, 0)) → w'.heap[p]? = some (.cells #[lv, ev', .bool wh'] pP (0, 0))) : BodySt base w' p ev' wh' ls n als cur := by
  obtain ⟨hpb, lv, vs, av, us, cv, w1, w2, hp, hv, hrow, hold, k1, s1, ul, har, hao, k2, s2, s3, hir⟩ := h
  have tI : notT w [p] pI := notT_box hp (by decide)
  have tA : notT w [p] pA := notT_box hp (by decide)
  have tL : notT w [p] pL := notT_box hp (by decide)
  refine ⟨hpb, lv, vs, av, us, cv, w1, w2, hp' lv hp, hv, owns_keptT hrow tL hf, hold, k1.fr hf (fun k hm => .inr (fun t ht => ?_)), s1, ul, owns_keptT har tA hf, hao, k2.fr hf (fun k hm => .inr (fun t ht => ?_)), s2, by have := hf.size; omega, itemsR.kept hir tI hf⟩
  · simp only [List.mem_cons, List.not_mem_nil, or_false] at ht
    rcases ht with rfl | rfl
    · exact tI.one hm
    · exact tA.one hm
  · simp only [List.mem_cons, List.not_mem_nil, or_false] at ht
    subst ht
    exact tI.one hm
theorem NameSt.pset {base p : Nat} {w w' : World} {ev ev' : Value} {wh wh' : Bool} {ls : List LineD} (h : NameSt base w p ev wh ls) (hf : Fr [p] w w')
    (hp' : ∀ lv, w.heap[p]? = some (.cells #[lv, ev, .bool wh] pP (0, 0)) → w'.heap[p]? = some (.cells #[lv, ev', .bool wh'] pP (0, 0))) : NameSt base w' p ev' wh' ls := by
  obtain ⟨hpb, lv, hp, hl⟩ := h
  exact ⟨hpb, lv, hp' lv hp, hl.kept (notT_box hp (by decide)) (notT_box hp (by decide)) (notT_box hp (by decide)) hf⟩
theorem ColonSt.below {base p : Nat} {w w' : World} {ev : Value} {wh : Bool} {ls : List LineD} {n : List UInt8} (h : ColonSt base w p ev wh ls n) (hf : Fr [] w w') : ColonSt base w' p ev wh ls n := by
  obtain ⟨hpb, lv, vs, hp, hv, hrow, hold⟩ := h
  exact ⟨hpb, lv, vs, hf.heap hp (by simp), hv, owns_kept hrow hf (by simp), fun i a b => (hold i a b).below hf⟩
theorem NameSt.below {base p : Nat} {w w' : World} {ev : Value} {wh : Bool} {ls : List LineD} (h : NameSt base w p ev wh ls) (hf : Fr [] w w') : NameSt base w' p ev wh ls := by
  obtain ⟨hpb, lv, hp, hl⟩ := h
  exact ⟨hpb, lv, hf.heap hp (by simp), hl.below hf⟩
theorem BodySt.below {base p : Nat} {w w' : World} {ev : Value} {wh : Bool} {ls : List LineD} {n : List UInt8} {als : List (List ItemD)} {cur : List ItemD} (h : BodySt base w p ev wh ls n als cur) (hf : Fr [] w w') : BodySt base w' p ev wh ls n als cur := by
  obtain ⟨hpb, lv, vs, av, us, cv, w1, w2, hp, hv, hrow, hold, k1, s1, ul, har, hao, k2, s2, s3, hir⟩ := h
  exact ⟨hpb, lv, vs, av, us, cv, w1, w2, hf.heap hp (by simp), hv, owns_kept hrow hf (by simp), hold, k1.fr hf (by simp), s1, ul, owns_kept har hf (by simp), hao, k2.fr hf (by simp), s2, by have := hf.size; omega, owns_kept hir hf (by simp)⟩
theorem Fr.belowN {B : Nat} {a b : World} (h : Fr [] a b) (hB : B ≤ a.heap.size) : Below B a b := h.below hB (by simp)
set_option maxRecDepth 100000 in
set_option maxHeartbeats 4000000 in
theorem pcolon_no (p : Nat) (K : Int) (T : List UInt8) (A : Nat) (hK : K ≠ 3) (w : World) :
    Calls Try.prog 21 #[.pointer (some ⟨p, 0, none⟩), tkV K T A] w fun e w' => e = .returned (.bool false) ∧ Fr [] w w' := by
  have hb1 := heap_alloc_new w (.cells #[.int .i64 K, encStr T, .int .i64 (A : Int)] 47)
  obtain ⟨y0, y1, y2, -, -, -⟩ := three_of_heap hb1
  have n1 : (K != 3) = true := by rw [bne_iff_ne]; exact hK
  clear hK
  unfold tkV
  clear hb1
  go_enter Try.func21, Try.ntmps21
  go_wp2_with fail
  go_ret
  exact ⟨rfl, Fr.alloc _ _⟩
set_option maxRecDepth 100000 in
set_option maxHeartbeats 4000000 in
theorem pbody_no (p : Nat) (K : Int) (T : List UInt8) (A : Nat) (h1 : K ≠ 1) (h2 : K ≠ 2) (h4 : K ≠ 4) (h5 : K ≠ 5) (w : World) :
    Calls Try.prog 30 #[.pointer (some ⟨p, 0, none⟩), tkV K T A] w fun e w' => e = .returned (.bool false) ∧ Fr [] w w' := by
  have hb1 := heap_alloc_new w (.cells #[.int .i64 K, encStr T, .int .i64 (A : Int)] 47)
  obtain ⟨y0, y1, y2, -, -, -⟩ := three_of_heap hb1
  have n1 : (K == 1) = false := by rw [beq_eq_false_iff_ne]; exact h1
  have n2 : (K == 2) = false := by rw [beq_eq_false_iff_ne]; exact h2
  have n4 : (K == 4) = false := by rw [beq_eq_false_iff_ne]; exact h4
  have n5 : (K == 5) = false := by rw [beq_eq_false_iff_ne]; exact h5
  clear h1 h2 h4 h5
  unfold tkV
  clear hb1
  go_enter Try.func30, Try.ntmps30
  go_wp2_with fail
  go_ret
  exact ⟨rfl, Fr.alloc _ _⟩
set_option maxRecDepth 100000 in
set_option maxHeartbeats 4000000 in
theorem pcolon_yes (p base : Nat) (ev : Value) (wh : Bool) (ls : List LineD) (n : List UInt8) (T : List UInt8) (A : Nat) (w : World) (hst : ColonSt base w p ev wh ls n) (hbase : base ≤ w.heap.size) (hk : ls.length ≤ 900000) :
    Calls Try.prog 21 #[.pointer (some ⟨p, 0, none⟩), tkV 3 T A] w fun e w' => e = .returned (.bool true) ∧ BodySt base w' p (bodyV p) wh ls n [] [] ∧ Below base w w' := by
  obtain ⟨q, hq⟩ : ∃ q, q = w.heap.size := ⟨_, rfl⟩
  have hf1 := Fr.alloc w (.cells #[.int .i64 3, encStr T, .int .i64 (A : Int)] 47)
  have hb1 := heap_alloc_new w (.cells #[.int .i64 3, encStr T, .int .i64 (A : Int)] 47)
  obtain ⟨w1, hw1⟩ : ∃ w1, w1 = w.alloc (.cells #[.int .i64 3, encStr T, .int .i64 (A : Int)] 47) := ⟨_, rfl⟩
  rw [← hw1] at hf1 hb1
  rw [← hq] at hb1
  obtain ⟨y0, y1, y2, -, -, -⟩ := three_of_heap hb1
  have hbase1 : base ≤ w1.heap.size := by have := hf1.size; omega
  have hbl1 := hf1.belowN hbase
  have HW1 := Lib.hid hw1
  have HQ := Lib.hid hq
  have HBL := Lib.hid hbl1
  have HBE := Lib.hid (pbegin_colon p base ev wh ls n w1 (hst.below hf1) hbase1 (by omega))
  clear hw1 hq hbl1 hf1 hb1 hst
  unfold tkV
  go_enter Try.func21, Try.ntmps21
  go_upto_region 1 with fail
  rw [← HW1.out, ← HQ.out]
  clear HW1
  go_upto_region 4 with (go_at_call 29; refine HBE.out.mono ?_; rintro e w2 ⟨rfl, hst2, hbl2⟩; have HST2 := Lib.hid hst2; have HBL2 := Lib.hid hbl2; clear hst2 hbl2)
  obtain ⟨lv, hp2⟩ : ∃ lv, w2.heap[p]? = some (.cells #[lv, ev, .bool wh] pP (0, 0)) := by obtain ⟨-, lv, _, _, _, _, _, _, hp, -⟩ := HST2.out; exact ⟨lv, hp⟩
  obtain ⟨e0, e1, e2, g0, g1, g2⟩ := three_of_heap hp2
  have HP2 := Lib.hid hp2
  clear hp2
  have hmf := runMf
  go_upto_region 5 with fail
  have h8 : (w2.setCell ⟨p, 1, none⟩ (bodyV p)).heap[p]? = some (.cells #[lv, bodyV p, .bool wh] pP (0, 0)) := heap_setCell_same HP2.out (i := 1) _
  have hs8 := Fr.set0 w2 p 1 (bodyV p)
  obtain ⟨w3, hw3⟩ : ∃ w3, w3 = w2.setCell ⟨p, 1, none⟩ (bodyV p) := ⟨_, rfl⟩
  rw [← hw3] at h8 hs8
  unfold bodyV at hw3
  rw [← hw3]
  clear e0 e1 e2 g0 g1 g2 hw3
  go_wp2_with fail
  go_ret
  refine ⟨rfl, HST2.out.pset hs8 (fun lv' hl => ?_), ?_⟩
  · rw [HP2.out] at hl
    cases hl
    exact h8
  · refine (HBL.out.trans HBL2.out).trans (hs8.below (by have := HBL2.out.size; omega) (fun i hi => ?_))
    obtain rfl : i = p := by simpa using hi
    exact HST2.out.pb
set_option maxRecDepth 100000 in
set_option maxHeartbeats 4000000 in
theorem pbody_item1 (p base : Nat) (ev : Value) (wh : Bool) (ls : List LineD) (n : List UInt8) (als : List (List ItemD)) (cur : List ItemD) (ha : als.length ≤ 900000) (hc : cur.length ≤ 900000) (T : List UInt8) (A : Nat) (w : World) (hst : BodySt base w p ev wh ls n als cur) (hbase : base ≤ w.heap.size) (hk : ls.length ≤ 900000) :
    Calls Try.prog 30 #[.pointer (some ⟨p, 0, none⟩), tkV 1 T A] w fun e w' => e = .returned (.bool true) ∧ BodySt base w' p ev wh ls n als (cur ++ [⟨false, T⟩]) ∧ Below base w w' := by
  obtain ⟨q, hq⟩ : ∃ q, q = w.heap.size := ⟨_, rfl⟩
  have hf1 := Fr.alloc w (.cells #[.int .i64 1, encStr T, .int .i64 (A : Int)] 47)
  have hb1 := heap_alloc_new w (.cells #[.int .i64 1, encStr T, .int .i64 (A : Int)] 47)
  obtain ⟨w1, hw1⟩ : ∃ w1, w1 = w.alloc (.cells #[.int .i64 1, encStr T, .int .i64 (A : Int)] 47) := ⟨_, rfl⟩
  rw [← hw1] at hf1 hb1
  rw [← hq] at hb1
  obtain ⟨y0, y1, y2, -, -, -⟩ := three_of_heap hb1
  have hbase1 : base ≤ w1.heap.size := by have := hf1.size; omega
  have hbl1 := hf1.belowN hbase
  have HW1 := Lib.hid hw1
  have HQ := Lib.hid hq
  have HBL := Lib.hid hbl1
  have HBE := Lib.hid (padd_body p base ev wh ls n als cur ⟨false, T⟩ w1 (hst.below hf1) hbase1 (by omega) (by omega) (by omega))
  clear hw1 hq hbl1 hf1 hb1 hst
  unfold tkV
  go_enter Try.func30, Try.ntmps30
  go_upto_region 1 with fail
  rw [← HW1.out, ← HQ.out]
  clear HW1
  go_wp2_with (go_at_call 38; refine HBE.out.mono ?_; rintro e w2 ⟨rfl, hst2, hbl2⟩)
  go_ret
  exact ⟨rfl, hst2, HBL.out.trans hbl2⟩
set_option maxRecDepth 100000 in
set_option maxHeartbeats 4000000 in
theorem pbody_item2 (p base : Nat) (ev : Value) (wh : Bool) (ls : List LineD) (n : List UInt8) (als : List (List ItemD)) (cur : List ItemD) (ha : als.length ≤ 900000) (hc : cur.length ≤ 900000) (T : List UInt8) (A : Nat) (w : World) (hst : BodySt base w p ev wh ls n als cur) (hbase : base ≤ w.heap.size) (hk : ls.length ≤ 900000) :
    Calls Try.prog 30 #[.pointer (some ⟨p, 0, none⟩), tkV 2 T A] w fun e w' => e = .returned (.bool true) ∧ BodySt base w' p ev wh ls n als (cur ++ [⟨true, T⟩]) ∧ Below base w w' := by
  obtain ⟨q, hq⟩ : ∃ q, q = w.heap.size := ⟨_, rfl⟩
  have hf1 := Fr.alloc w (.cells #[.int .i64 2, encStr T, .int .i64 (A : Int)] 47)
  have hb1 := heap_alloc_new w (.cells #[.int .i64 2, encStr T, .int .i64 (A : Int)] 47)
  obtain ⟨w1, hw1⟩ : ∃ w1, w1 = w.alloc (.cells #[.int .i64 2, encStr T, .int .i64 (A : Int)] 47) := ⟨_, rfl⟩
  rw [← hw1] at hf1 hb1
  rw [← hq] at hb1
  obtain ⟨y0, y1, y2, -, -, -⟩ := three_of_heap hb1
  have hbase1 : base ≤ w1.heap.size := by have := hf1.size; omega
  have hbl1 := hf1.belowN hbase
  have HW1 := Lib.hid hw1
  have HQ := Lib.hid hq
  have HBL := Lib.hid hbl1
  have HBE := Lib.hid (padd_body p base ev wh ls n als cur ⟨true, T⟩ w1 (hst.below hf1) hbase1 (by omega) (by omega) (by omega))
  clear hw1 hq hbl1 hf1 hb1 hst
  unfold tkV
  go_enter Try.func30, Try.ntmps30
  go_upto_region 1 with fail
  rw [← HW1.out, ← HQ.out]
  clear HW1
  go_wp2_with (go_at_call 38; refine HBE.out.mono ?_; rintro e w2 ⟨rfl, hst2, hbl2⟩)
  go_ret
  exact ⟨rfl, hst2, HBL.out.trans hbl2⟩
set_option maxRecDepth 100000 in
set_option maxHeartbeats 4000000 in
theorem pbody_bar (p base : Nat) (ev : Value) (wh : Bool) (ls : List LineD) (n : List UInt8) (als : List (List ItemD)) (cur : List ItemD) (ha : als.length ≤ 900000) (T : List UInt8) (A : Nat) (w : World) (hst : BodySt base w p ev wh ls n als cur) (hbase : base ≤ w.heap.size) (hk : ls.length ≤ 900000) :
    Calls Try.prog 30 #[.pointer (some ⟨p, 0, none⟩), tkV 4 T A] w fun e w' => e = .returned (.bool true) ∧ BodySt base w' p ev wh ls n (als ++ [cur]) [] ∧ Below base w w' := by
  obtain ⟨q, hq⟩ : ∃ q, q = w.heap.size := ⟨_, rfl⟩
  have hf1 := Fr.alloc w (.cells #[.int .i64 4, encStr T, .int .i64 (A : Int)] 47)
  have hb1 := heap_alloc_new w (.cells #[.int .i64 4, encStr T, .int .i64 (A : Int)] 47)
  obtain ⟨w1, hw1⟩ : ∃ w1, w1 = w.alloc (.cells #[.int .i64 4, encStr T, .int .i64 (A : Int)] 47) := ⟨_, rfl⟩
  rw [← hw1] at hf1 hb1
  rw [← hq] at hb1
  obtain ⟨y0, y1, y2, -, -, -⟩ := three_of_heap hb1
  have hbase1 : base ≤ w1.heap.size := by have := hf1.size; omega
  have hbl1 := hf1.belowN hbase
  have HW1 := Lib.hid hw1
  have HQ := Lib.hid hq
  have HBL := Lib.hid hbl1
  have HBE := Lib.hid (pbegin_body p base ev wh ls n als cur w1 (hst.below hf1) hbase1 (by omega) (by omega))
  clear hw1 hq hbl1 hf1 hb1 hst
  unfold tkV
  go_enter Try.func30, Try.ntmps30
  go_upto_region 1 with fail
  rw [← HW1.out, ← HQ.out]
  clear HW1
  go_wp2_with (go_at_call 29; refine HBE.out.mono ?_; rintro e w2 ⟨rfl, hst2, hbl2⟩)
  go_ret
  exact ⟨rfl, hst2, HBL.out.trans hbl2⟩
set_option maxRecDepth 100000 in
set_option maxHeartbeats 4000000 in
theorem pbody_semi (p base : Nat) (ev : Value) (wh : Bool) (ls : List LineD) (n : List UInt8) (als : List (List ItemD)) (cur : List ItemD) (T : List UInt8) (A : Nat) (w : World) (hst : BodySt base w p ev wh ls n als cur) (hbase : base ≤ w.heap.size) (hk : ls.length ≤ 900000) :
    Calls Try.prog 30 #[.pointer (some ⟨p, 0, none⟩), tkV 5 T A] w fun e w' => e = .returned (.bool true) ∧ NameSt base w' p (nameV p) true (ls ++ [⟨n, als ++ [cur]⟩]) ∧ Below base w w' := by
  obtain ⟨q, hq⟩ : ∃ q, q = w.heap.size := ⟨_, rfl⟩
  have hf1 := Fr.alloc w (.cells #[.int .i64 5, encStr T, .int .i64 (A : Int)] 47)
  have hb1 := heap_alloc_new w (.cells #[.int .i64 5, encStr T, .int .i64 (A : Int)] 47)
  obtain ⟨w1, hw1⟩ : ∃ w1, w1 = w.alloc (.cells #[.int .i64 5, encStr T, .int .i64 (A : Int)] 47) := ⟨_, rfl⟩
  rw [← hw1] at hf1 hb1
  rw [← hq] at hb1
  obtain ⟨y0, y1, y2, -, -, -⟩ := three_of_heap hb1
  have hbase1 : base ≤ w1.heap.size := by have := hf1.size; omega
  have hbl1 := hf1.belowN hbase
  have HW1 := Lib.hid hw1
  have HQ := Lib.hid hq
  have HBL := Lib.hid hbl1
  have hst1 := hst.below hf1
  obtain ⟨lv, hp2⟩ : ∃ lv, w1.heap[p]? = some (.cells #[lv, ev, .bool wh] pP (0, 0)) := by obtain ⟨-, lv, _, _, _, _, _, _, hp, -⟩ := hst1; exact ⟨lv, hp⟩
  obtain ⟨e0, e1, e2, g0, g1, g2⟩ := three_of_heap hp2
  have HP2 := Lib.hid hp2
  have HST1 := Lib.hid hst1
  clear hw1 hq hbl1 hf1 hb1 hst hst1 hp2
  unfold tkV
  go_enter Try.func30, Try.ntmps30
  go_upto_region 1 with fail
  rw [← HW1.out, ← HQ.out]
  clear HW1
  go_upto_region 10 with fail
  have h7 : (w1.setCell ⟨p, 2, none⟩ (.bool true)).heap[p]? = some (.cells #[lv, ev, .bool true] pP (0, 0)) := heap_setCell_same HP2.out (i := 2) _
  have hs7 := Fr.set0 w1 p 2 (.bool true)
  generalize w1.setCell ⟨p, 2, none⟩ (.bool true) = w2 at h7 hs7 ⊢
  clear e0 e1 e2 g0 g1 g2
  obtain ⟨e0, e1, e2, g0, g1, g2⟩ := three_of_heap h7
  have HP7 := Lib.hid h7
  have HS7 := Lib.hid hs7
  clear h7 hs7
  have hmf := runMf
  go_upto_region 11 with fail
  have h8 : (w2.setCell ⟨p, 1, none⟩ (nameV p)).heap[p]? = some (.cells #[lv, nameV p, .bool true] pP (0, 0)) := heap_setCell_same HP7.out (i := 1) _
  have hs8 := Fr.set0 w2 p 1 (nameV p)
  obtain ⟨w3, hw3⟩ : ∃ w3, w3 = w2.setCell ⟨p, 1, none⟩ (nameV p) := ⟨_, rfl⟩
  rw [← hw3] at h8 hs8
  unfold nameV at hw3
  rw [← hw3]
  clear e0 e1 e2 g0 g1 g2 hw3
  go_wp2_with fail
  go_ret
  have hf := HS7.out.trans hs8 (n := [p]) (by simp) (by simp)
  refine ⟨rfl, HST1.out.whole.pset hf (fun lv' hl => ?_), ?_⟩
  · rw [HP2.out] at hl
    cases hl
    exact h8
  · refine HBL.out.trans (hf.below hbase1 (fun i hi => ?_))
    obtain rfl : i = p := by simpa using hi
    exact HST1.out.pb
end Go.Proofs.Ytboljohhkfidfaa
