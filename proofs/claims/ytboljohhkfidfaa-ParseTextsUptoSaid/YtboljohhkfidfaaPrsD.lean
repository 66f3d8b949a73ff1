/- The program's parser (layer 13): name. -/
import Derived.Test.YtboljohhkfidfaaPrsC
import Derived.Laws.EntriesVeiled
namespace Go.Proofs.Ytboljohhkfidfaa
open Go.RowKit

def tkV (K : Int) (T : List UInt8) (A : Nat) : Value := .agg #[.int .i64 K, encStr T, .int .i64 (A : Int)]
theorem runMf : ∀ (fn : Fn) (first cap : Array Value) (w : World), (Instr.makeFunc fn first cap).run Try.prog w = .ok (.func fn first cap) w := fun _ _ _ _ => rfl
set_option maxRecDepth 100000 in
set_option maxHeartbeats 4000000 in
theorem pname_no (p : Nat) (K : Int) (T : List UInt8) (A : Nat) (hK : K ≠ 1) (w : World) :
    Calls Try.prog 13 #[.pointer (some ⟨p, 0, none⟩), tkV K T A] w fun e w' => e = .returned (.bool false) ∧ Fr [] w w' := by
  have hb1 := heap_alloc_new w (.cells #[.int .i64 K, encStr T, .int .i64 (A : Int)] 47)
  obtain ⟨y0, y1, y2, -, -, -⟩ := three_of_heap hb1
  have n1 : (K != 1) = true := by rw [bne_iff_ne]; exact hK
  unfold tkV
  clear hb1 hK
  go_enter Try.func13, Try.ntmps13
  go_wp2_with fail
  go_ret
  exact ⟨rfl, Fr.alloc _ _⟩
set_option maxRecDepth 100000 in
set_option maxHeartbeats 4000000 in
theorem pname_yes (p base : Nat) (ev : Value) (wh : Bool) (ls : List LineD) (T : List UInt8) (A : Nat) (w : World) (hst : NameSt base w p ev wh ls) (hbase : base ≤ w.heap.size) (hk : ls.length ≤ 1000000) :
    Calls Try.prog 13 #[.pointer (some ⟨p, 0, none⟩), tkV 1 T A] w fun e w' => e = .returned (.bool true) ∧ ColonSt base w' p (colonV p) false ls T ∧ Below base w w' := by
  obtain ⟨i0, hi0, hz0, hz1, hz2⟩ := info_parts infoPL
  obtain ⟨hpb, lv, hp, hl⟩ := hst
  obtain ⟨q, hq⟩ : ∃ q, q = w.heap.size := ⟨_, rfl⟩
  have hf1 := Fr.alloc w (.cells #[.int .i64 1, encStr T, .int .i64 (A : Int)] 47)
  have hb1 := heap_alloc_new w (.cells #[.int .i64 1, encStr T, .int .i64 (A : Int)] 47)
  obtain ⟨w1, hw1⟩ : ∃ w1, w1 = w.alloc (.cells #[.int .i64 1, encStr T, .int .i64 (A : Int)] 47) := ⟨_, rfl⟩
  rw [← hw1] at hf1 hb1
  rw [← hq] at hb1
  have hp1 := hf1.heap hp (by simp)
  have hl1 := hl.below hf1
  obtain ⟨vs, hve, hr1, hvi⟩ := hl1
  obtain ⟨hrb, hrlt⟩ : base ≤ base ∧ ∀ k, lv.ownBlock = some k → k < w.heap.size := by
    obtain ⟨vs', hve', hr', hvi'⟩ := hl
    exact ⟨Nat.le_refl _, fun k hk => (hr'.lt k hk).2⟩
  obtain ⟨a0, c0, rfl, hcc, hcm⟩ := owns_slice hr1
  have hcm' : c0 ≤ 9223372036854775807 := by simpa [maxLen] using hcm
  obtain ⟨y0, y1, y2, -, -, -⟩ := three_of_heap hb1
  have HP := Lib.hid hp1
  have HR := Lib.hid hr1
  have HVI := Lib.hid hvi
  have HF1 := Lib.hid hf1
  have HB := Lib.hid hb1
  have HW1 := Lib.hid hw1
  have HQ := Lib.hid hq
  have HLT := Lib.hid hrlt
  have HVE := Lib.hid hve
  unfold tkV
  clear hp hp1 hl hr1 hvi hf1 hb1 hw1 hq hcm hrb hrlt hve
  go_enter Try.func13, Try.ntmps13
  go_upto_region 1 with fail
  rw [← HW1.out, ← HQ.out]
  clear HW1
  go_upto_region 3 with fail
  refine wp_region_Z (Value.slice a0 ls.length c0).ownBlock.toList 12 [(0, false), (1, false), (2, false), (3, false), (4, false), (5, false), (6, false), (7, false), (8, true), (9, true), (10, true), (11, true), (12, true)] 28 rfl (by kernel_rfl) (by kernel_rfl) (by kernel_rfl) (fun c a d v w h => by cases d <;> exact h) (fun w4 hf4 => ?_)
  simp only [List.map_cons, List.map_nil, List.getElem?_toArray, List.getElem?_cons_succ, List.getElem?_cons_zero, Option.getD_some]
  have hr4 := owns_kept HR.out hf4 (by simp)
  have hp4 := hf4.heap HP.out (by simp)
  have nP := notT_row hr4 (t := pP) (by decide)
  have nI := notT_row hr4 (t := pI) (by decide)
  have nA := notT_row hr4 (t := pA) (by decide)
  have hqn : q ∉ (Value.slice a0 ls.length c0).ownBlock.toList := fun hm => by
    have h1 := HLT.out q (Option.mem_toList.1 hm)
    have := HQ.out
    omega
  have LP : Hid (Later (Value.slice a0 ls.length c0).ownBlock.toList w4 (fun w' => w'.heap[p]? = some (.cells #[.slice a0 ls.length c0, ev, .bool wh] pP (0, 0)))) := Lib.hid (fun w' hf' => hf'.heap hp4 (fun hm => nP p hm _ _ _ hp4 rfl))
  have LB : Hid (Later (Value.slice a0 ls.length c0).ownBlock.toList w4 (fun w' => w'.heap[q]? = some (.cells #[.int .i64 1, encStr T, .int .i64 (A : Int)] 47 (0, 0)))) := Lib.hid (fun w' hf' => hf'.heap (hf4.heap HB.out (by simp)) hqn)
  have HR4 := Lib.hid hr4
  have HF4 := Lib.hid (HF1.out.trans hf4 (by simp) (n := []) (by simp))
  have HNI := Lib.hid nI
  have HNA := Lib.hid nA
  have HV4 := Lib.hid (fun i h h' => (HVI.out i h h').below hf4)
  clear hf4 hr4 hp4 nP nI nA hqn y0 y1 y2
  repeat (apply walkZ_t; · (intro w' hf'; obtain ⟨c0, c1, c2, f0, f1, f2⟩ := three_of_heap (LP.out w' hf'); obtain ⟨d0, d1, d2, -, -, -⟩ := three_of_heap (LB.out w' hf'); go_wp2_with fail; exact ⟨rfl, rfl⟩))
  refine walkZ_x ?_
  go_wp2_with fail
  have hfe := Fr.alloc w4 (.cells #[encStr T, .slice none 0 0] pL)
  refine ⟨hfe.mono (by simp), rfl, ?_⟩
  refine walkZ_x ?_
  have hB4 : base ≤ w4.heap.size := by have h1 := HF4.out.size; omega
  go_wp2_with (at_builtin; refine wpL_appendS rfl _ _ 23 rfl base pL i0 _ 2 40 Try.underlying23 hi0 hz0 hz1 hz2 (by rfl) (by decide) (.slice a0 ls.length c0) ls.length _ rfl HR4.out [encStr T, .slice none 0 0] rfl (by intro u hu; simp at hu; rcases hu with rfl | rfl <;> rfl) rfl (by omega) (by simp [maxLen]; omega) hB4 ?_; intro v5 w5 hown5 hf5 hb5)
  obtain ⟨a5, c5, rfl, hc5, hm5⟩ := owns_slice hown5
  refine ⟨hf5, rfl, ?_⟩
  have hf45 : Fr (Value.slice a0 ls.length c0).ownBlock.toList w4 w5 := hfe.trans hf5 (by simp) (fun _ hk _ => hk)
  have hp5 := LP.out w5 hf45
  have HF45 := Lib.hid hf45
  have HO5 := Lib.hid hown5
  have HP5 := Lib.hid hp5
  obtain ⟨e0, e1, e2, g0, g1, g2⟩ := three_of_heap hp5
  clear hf45 hown5 hb5 hf5 hfe hp5
  refine walkZ_x ?_
  go_wp2_with fail
  refine ⟨Fr.refl _ _, rfl, ?_⟩
  refine walkZ_x ?_
  go_wp2_with fail
  refine ⟨Fr.refl _ _, rfl, ?_⟩
  refine walkZ_x ?_
  go_wp2_with fail
  refine ⟨rfl, walkZ_end ?_⟩
  have h6 : (w5.setCell ⟨p, 0, none⟩ (.slice a5 (ls.length + 1) c5)).heap[p]? = some (.cells #[.slice a5 (ls.length + 1) c5, ev, .bool wh] pP (0, 0)) := heap_setCell_same HP5.out (i := 0) _
  have hs6 := Fr.set0 w5 p 0 (.slice a5 (ls.length + 1) c5)
  generalize w5.setCell ⟨p, 0, none⟩ (.slice a5 (ls.length + 1) c5) = w6 at h6 hs6 ⊢
  have HS6 := Lib.hid hs6
  have HP6 := Lib.hid h6
  clear e0 e1 e2 g0 g1 g2 hs6
  obtain ⟨e0, e1, e2, g0, g1, g2⟩ := three_of_heap h6
  clear h6
  go_upto_region 5 with fail
  have h7 : (w6.setCell ⟨p, 2, none⟩ (.bool false)).heap[p]? = some (.cells #[.slice a5 (ls.length + 1) c5, ev, .bool false] pP (0, 0)) := heap_setCell_same HP6.out (i := 2) _
  have hs7 := Fr.set0 w6 p 2 (.bool false)
  generalize w6.setCell ⟨p, 2, none⟩ (.bool false) = w7 at h7 hs7 ⊢
  have HS7 := Lib.hid hs7
  have HP7 := Lib.hid h7
  clear e0 e1 e2 g0 g1 g2 hs7
  obtain ⟨e0, e1, e2, g0, g1, g2⟩ := three_of_heap h7
  clear h7
  have hmf := runMf
  go_upto_region 6 with fail
  have h8 : (w7.setCell ⟨p, 1, none⟩ (colonV p)).heap[p]? = some (.cells #[.slice a5 (ls.length + 1) c5, colonV p, .bool false] pP (0, 0)) := heap_setCell_same HP7.out (i := 1) _
  have hs8 := Fr.set0 w7 p 1 (colonV p)
  obtain ⟨w8, hw8⟩ : ∃ w8, w8 = w7.setCell ⟨p, 1, none⟩ (colonV p) := ⟨_, rfl⟩
  rw [← hw8] at h8 hs8
  have HW8 := Lib.hid hw8
  unfold colonV at hw8
  rw [← hw8]
  clear e0 e1 e2 g0 g1 g2 hw8
  go_wp2_with fail
  go_ret
  have hf58 : Fr [p] w5 w8 := (HS6.out.trans HS7.out (n := [p]) (by simp) (by simp)).trans hs8 (by simp) (by simp)
  have tI : notT w5 [p] pI := notT_box HP5.out (by decide)
  have tA : notT w5 [p] pA := notT_box HP5.out (by decide)
  have tL : notT w5 [p] pL := notT_box HP5.out (by decide)
  refine ⟨rfl, ⟨hpb, _, vs, h8, HVE.out, ?_, fun i h h' => ((HV4.out i h h').kept HNI.out HNA.out HF45.out).kept tI tA hf58⟩, ?_⟩
  · exact owns_keptT HO5.out tL hf58
  · refine ((HF4.out.trans HF45.out (by simp) (fun i hi _ => hi)).trans hf58 (n := (Value.slice a0 ls.length c0).ownBlock.toList ++ [p]) (fun i hi _ => List.mem_append_left _ hi) (fun i hi _ => List.mem_append_right _ hi)).below hbase (fun i hi => ?_)
    rcases List.mem_append.1 hi with h | h
    · exact (HR4.out.lt i (Option.mem_toList.1 h)).1
    · have : i = p := by simpa using h
      omega
end Go.Proofs.Ytboljohhkfidfaa
