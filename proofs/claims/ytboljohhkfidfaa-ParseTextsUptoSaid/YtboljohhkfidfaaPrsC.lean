/- The program's parser (layer 13): add, an item behind the others of the last alternative. -/
import Derived.Test.YtboljohhkfidfaaPrsB
namespace Go.Proofs.Ytboljohhkfidfaa
open Go.RowKit

/-- The row's block, and its last cell. -/
theorem last_one {w : World} {base m : Nat} {e : TypeId} {av cv : Value} {us : List Value} (h : w.ownsRow base e 1 av (m + 1) (us ++ [cv])) (hu : us.length = m) :
    ∃ g cap, av = .slice (some ⟨g, 0, none⟩) (m + 1) cap ∧ m + 1 ≤ cap ∧ cap ≤ maxLen ∧ base ≤ g ∧ (∃ cs, w.heap[g]? = some (.cells cs e (0, 0))) ∧ w.cell? ⟨g, m, none⟩ = some cv ∧ w.frozen? ⟨g, m, none⟩ = false := by
  have hc := fun g hg => h.cells (g := g) hg
  rcases h.2 with ⟨_, h0⟩ | ⟨g, cap, cur, rfl, hb, hg, hn, hm, hs, ht⟩
  · omega
  · have hadd : ∀ j, (⟨g, 0, none⟩ : Addr).add j = ⟨g, j, none⟩ := fun j => by unfold Addr.add; split <;> simp_all
    refine ⟨g, cap, rfl, hn, hm, hb, ⟨cur, hg⟩, ?_, free_of_heap hg _⟩
    have := hc g rfl m cv (by rw [List.getElem?_append_right (by omega), hu]; simp)
    rwa [hadd] at this
set_option maxRecDepth 100000 in
set_option maxHeartbeats 4000000 in
theorem padd_raw (p : Nat) (lv ev nv av cv : Value) (wh : Bool) (base B1 B2 k m : Nat) (C us : List Value) (cur : List ItemD) (it : ItemD) (w : World) (hp : w.heap[p]? = some (.cells #[lv, ev, .bool wh] pP (0, 0))) (hrow : w.ownsRow base pL 2 lv (k + 1) (C ++ [nv, av])) (hC : C.length = k * 2)
    (hu : us.length = m) (harow : w.ownsRow B1 pA 1 av (m + 1) (us ++ [cv])) (hcur : itemsR pI w B2 cv cur) (hB2 : B2 ≤ w.heap.size) (hcl : cur.length ≤ 1000000) (hm : m ≤ 1000000) (hk : k ≤ 1000000) :
    Calls Try.prog 38 #[.pointer (some ⟨p, 0, none⟩), .agg #[.bool it.term, encStr it.text]] w fun e w' => e = .returned (.tuple #[]) ∧ ∃ cv', w'.heap[p]? = some (.cells #[lv, ev, .bool wh] pP (0, 0)) ∧ w'.ownsRow base pL 2 lv (k + 1) (C ++ [nv, av]) ∧
      w'.ownsRow B1 pA 1 av (m + 1) (us ++ [cv']) ∧ itemsR pI w' B2 cv' (cur ++ [it]) ∧ Fr (cv.ownBlock.toList ++ av.ownBlock.toList) w w' := by
  obtain ⟨i0, hi0, hz0, hz1, hz2⟩ := info_parts infoPI
  obtain ⟨tm, tx⟩ := it
  simp only
  obtain ⟨q, hq⟩ : ∃ q, q = w.heap.size := ⟨_, rfl⟩
  have hcur' : w.ownsRow B2 pI 2 cv cur.length (cur.map ItemD.cells).flatten := hcur
  have HLT := Lib.hid (fun k hk => (hcur'.lt k hk).2)
  clear hcur'
  have hf1 := Fr.alloc w (.cells #[.bool tm, encStr tx] pI)
  have hb1 := heap_alloc_new w (.cells #[.bool tm, encStr tx] pI)
  obtain ⟨w1, hw1⟩ : ∃ w1, w1 = w.alloc (.cells #[.bool tm, encStr tx] pI) := ⟨_, rfl⟩
  rw [← hw1] at hf1 hb1
  rw [← hq] at hb1
  have hp1 := hf1.heap hp (by simp)
  have hr1 := owns_kept hrow hf1 (by simp)
  have ha1 := owns_kept harow hf1 (by simp)
  have hc1 := owns_kept hcur hf1 (by simp)
  obtain ⟨g, cap, rfl, hkc, hcm, hbg, hgl, -, -, x1, -⟩ := last_two hr1 hC
  have hcm' : cap ≤ 9223372036854775807 := by simpa [maxLen] using hcm
  obtain ⟨ga, ca, rfl, hac, ham, -, -, u0, -⟩ := last_one ha1 hu
  have ham' : ca ≤ 9223372036854775807 := by simpa [maxLen] using ham
  obtain ⟨a0, c0, rfl, hcc, hcm0⟩ := owns_slice hc1
  have hcm0' : c0 ≤ 9223372036854775807 := by simpa [maxLen] using hcm0
  obtain ⟨y0, y1, y2, z0, z1, z2⟩ := three_of_heap hp1
  have HP := Lib.hid hp1
  have HROW := Lib.hid hr1
  have HAR := Lib.hid ha1
  have HCR := Lib.hid hc1
  have HF1 := Lib.hid hf1
  have HB := Lib.hid hb1
  have HW1 := Lib.hid hw1
  have HQ := Lib.hid hq
  have HU := Lib.hid hu
  clear hp hp1 hrow hr1 harow ha1 hcur hc1 hf1 hb1 hw1 hq hcm ham hcm0 hu
  go_enter Try.func38, Try.ntmps38
  go_upto_region 1 with fail
  rw [← HW1.out, ← HQ.out]
  clear HW1
  go_quiet (fail)
  have hfd : Fr [] w1 (w1.drewN nq) := (Fr.refl [] w1).andDrewN _
  generalize w1.drewN nq = wd at hfd ⊢
  have HFD := Lib.hid hfd
  clear hfd y0 y1 y2 z0 z1 z2 x1 u0
  go_wp2_with fail
  refine wp_region_Y (Value.slice a0 cur.length c0).ownBlock.toList 10 [(0, false), (1, false), (2, false), (3, false), (4, false), (5, false), (6, false), (7, true), (8, true), (9, true), (10, true)] 32 rfl (by kernel_rfl) (by kernel_rfl) (by kernel_rfl) (fun c a d v w h => by cases d <;> exact h) (fun w4 hf4 => ?_)
  simp only [List.map_cons, List.map_nil, List.getElem?_toArray, List.getElem?_cons_succ, List.getElem?_cons_zero, Option.getD_some]
  have hf14 := HFD.out.trans hf4 (by simp) (n := []) (by simp)
  have hc4 := owns_kept HCR.out hf14 (by simp)
  have ha4 := owns_kept HAR.out hf14 (by simp)
  have nA := notT_row hc4 (t := pA) (by decide)
  have nI := notT_row hc4 (t := pP) (by decide)
  have nL := notT_row hc4 (t := pL) (by decide)
  have hqn : q ∉ (Value.slice a0 cur.length c0).ownBlock.toList := fun hm => by
    have h1 := HLT.out q (Option.mem_toList.1 hm)
    have := HQ.out
    omega
  have LA : Hid (Later (Value.slice a0 cur.length c0).ownBlock.toList w4 (fun w' => w'.ownsRow B1 pA 1 (.slice (some ⟨ga, 0, none⟩) (m + 1) ca) (m + 1) (us ++ [.slice a0 cur.length c0]))) := Lib.hid (fun w' hf' => owns_keptT ha4 nA hf')
  have LB : Hid (Later (Value.slice a0 cur.length c0).ownBlock.toList w4 (fun w' => w'.heap[q]? = some (.cells #[.bool tm, encStr tx] pI (0, 0)))) := Lib.hid (fun w' hf' => hf'.heap (hf14.heap HB.out (by simp)) hqn)
  have HC4 := Lib.hid hc4
  have HF4 := Lib.hid hf14
  have HNI := Lib.hid nI
  have HNL := Lib.hid nL
  clear hf4 hf14 hc4 ha4 nA nI nL hqn
  repeat (apply walkZ_t; · (intro w' hf'; obtain ⟨g', ca', e', -, -, -, -, u0, u1⟩ := last_one (LA.out w' hf') HU.out; cases e'; obtain ⟨d0, d1, -, -⟩ := two_of_box (LB.out w' hf'); go_wp2_with fail; exact ⟨rfl, rfl⟩))
  refine walkZ_x ?_
  go_wp2_with fail
  have hfe := Fr.alloc w4 (.cells #[.bool tm, encStr tx] pI)
  refine ⟨hfe.mono (by simp), rfl, ?_⟩
  refine walkZ_x ?_
  have hB2' : B2 ≤ w4.heap.size := by have h1 := HF4.out.size; have h2 := HF1.out.size; omega
  go_wp2_with (at_builtin; refine wpL_appendS rfl _ _ 35 rfl B2 pI i0 _ 2 24 Try.underlying35 hi0 hz0 hz1 hz2 (by rfl) (by decide) (.slice a0 cur.length c0) cur.length _ rfl HC4.out [.bool tm, encStr tx] rfl (by intro u hu; simp at hu; rcases hu with rfl | rfl <;> rfl) rfl (by omega) (by simp [maxLen]; omega) hB2' ?_; intro v5 w5 hown5 hf5 hb5)
  obtain ⟨a5, c5, rfl, hc5, hm5⟩ := owns_slice hown5
  refine ⟨hf5, rfl, ?_⟩
  have hf45 : Fr (Value.slice a0 cur.length c0).ownBlock.toList w4 w5 := hfe.trans hf5 (by simp) (fun _ hk _ => hk)
  have HF45 := Lib.hid hf45
  have HO5 := Lib.hid hown5
  have HB5 := Lib.hid hb5
  have ha5 := LA.out w5 hf45
  obtain ⟨g', ca', e', -, -, -, ⟨cs5, hcs5⟩, u0, u1⟩ := last_one ha5 HU.out
  cases e'
  clear hf45 hown5 hb5 hf5 hfe
  refine walkZ_x ?_
  go_wp2_with fail
  refine ⟨Fr.refl _ _, rfl, ?_⟩
  refine walkZ_x ?_
  go_wp2_with fail
  refine ⟨rfl, walkZ_end ?_⟩
  go_wp2_with fail
  go_end0
  trace_state
  have hs := Fr.set0 w5 ga m (.slice a5 (cur.length + 1) c5)
  have gP : notT w5 [ga] pP := notT_box hcs5 (by decide)
  have gL : notT w5 [ga] pL := notT_box hcs5 (by decide)
  have gI : notT w5 [ga] pI := notT_box hcs5 (by decide)
  have hp4 := HF4.out.heap HP.out (by simp)
  have hp5 := HF45.out.heap hp4 (fun hm => HNI.out p hm _ _ _ hp4 rfl)
  have hr5 := owns_keptT (owns_kept HROW.out HF4.out (by simp)) HNL.out HF45.out
  have h := owns_set ha5 m (.slice a5 (cur.length + 1) c5)
  rw [List.set_append_right _ _ (by rw [HU.out]; omega), HU.out, Nat.sub_self] at h
  refine ⟨rfl, .slice a5 (cur.length + 1) c5, hs.heap hp5 (fun hm => gP p hm _ _ _ hp5 rfl), owns_keptT hr5 gL hs, h, ?_, ?_⟩
  · have h2 : itemsR pI w5 B2 (.slice a5 (cur.length + 1) c5) (cur ++ [⟨tm, tx⟩]) := by
      unfold itemsR
      simpa [ItemD.cells] using HO5.out
    exact h2.kept gI hs
  · exact ((HF1.out.trans HF4.out (by simp) (n := []) (by simp)).trans HF45.out (by simp) (fun i hi _ => hi)).trans hs (fun i hi _ => List.mem_append_left _ hi) (fun i hi _ => List.mem_append_right _ (by simpa [Value.ownBlock] using hi))
end Go.Proofs.Ytboljohhkfidfaa
