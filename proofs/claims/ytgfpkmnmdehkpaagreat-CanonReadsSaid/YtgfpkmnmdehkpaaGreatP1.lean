/- Several texts in one: PrsC, PrsD, PrsE, PrsF. -/
import Derived.Laws.EntriesVeiled
import Derived.Test.YtgfpkmnmdehkpaaGreatP0
set_option linter.unusedVariables false
set_option linter.unusedSimpArgs false
/-! The program's parser (layer 13): add, an item behind the others of the last alternative. -/
namespace Go.Proofs.YtgfpkmnmdehkpaaGreat
open Go.RowKit

/-- The row's block, and its last cell. -/
theorem last_one {w : World} {base m : Nat} {e : TypeId} {av cv : Value} {us : List Value} (h : w.ownsRow base e 1 av (m + 1) (us ++ [cv])) (hu : us.length = m) :
    ∃ g cap, av = .slice (some ⟨g, 0, none⟩) (m + 1) cap ∧ m + 1 ≤ cap ∧ cap ≤ maxLen ∧ base ≤ g ∧ (∃ cs, w.heap[g]? = some (.cells cs e (0, 0))) ∧ w.cell? ⟨g, m, none⟩ = some cv ∧ w.frozen? ⟨g, m, none⟩ = false := by
  have hc := fun g hg => h.cells (g := g) hg
  rcases h.2 with ⟨_, h0⟩ | ⟨g, cap, cur, rfl, hb, hg, hn, hm, hs, ht⟩
  · omega
  · have hadd : ∀ j, (⟨g, 0, none⟩ : Addr).add j = ⟨g, j, none⟩ := fun j => by unfold Addr.add; split <;> simp_all
    refine ⟨g, cap, rfl, hn, hm, hb, ⟨cur, hg⟩, ?_, free_of_heap hg _⟩
    have := hc g rfl m cv (by rw [List.getElem?_append_right (by omega), hu]; simp)
    rwa [hadd] at this
set_option maxRecDepth 100000 in
set_option maxHeartbeats 4000000 in
theorem padd_raw (p : Nat) (lv ev nv av cv : Value) (wh : Bool) (base B1 B2 k m : Nat) (C us : List Value) (cur : List ItemD) (it : ItemD) (w : World) (hp : w.heap[p]? = some (.cells #[lv, ev, .bool wh] pP (0, 0))) (hrow : w.ownsRow base pL 2 lv (k + 1) (C ++ [nv, av])) (hC : C.length = k * 2)
    (hu : us.length = m) (harow : w.ownsRow B1 pA 1 av (m + 1) (us ++ [cv])) (hcur : itemsR pI w B2 cv cur) (hB2 : B2 ≤ w.heap.size) (hcl : cur.length ≤ 1000000) (hm : m ≤ 1000000) (hk : k ≤ 1000000) :
    Calls Tryz.prog 139 #[.pointer (some ⟨p, 0, none⟩), .agg #[.bool it.term, encStr it.text]] w fun e w' => e = .returned (.tuple #[]) ∧ ∃ cv', w'.heap[p]? = some (.cells #[lv, ev, .bool wh] pP (0, 0)) ∧ w'.ownsRow base pL 2 lv (k + 1) (C ++ [nv, av]) ∧
      w'.ownsRow B1 pA 1 av (m + 1) (us ++ [cv']) ∧ itemsR pI w' B2 cv' (cur ++ [it]) ∧ Fr (cv.ownBlock.toList ++ av.ownBlock.toList) w w' := by
  obtain ⟨i0, hi0, hz0, hz1, hz2⟩ := info_parts infoPI
  obtain ⟨tm, tx⟩ := it
  simp only
  obtain ⟨q, hq⟩ : ∃ q, q = w.heap.size := ⟨_, rfl⟩
  have hcur' : w.ownsRow B2 pI 2 cv cur.length (cur.map ItemD.cells).flatten := hcur
  have HLT := Lib.hid (fun k hk => (hcur'.lt k hk).2)
  clear hcur'
  have hf1 := Fr.alloc w (.cells #[.bool tm, encStr tx] pI)
  have hb1 := heap_alloc_new w (.cells #[.bool tm, encStr tx] pI)
  obtain ⟨w1, hw1⟩ : ∃ w1, w1 = w.alloc (.cells #[.bool tm, encStr tx] pI) := ⟨_, rfl⟩
  rw [← hw1] at hf1 hb1
  rw [← hq] at hb1
  have hp1 := hf1.heap hp (by simp)
  have hr1 := owns_kept hrow hf1 (by simp)
  have ha1 := owns_kept harow hf1 (by simp)
  have hc1 := owns_kept hcur hf1 (by simp)
  obtain ⟨g, cap, rfl, hkc, hcm, hbg, hgl, -, -, x1, -⟩ := last_two hr1 hC
  have hcm' : cap ≤ 9223372036854775807 := by simpa [maxLen] using hcm
  obtain ⟨ga, ca, rfl, hac, ham, -, -, u0, -⟩ := last_one ha1 hu
  have ham' : ca ≤ 9223372036854775807 := by simpa [maxLen] using ham
  obtain ⟨a0, c0, rfl, hcc, hcm0⟩ := owns_slice hc1
  have hcm0' : c0 ≤ 9223372036854775807 := by simpa [maxLen] using hcm0
  obtain ⟨y0, y1, y2, z0, z1, z2⟩ := three_of_heap hp1
  have HP := Lib.hid hp1
  have HROW := Lib.hid hr1
  have HAR := Lib.hid ha1
  have HCR := Lib.hid hc1
  have HF1 := Lib.hid hf1
  have HB := Lib.hid hb1
  have HW1 := Lib.hid hw1
  have HQ := Lib.hid hq
  have HU := Lib.hid hu
  clear hp hp1 hrow hr1 harow ha1 hcur hc1 hf1 hb1 hw1 hq hcm ham hcm0 hu
  go_enter Tryz.func139, Tryz.ntmps139
  go_upto_region 1 with fail
  rw [← HW1.out, ← HQ.out]
  clear HW1
  go_quiet (fail)
  have hfd : Fr [] w1 (w1.drewN nq) := (Fr.refl [] w1).andDrewN _
  generalize w1.drewN nq = wd at hfd ⊢
  have HFD := Lib.hid hfd
  clear hfd y0 y1 y2 z0 z1 z2 x1 u0
  go_wp2_with fail
  refine wp_region_Y (Value.slice a0 cur.length c0).ownBlock.toList 10 [(0, false), (1, false), (2, false), (3, false), (4, false), (5, false), (6, false), (7, true), (8, true), (9, true), (10, true)] 32 rfl (by kernel_rfl) (by kernel_rfl) (by kernel_rfl) (fun c a d v w h => by cases d <;> exact h) (fun w4 hf4 => ?_)
  simp only [List.map_cons, List.map_nil, List.getElem?_toArray, List.getElem?_cons_succ, List.getElem?_cons_zero, Option.getD_some]
  have hf14 := HFD.out.trans hf4 (by simp) (n := []) (by simp)
  have hc4 := owns_kept HCR.out hf14 (by simp)
  have ha4 := owns_kept HAR.out hf14 (by simp)
  have nA := notT_row hc4 (t := pA) (by decide)
  have nI := notT_row hc4 (t := pP) (by decide)
  have nL := notT_row hc4 (t := pL) (by decide)
  have hqn : q ∉ (Value.slice a0 cur.length c0).ownBlock.toList := fun hm => by
    have h1 := HLT.out q (Option.mem_toList.1 hm)
    have := HQ.out
    omega
  have LA : Hid (Later (Value.slice a0 cur.length c0).ownBlock.toList w4 (fun w' => w'.ownsRow B1 pA 1 (.slice (some ⟨ga, 0, none⟩) (m + 1) ca) (m + 1) (us ++ [.slice a0 cur.length c0]))) := Lib.hid (fun w' hf' => owns_keptT ha4 nA hf')
  have LB : Hid (Later (Value.slice a0 cur.length c0).ownBlock.toList w4 (fun w' => w'.heap[q]? = some (.cells #[.bool tm, encStr tx] pI (0, 0)))) := Lib.hid (fun w' hf' => hf'.heap (hf14.heap HB.out (by simp)) hqn)
  have HC4 := Lib.hid hc4
  have HF4 := Lib.hid hf14
  have HNI := Lib.hid nI
  have HNL := Lib.hid nL
  clear hf4 hf14 hc4 ha4 nA nI nL hqn
  repeat (apply walkZ_t; · (intro w' hf'; obtain ⟨g', ca', e', -, -, -, -, u0, u1⟩ := last_one (LA.out w' hf') HU.out; cases e'; obtain ⟨d0, d1, -, -⟩ := two_of_box (LB.out w' hf'); go_wp2_with fail; exact ⟨rfl, rfl⟩))
  refine walkZ_x ?_
  go_wp2_with fail
  have hfe := Fr.alloc w4 (.cells #[.bool tm, encStr tx] pI)
  refine ⟨hfe.mono (by simp), rfl, ?_⟩
  refine walkZ_x ?_
  have hB2' : B2 ≤ w4.heap.size := by have h1 := HF4.out.size; have h2 := HF1.out.size; omega
  go_wp2_with (at_builtin; refine wpL_appendS rfl _ _ 97 rfl B2 pI i0 _ 2 24 Tryz.underlying97 hi0 hz0 hz1 hz2 (by rfl) (by decide) (.slice a0 cur.length c0) cur.length _ rfl HC4.out [.bool tm, encStr tx] rfl (by intro u hu; simp at hu; rcases hu with rfl | rfl <;> rfl) rfl (by omega) (by simp [maxLen]; omega) hB2' ?_; intro v5 w5 hown5 hf5 hb5)
  obtain ⟨a5, c5, rfl, hc5, hm5⟩ := owns_slice hown5
  refine ⟨hf5, rfl, ?_⟩
  have hf45 : Fr (Value.slice a0 cur.length c0).ownBlock.toList w4 w5 := hfe.trans hf5 (by simp) (fun _ hk _ => hk)
  have HF45 := Lib.hid hf45
  have HO5 := Lib.hid hown5
  have HB5 := Lib.hid hb5
  have ha5 := LA.out w5 hf45
  obtain ⟨g', ca', e', -, -, -, ⟨cs5, hcs5⟩, u0, u1⟩ := last_one ha5 HU.out
  cases e'
  clear hf45 hown5 hb5 hf5 hfe
  refine walkZ_x ?_
  go_wp2_with fail
  refine ⟨Fr.refl _ _, rfl, ?_⟩
  refine walkZ_x ?_
  go_wp2_with fail
  refine ⟨rfl, walkZ_end ?_⟩
  go_wp2_with fail
  go_end0
  have hs := Fr.set0 w5 ga m (.slice a5 (cur.length + 1) c5)
  have gP : notT w5 [ga] pP := notT_box hcs5 (by decide)
  have gL : notT w5 [ga] pL := notT_box hcs5 (by decide)
  have gI : notT w5 [ga] pI := notT_box hcs5 (by decide)
  have hp4 := HF4.out.heap HP.out (by simp)
  have hp5 := HF45.out.heap hp4 (fun hm => HNI.out p hm _ _ _ hp4 rfl)
  have hr5 := owns_keptT (owns_kept HROW.out HF4.out (by simp)) HNL.out HF45.out
  have h := owns_set ha5 m (.slice a5 (cur.length + 1) c5)
  rw [List.set_append_right _ _ (by rw [HU.out]; omega), HU.out, Nat.sub_self] at h
  refine ⟨rfl, .slice a5 (cur.length + 1) c5, hs.heap hp5 (fun hm => gP p hm _ _ _ hp5 rfl), owns_keptT hr5 gL hs, h, ?_, ?_⟩
  · have h2 : itemsR pI w5 B2 (.slice a5 (cur.length + 1) c5) (cur ++ [⟨tm, tx⟩]) := by
      unfold itemsR
      simpa [ItemD.cells] using HO5.out
    exact h2.kept gI hs
  · exact ((HF1.out.trans HF4.out (by simp) (n := []) (by simp)).trans HF45.out (by simp) (fun i hi _ => hi)).trans hs (fun i hi _ => List.mem_append_left _ hi) (fun i hi _ => List.mem_append_right _ (by simpa [Value.ownBlock] using hi))
end Go.Proofs.YtgfpkmnmdehkpaaGreat

/-! The program's parser (layer 13): name. -/
namespace Go.Proofs.YtgfpkmnmdehkpaaGreat
open Go.RowKit

def tkV (K : Int) (T : List UInt8) (A : Nat) : Value := .agg #[.int .i64 K, encStr T, .int .i64 (A : Int)]
theorem runMf : ∀ (fn : Fn) (first cap : Array Value) (w : World), (Instr.makeFunc fn first cap).run Tryz.prog w = .ok (.func fn first cap) w := fun _ _ _ _ => rfl
set_option maxRecDepth 100000 in
set_option maxHeartbeats 4000000 in
theorem pname_no (p : Nat) (K : Int) (T : List UInt8) (A : Nat) (hK : K ≠ 1) (w : World) :
    Calls Tryz.prog 47 #[.pointer (some ⟨p, 0, none⟩), tkV K T A] w fun e w' => e = .returned (.bool false) ∧ Fr [] w w' := by
  have hb1 := heap_alloc_new w (.cells #[.int .i64 K, encStr T, .int .i64 (A : Int)] 85)
  obtain ⟨y0, y1, y2, -, -, -⟩ := three_of_heap hb1
  have n1 : (K != 1) = true := by rw [bne_iff_ne]; exact hK
  unfold tkV
  clear hb1 hK
  go_enter Tryz.func47, Tryz.ntmps47
  go_wp2_with fail
  go_ret
  exact ⟨rfl, Fr.alloc _ _⟩
set_option maxRecDepth 100000 in
set_option maxHeartbeats 4000000 in
theorem pname_yes (p base : Nat) (ev : Value) (wh : Bool) (ls : List LineD) (T : List UInt8) (A : Nat) (w : World) (hst : NameSt base w p ev wh ls) (hbase : base ≤ w.heap.size) (hk : ls.length ≤ 1000000) :
    Calls Tryz.prog 47 #[.pointer (some ⟨p, 0, none⟩), tkV 1 T A] w fun e w' => e = .returned (.bool true) ∧ ColonSt base w' p (colonV p) false ls T ∧ Below base w w' := by
  obtain ⟨i0, hi0, hz0, hz1, hz2⟩ := info_parts infoPL
  obtain ⟨hpb, lv, hp, hl⟩ := hst
  obtain ⟨q, hq⟩ : ∃ q, q = w.heap.size := ⟨_, rfl⟩
  have hf1 := Fr.alloc w (.cells #[.int .i64 1, encStr T, .int .i64 (A : Int)] 85)
  have hb1 := heap_alloc_new w (.cells #[.int .i64 1, encStr T, .int .i64 (A : Int)] 85)
  obtain ⟨w1, hw1⟩ : ∃ w1, w1 = w.alloc (.cells #[.int .i64 1, encStr T, .int .i64 (A : Int)] 85) := ⟨_, rfl⟩
  rw [← hw1] at hf1 hb1
  rw [← hq] at hb1
  have hp1 := hf1.heap hp (by simp)
  have hl1 := hl.below hf1
  obtain ⟨vs, hve, hr1, hvi⟩ := hl1
  obtain ⟨hrb, hrlt⟩ : base ≤ base ∧ ∀ k, lv.ownBlock = some k → k < w.heap.size := by
    obtain ⟨vs', hve', hr', hvi'⟩ := hl
    exact ⟨Nat.le_refl _, fun k hk => (hr'.lt k hk).2⟩
  obtain ⟨a0, c0, rfl, hcc, hcm⟩ := owns_slice hr1
  have hcm' : c0 ≤ 9223372036854775807 := by simpa [maxLen] using hcm
  obtain ⟨y0, y1, y2, -, -, -⟩ := three_of_heap hb1
  have HP := Lib.hid hp1
  have HR := Lib.hid hr1
  have HVI := Lib.hid hvi
  have HF1 := Lib.hid hf1
  have HB := Lib.hid hb1
  have HW1 := Lib.hid hw1
  have HQ := Lib.hid hq
  have HLT := Lib.hid hrlt
  have HVE := Lib.hid hve
  unfold tkV
  clear hp hp1 hl hr1 hvi hf1 hb1 hw1 hq hcm hrb hrlt hve
  go_enter Tryz.func47, Tryz.ntmps47
  go_upto_region 1 with fail
  rw [← HW1.out, ← HQ.out]
  clear HW1
  go_upto_region 3 with fail
  refine wp_region_Z (Value.slice a0 ls.length c0).ownBlock.toList 12 [(0, false), (1, false), (2, false), (3, false), (4, false), (5, false), (6, false), (7, false), (8, true), (9, true), (10, true), (11, true), (12, true)] 28 rfl (by kernel_rfl) (by kernel_rfl) (by kernel_rfl) (fun c a d v w h => by cases d <;> exact h) (fun w4 hf4 => ?_)
  simp only [List.map_cons, List.map_nil, List.getElem?_toArray, List.getElem?_cons_succ, List.getElem?_cons_zero, Option.getD_some]
  have hr4 := owns_kept HR.out hf4 (by simp)
  have hp4 := hf4.heap HP.out (by simp)
  have nP := notT_row hr4 (t := pP) (by decide)
  have nI := notT_row hr4 (t := pI) (by decide)
  have nA := notT_row hr4 (t := pA) (by decide)
  have hqn : q ∉ (Value.slice a0 ls.length c0).ownBlock.toList := fun hm => by
    have h1 := HLT.out q (Option.mem_toList.1 hm)
    have := HQ.out
    omega
  have LP : Hid (Later (Value.slice a0 ls.length c0).ownBlock.toList w4 (fun w' => w'.heap[p]? = some (.cells #[.slice a0 ls.length c0, ev, .bool wh] pP (0, 0)))) := Lib.hid (fun w' hf' => hf'.heap hp4 (fun hm => nP p hm _ _ _ hp4 rfl))
  have LB : Hid (Later (Value.slice a0 ls.length c0).ownBlock.toList w4 (fun w' => w'.heap[q]? = some (.cells #[.int .i64 1, encStr T, .int .i64 (A : Int)] 85 (0, 0)))) := Lib.hid (fun w' hf' => hf'.heap (hf4.heap HB.out (by simp)) hqn)
  have HR4 := Lib.hid hr4
  have HF4 := Lib.hid (HF1.out.trans hf4 (by simp) (n := []) (by simp))
  have HNI := Lib.hid nI
  have HNA := Lib.hid nA
  have HV4 := Lib.hid (fun i h h' => (HVI.out i h h').below hf4)
  clear hf4 hr4 hp4 nP nI nA hqn y0 y1 y2
  repeat (apply walkZ_t; · (intro w' hf'; obtain ⟨c0, c1, c2, f0, f1, f2⟩ := three_of_heap (LP.out w' hf'); obtain ⟨d0, d1, d2, -, -, -⟩ := three_of_heap (LB.out w' hf'); go_wp2_with fail; exact ⟨rfl, rfl⟩))
  refine walkZ_x ?_
  go_wp2_with fail
  have hfe := Fr.alloc w4 (.cells #[encStr T, .slice none 0 0] pL)
  refine ⟨hfe.mono (by simp), rfl, ?_⟩
  refine walkZ_x ?_
  have hB4 : base ≤ w4.heap.size := by have h1 := HF4.out.size; omega
  go_wp2_with (at_builtin; refine wpL_appendS rfl _ _ 43 rfl base pL i0 _ 2 40 Tryz.underlying43 hi0 hz0 hz1 hz2 (by rfl) (by decide) (.slice a0 ls.length c0) ls.length _ rfl HR4.out [encStr T, .slice none 0 0] rfl (by intro u hu; simp at hu; rcases hu with rfl | rfl <;> rfl) rfl (by omega) (by simp [maxLen]; omega) hB4 ?_; intro v5 w5 hown5 hf5 hb5)
  obtain ⟨a5, c5, rfl, hc5, hm5⟩ := owns_slice hown5
  refine ⟨hf5, rfl, ?_⟩
  have hf45 : Fr (Value.slice a0 ls.length c0).ownBlock.toList w4 w5 := hfe.trans hf5 (by simp) (fun _ hk _ => hk)
  have hp5 := LP.out w5 hf45
  have HF45 := Lib.hid hf45
  have HO5 := Lib.hid hown5
  have HP5 := Lib.hid hp5
  obtain ⟨e0, e1, e2, g0, g1, g2⟩ := three_of_heap hp5
  clear hf45 hown5 hb5 hf5 hfe hp5
  refine walkZ_x ?_
  go_wp2_with fail
  refine ⟨Fr.refl _ _, rfl, ?_⟩
  refine walkZ_x ?_
  go_wp2_with fail
  refine ⟨Fr.refl _ _, rfl, ?_⟩
  refine walkZ_x ?_
  go_wp2_with fail
  refine ⟨rfl, walkZ_end ?_⟩
  have h6 : (w5.setCell ⟨p, 0, none⟩ (.slice a5 (ls.length + 1) c5)).heap[p]? = some (.cells #[.slice a5 (ls.length + 1) c5, ev, .bool wh] pP (0, 0)) := heap_setCell_same HP5.out (i := 0) _
  have hs6 := Fr.set0 w5 p 0 (.slice a5 (ls.length + 1) c5)
  generalize w5.setCell ⟨p, 0, none⟩ (.slice a5 (ls.length + 1) c5) = w6 at h6 hs6 ⊢
  have HS6 := Lib.hid hs6
  have HP6 := Lib.hid h6
  clear e0 e1 e2 g0 g1 g2 hs6
  obtain ⟨e0, e1, e2, g0, g1, g2⟩ := three_of_heap h6
  clear h6
  go_upto_region 5 with fail
  have h7 : (w6.setCell ⟨p, 2, none⟩ (.bool false)).heap[p]? = some (.cells #[.slice a5 (ls.length + 1) c5, ev, .bool false] pP (0, 0)) := heap_setCell_same HP6.out (i := 2) _
  have hs7 := Fr.set0 w6 p 2 (.bool false)
  generalize w6.setCell ⟨p, 2, none⟩ (.bool false) = w7 at h7 hs7 ⊢
  have HS7 := Lib.hid hs7
  have HP7 := Lib.hid h7
  clear e0 e1 e2 g0 g1 g2 hs7
  obtain ⟨e0, e1, e2, g0, g1, g2⟩ := three_of_heap h7
  clear h7
  have hmf := runMf
  go_upto_region 6 with fail
  have h8 : (w7.setCell ⟨p, 1, none⟩ (colonV p)).heap[p]? = some (.cells #[.slice a5 (ls.length + 1) c5, colonV p, .bool false] pP (0, 0)) := heap_setCell_same HP7.out (i := 1) _
  have hs8 := Fr.set0 w7 p 1 (colonV p)
  obtain ⟨w8, hw8⟩ : ∃ w8, w8 = w7.setCell ⟨p, 1, none⟩ (colonV p) := ⟨_, rfl⟩
  rw [← hw8] at h8 hs8
  have HW8 := Lib.hid hw8
  unfold colonV at hw8
  rw [← hw8]
  clear e0 e1 e2 g0 g1 g2 hw8
  go_wp2_with fail
  go_ret
  have hf58 : Fr [p] w5 w8 := (HS6.out.trans HS7.out (n := [p]) (by simp) (by simp)).trans hs8 (by simp) (by simp)
  have tI : notT w5 [p] pI := notT_box HP5.out (by decide)
  have tA : notT w5 [p] pA := notT_box HP5.out (by decide)
  have tL : notT w5 [p] pL := notT_box HP5.out (by decide)
  refine ⟨rfl, ⟨hpb, _, vs, h8, HVE.out, ?_, fun i h h' => ((HV4.out i h h').kept HNI.out HNA.out HF45.out).kept tI tA hf58⟩, ?_⟩
  · exact owns_keptT HO5.out tL hf58
  · refine ((HF4.out.trans HF45.out (by simp) (fun i hi _ => hi)).trans hf58 (n := (Value.slice a0 ls.length c0).ownBlock.toList ++ [p]) (fun i hi _ => List.mem_append_left _ hi) (fun i hi _ => List.mem_append_right _ hi)).below hbase (fun i hi => ?_)
    rcases List.mem_append.1 hi with h | h
    · exact (HR4.out.lt i (Option.mem_toList.1 h)).1
    · have : i = p := by simpa using h
      omega
end Go.Proofs.YtgfpkmnmdehkpaaGreat

/-! The program's parser (layer 13): begin and add, from one state to the next. -/
namespace Go.Proofs.YtgfpkmnmdehkpaaGreat
open Go.RowKit

theorem pbegin_colon (p base : Nat) (ev : Value) (wh : Bool) (ls : List LineD) (n : List UInt8) (w : World) (hst : ColonSt base w p ev wh ls n) (hbase : base ≤ w.heap.size) (hk : ls.length ≤ 1000000) :
    Calls Tryz.prog 106 #[.pointer (some ⟨p, 0, none⟩)] w fun e w' => e = .returned (.tuple #[]) ∧ BodySt base w' p ev wh ls n [] [] ∧ Below base w w' := by
  obtain ⟨hpb, lv, vs, hp, hv, hrow, hold⟩ := hst
  refine (pbegin_raw p lv ev (encStr n) (.slice none 0 0) wh base w.heap.size ls.length 0 (lineC ls vs) [] w hp hrow (lineC_len hv) (World.ownsRow_nil _ _ _ _) hbase (Nat.le_refl _) (by omega) hk).mono ?_
  rintro e w' ⟨rfl, av', hp', hrow', har', hf⟩
  have hlt : ∀ k ∈ (Value.slice none 0 0).ownBlock.toList ++ lv.ownBlock.toList, k ∈ lv.ownBlock.toList := fun k hk => by simpa [Value.ownBlock] using hk
  refine ⟨rfl, ⟨hpb, lv, vs, av', [], .slice none 0 0, w, w, hp', hv, hrow', hold, ?_, hbase, rfl, by simpa using har', fun i h => by simp at h, ?_, Nat.le_refl _, hf.size, World.ownsRow_nil _ _ _ _⟩, ?_⟩
  · refine (KeepT.refl _ w).fr hf (fun k hm => .inr (fun t ht => ?_))
    simp only [List.mem_cons, List.not_mem_nil, or_false] at ht
    rcases ht with rfl | rfl
    · exact (notT_row hrow (t := pI) (by decide)).one (hlt k hm)
    · exact (notT_row hrow (t := pA) (by decide)).one (hlt k hm)
  · refine (KeepT.refl _ w).fr hf (fun k hm => .inr (fun t ht => ?_))
    simp only [List.mem_cons, List.not_mem_nil, or_false] at ht
    subst ht
    exact (notT_row hrow (t := pI) (by decide)).one (hlt k hm)
  · exact hf.below hbase (fun i hi => (hrow.lt i (Option.mem_toList.1 (hlt i hi))).1)
theorem pbegin_body (p base : Nat) (ev : Value) (wh : Bool) (ls : List LineD) (n : List UInt8) (als : List (List ItemD)) (cur : List ItemD) (w : World) (hst : BodySt base w p ev wh ls n als cur) (hbase : base ≤ w.heap.size) (hk : ls.length ≤ 1000000) (ha : als.length ≤ 900000) :
    Calls Tryz.prog 106 #[.pointer (some ⟨p, 0, none⟩)] w fun e w' => e = .returned (.tuple #[]) ∧ BodySt base w' p ev wh ls n (als ++ [cur]) [] ∧ Below base w w' := by
  obtain ⟨hpb, lv, vs, av, us, cv, w1, w2, hp, hv, hrow, hold, k1, s1, ul, har, hao, k2, s2, s3, hir⟩ := hst
  refine (pbegin_raw p lv ev (encStr n) av wh base w1.heap.size ls.length (als.length + 1) (lineC ls vs) (us ++ [cv]) w hp hrow (lineC_len hv) har hbase (by omega) (by omega) hk).mono ?_
  rintro e w' ⟨rfl, av', hp', hrow', har', hf⟩
  refine ⟨rfl, ⟨hpb, lv, vs, av', us ++ [cv], .slice none 0 0, w1, w, hp', hv, hrow', hold, ?_, s1, by simp [ul], by simpa using har', fun i h h' => ?_, ?_, by omega, hf.size, World.ownsRow_nil _ _ _ _⟩, ?_⟩
  · refine k1.fr hf (fun k hm => ?_)
    rcases List.mem_append.1 hm with hm | hm
    · exact .inl (har.lt k (Option.mem_toList.1 hm)).1
    · refine .inr (fun t ht => ?_)
      simp only [List.mem_cons, List.not_mem_nil, or_false] at ht
      rcases ht with rfl | rfl
      · exact (notT_row hrow (t := pI) (by decide)).one hm
      · exact (notT_row hrow (t := pA) (by decide)).one hm
  · by_cases hx : i < us.length
    · rw [List.getElem_append_left hx, List.getElem_append_left (by omega)]
      exact k2.items (by simp) (hao i hx (by omega))
    · have h1 : i = us.length := by simp at h; omega
      subst h1
      simp only [List.getElem_concat_length]
      have : (als ++ [cur])[us.length]'h' = cur := by simp only [ul]; simp
      rw [this]
      exact owns_base hir (fun j hj => by have := ((show w.ownsRow w2.heap.size pI 2 cv cur.length _ from hir).lt j hj).1; omega)
  · refine (KeepT.refl _ w).fr hf (fun k hm => .inr (fun t ht => ?_))
    simp only [List.mem_cons, List.not_mem_nil, or_false] at ht
    subst ht
    rcases List.mem_append.1 hm with hm | hm
    · exact (notT_row har (t := pI) (by decide)).one hm
    · exact (notT_row hrow (t := pI) (by decide)).one hm
  · refine hf.below hbase (fun i hi => ?_)
    rcases List.mem_append.1 hi with hm | hm
    · have := (har.lt i (Option.mem_toList.1 hm)).1; omega
    · exact (hrow.lt i (Option.mem_toList.1 hm)).1
theorem padd_body (p base : Nat) (ev : Value) (wh : Bool) (ls : List LineD) (n : List UInt8) (als : List (List ItemD)) (cur : List ItemD) (it : ItemD) (w : World) (hst : BodySt base w p ev wh ls n als cur) (hbase : base ≤ w.heap.size) (hk : ls.length ≤ 1000000) (ha : als.length ≤ 1000000) (hc : cur.length ≤ 1000000) :
    Calls Tryz.prog 139 #[.pointer (some ⟨p, 0, none⟩), .agg #[.bool it.term, encStr it.text]] w fun e w' => e = .returned (.tuple #[]) ∧ BodySt base w' p ev wh ls n als (cur ++ [it]) ∧ Below base w w' := by
  obtain ⟨hpb, lv, vs, av, us, cv, w1, w2, hp, hv, hrow, hold, k1, s1, ul, har, hao, k2, s2, s3, hir⟩ := hst
  have hir' : w.ownsRow w2.heap.size pI 2 cv cur.length (cur.map ItemD.cells).flatten := hir
  refine (padd_raw p lv ev (encStr n) av cv wh base w1.heap.size w2.heap.size ls.length als.length (lineC ls vs) us cur it w hp hrow (lineC_len hv) ul har hir s3 hc ha hk).mono ?_
  rintro e w' ⟨rfl, cv', hp', hrow', har', hir2, hf⟩
  refine ⟨rfl, ⟨hpb, lv, vs, av, us, cv', w1, w2, hp', hv, hrow', hold, ?_, s1, ul, har', hao, ?_, s2, by have := hf.size; omega, hir2⟩, ?_⟩
  · refine k1.fr hf (fun k hm => ?_)
    rcases List.mem_append.1 hm with hm | hm
    · have := (hir'.lt k (Option.mem_toList.1 hm)).1
      exact .inl (by omega)
    · exact .inl (har.lt k (Option.mem_toList.1 hm)).1
  · refine k2.fr hf (fun k hm => ?_)
    rcases List.mem_append.1 hm with hm | hm
    · exact .inl (hir'.lt k (Option.mem_toList.1 hm)).1
    · refine .inr (fun t ht => ?_)
      simp only [List.mem_cons, List.not_mem_nil, or_false] at ht
      subst ht
      exact (notT_row har (t := pI) (by decide)).one hm
  · refine hf.below hbase (fun i hi => ?_)
    rcases List.mem_append.1 hi with hm | hm
    · have := (hir'.lt i (Option.mem_toList.1 hm)).1; omega
    · have := (har.lt i (Option.mem_toList.1 hm)).1; omega
/-- The last line is whole. -/
theorem BodySt.whole {base p : Nat} {w : World} {ev : Value} {wh : Bool} {ls : List LineD} {n : List UInt8} {als : List (List ItemD)} {cur : List ItemD} (h : BodySt base w p ev wh ls n als cur) : NameSt base w p ev wh (ls ++ [⟨n, als ++ [cur]⟩]) := by
  obtain ⟨hpb, lv, vs, av, us, cv, w1, w2, hp, hv, hrow, hold, k1, s1, ul, har, hao, k2, s2, s3, hir⟩ := h
  refine ⟨hpb, lv, hp, linesR_snoc hv hrow (fun i h h' => k1.alts (by simp) (by simp) (hold i h h')) ?_⟩
  refine altsR_snoc ul (owns_base har (fun j hj => by have := (har.lt j hj).1; omega)) (fun i h h' => k2.items (by simp) (hao i h h')) (owns_base hir (fun j hj => by have := ((show w.ownsRow w2.heap.size pI 2 cv cur.length _ from hir).lt j hj).1; omega))
end Go.Proofs.YtgfpkmnmdehkpaaGreat

/-! The program's parser (layer 13): colon, body. Written by wip/tools/gen_prf.py. -/
namespace Go.Proofs.YtgfpkmnmdehkpaaGreat
open Go.RowKit

theorem BodySt.pset {base p : Nat} {w w' : World} {ev ev' : Value} {wh wh' : Bool} {ls : List LineD} {n : List UInt8} {als : List (List ItemD)} {cur : List ItemD} (h : BodySt base w p ev wh ls n als cur) (hf : Fr [p] w w')
    (hp' : ∀ lv, w.heap[p]? = some (.cells #[lv, ev, .bool wh] pP (0, 0)) → w'.heap[p]? = some (.cells #[lv, ev', .bool wh'] pP (0, 0))) : BodySt base w' p ev' wh' ls n als cur := by
  obtain ⟨hpb, lv, vs, av, us, cv, w1, w2, hp, hv, hrow, hold, k1, s1, ul, har, hao, k2, s2, s3, hir⟩ := h
  have tI : notT w [p] pI := notT_box hp (by decide)
  have tA : notT w [p] pA := notT_box hp (by decide)
  have tL : notT w [p] pL := notT_box hp (by decide)
  refine ⟨hpb, lv, vs, av, us, cv, w1, w2, hp' lv hp, hv, owns_keptT hrow tL hf, hold, k1.fr hf (fun k hm => .inr (fun t ht => ?_)), s1, ul, owns_keptT har tA hf, hao, k2.fr hf (fun k hm => .inr (fun t ht => ?_)), s2, by have := hf.size; omega, itemsR.kept hir tI hf⟩
  · simp only [List.mem_cons, List.not_mem_nil, or_false] at ht
    rcases ht with rfl | rfl
    · exact tI.one hm
    · exact tA.one hm
  · simp only [List.mem_cons, List.not_mem_nil, or_false] at ht
    subst ht
    exact tI.one hm
theorem NameSt.pset {base p : Nat} {w w' : World} {ev ev' : Value} {wh wh' : Bool} {ls : List LineD} (h : NameSt base w p ev wh ls) (hf : Fr [p] w w')
    (hp' : ∀ lv, w.heap[p]? = some (.cells #[lv, ev, .bool wh] pP (0, 0)) → w'.heap[p]? = some (.cells #[lv, ev', .bool wh'] pP (0, 0))) : NameSt base w' p ev' wh' ls := by
  obtain ⟨hpb, lv, hp, hl⟩ := h
  exact ⟨hpb, lv, hp' lv hp, hl.kept (notT_box hp (by decide)) (notT_box hp (by decide)) (notT_box hp (by decide)) hf⟩
theorem ColonSt.below {base p : Nat} {w w' : World} {ev : Value} {wh : Bool} {ls : List LineD} {n : List UInt8} (h : ColonSt base w p ev wh ls n) (hf : Fr [] w w') : ColonSt base w' p ev wh ls n := by
  obtain ⟨hpb, lv, vs, hp, hv, hrow, hold⟩ := h
  exact ⟨hpb, lv, vs, hf.heap hp (by simp), hv, owns_kept hrow hf (by simp), fun i a b => (hold i a b).below hf⟩
theorem NameSt.below {base p : Nat} {w w' : World} {ev : Value} {wh : Bool} {ls : List LineD} (h : NameSt base w p ev wh ls) (hf : Fr [] w w') : NameSt base w' p ev wh ls := by
  obtain ⟨hpb, lv, hp, hl⟩ := h
  exact ⟨hpb, lv, hf.heap hp (by simp), hl.below hf⟩
theorem BodySt.below {base p : Nat} {w w' : World} {ev : Value} {wh : Bool} {ls : List LineD} {n : List UInt8} {als : List (List ItemD)} {cur : List ItemD} (h : BodySt base w p ev wh ls n als cur) (hf : Fr [] w w') : BodySt base w' p ev wh ls n als cur := by
  obtain ⟨hpb, lv, vs, av, us, cv, w1, w2, hp, hv, hrow, hold, k1, s1, ul, har, hao, k2, s2, s3, hir⟩ := h
  exact ⟨hpb, lv, vs, av, us, cv, w1, w2, hf.heap hp (by simp), hv, owns_kept hrow hf (by simp), hold, k1.fr hf (by simp), s1, ul, owns_kept har hf (by simp), hao, k2.fr hf (by simp), s2, by have := hf.size; omega, owns_kept hir hf (by simp)⟩
theorem Fr.belowN {B : Nat} {a b : World} (h : Fr [] a b) (hB : B ≤ a.heap.size) : Below B a b := h.below hB (by simp)
set_option maxRecDepth 100000 in
set_option maxHeartbeats 4000000 in
theorem pcolon_no (p : Nat) (K : Int) (T : List UInt8) (A : Nat) (hK : K ≠ 3) (w : World) :
    Calls Tryz.prog 82 #[.pointer (some ⟨p, 0, none⟩), tkV K T A] w fun e w' => e = .returned (.bool false) ∧ Fr [] w w' := by
  have hb1 := heap_alloc_new w (.cells #[.int .i64 K, encStr T, .int .i64 (A : Int)] 85)
  obtain ⟨y0, y1, y2, -, -, -⟩ := three_of_heap hb1
  have n1 : (K != 3) = true := by rw [bne_iff_ne]; exact hK
  clear hK
  unfold tkV
  clear hb1
  go_enter Tryz.func82, Tryz.ntmps82
  go_wp2_with fail
  go_ret
  exact ⟨rfl, Fr.alloc _ _⟩
set_option maxRecDepth 100000 in
set_option maxHeartbeats 4000000 in
theorem pbody_no (p : Nat) (K : Int) (T : List UInt8) (A : Nat) (h1 : K ≠ 1) (h2 : K ≠ 2) (h4 : K ≠ 4) (h5 : K ≠ 5) (w : World) :
    Calls Tryz.prog 107 #[.pointer (some ⟨p, 0, none⟩), tkV K T A] w fun e w' => e = .returned (.bool false) ∧ Fr [] w w' := by
  have hb1 := heap_alloc_new w (.cells #[.int .i64 K, encStr T, .int .i64 (A : Int)] 85)
  obtain ⟨y0, y1, y2, -, -, -⟩ := three_of_heap hb1
  have n1 : (K == 1) = false := by rw [beq_eq_false_iff_ne]; exact h1
  have n2 : (K == 2) = false := by rw [beq_eq_false_iff_ne]; exact h2
  have n4 : (K == 4) = false := by rw [beq_eq_false_iff_ne]; exact h4
  have n5 : (K == 5) = false := by rw [beq_eq_false_iff_ne]; exact h5
  clear h1 h2 h4 h5
  unfold tkV
  clear hb1
  go_enter Tryz.func107, Tryz.ntmps107
  go_wp2_with fail
  go_ret
  exact ⟨rfl, Fr.alloc _ _⟩
set_option maxRecDepth 100000 in
set_option maxHeartbeats 4000000 in
theorem pcolon_yes (p base : Nat) (ev : Value) (wh : Bool) (ls : List LineD) (n : List UInt8) (T : List UInt8) (A : Nat) (w : World) (hst : ColonSt base w p ev wh ls n) (hbase : base ≤ w.heap.size) (hk : ls.length ≤ 900000) :
    Calls Tryz.prog 82 #[.pointer (some ⟨p, 0, none⟩), tkV 3 T A] w fun e w' => e = .returned (.bool true) ∧ BodySt base w' p (bodyV p) wh ls n [] [] ∧ Below base w w' := by
  obtain ⟨q, hq⟩ : ∃ q, q = w.heap.size := ⟨_, rfl⟩
  have hf1 := Fr.alloc w (.cells #[.int .i64 3, encStr T, .int .i64 (A : Int)] 85)
  have hb1 := heap_alloc_new w (.cells #[.int .i64 3, encStr T, .int .i64 (A : Int)] 85)
  obtain ⟨w1, hw1⟩ : ∃ w1, w1 = w.alloc (.cells #[.int .i64 3, encStr T, .int .i64 (A : Int)] 85) := ⟨_, rfl⟩
  rw [← hw1] at hf1 hb1
  rw [← hq] at hb1
  obtain ⟨y0, y1, y2, -, -, -⟩ := three_of_heap hb1
  have hbase1 : base ≤ w1.heap.size := by have := hf1.size; omega
  have hbl1 := hf1.belowN hbase
  have HW1 := Lib.hid hw1
  have HQ := Lib.hid hq
  have HBL := Lib.hid hbl1
  have HBE := Lib.hid (pbegin_colon p base ev wh ls n w1 (hst.below hf1) hbase1 (by omega))
  clear hw1 hq hbl1 hf1 hb1 hst
  unfold tkV
  go_enter Tryz.func82, Tryz.ntmps82
  go_upto_region 1 with fail
  rw [← HW1.out, ← HQ.out]
  clear HW1
  go_upto_region 4 with (go_at_call 106; refine HBE.out.mono ?_; rintro e w2 ⟨rfl, hst2, hbl2⟩; have HST2 := Lib.hid hst2; have HBL2 := Lib.hid hbl2; clear hst2 hbl2)
  obtain ⟨lv, hp2⟩ : ∃ lv, w2.heap[p]? = some (.cells #[lv, ev, .bool wh] pP (0, 0)) := by obtain ⟨-, lv, _, _, _, _, _, _, hp, -⟩ := HST2.out; exact ⟨lv, hp⟩
  obtain ⟨e0, e1, e2, g0, g1, g2⟩ := three_of_heap hp2
  have HP2 := Lib.hid hp2
  clear hp2
  have hmf := runMf
  go_upto_region 5 with fail
  have h8 : (w2.setCell ⟨p, 1, none⟩ (bodyV p)).heap[p]? = some (.cells #[lv, bodyV p, .bool wh] pP (0, 0)) := heap_setCell_same HP2.out (i := 1) _
  have hs8 := Fr.set0 w2 p 1 (bodyV p)
  obtain ⟨w3, hw3⟩ : ∃ w3, w3 = w2.setCell ⟨p, 1, none⟩ (bodyV p) := ⟨_, rfl⟩
  rw [← hw3] at h8 hs8
  unfold bodyV at hw3
  rw [← hw3]
  clear e0 e1 e2 g0 g1 g2 hw3
  go_wp2_with fail
  go_ret
  refine ⟨rfl, HST2.out.pset hs8 (fun lv' hl => ?_), ?_⟩
  · rw [HP2.out] at hl
    cases hl
    exact h8
  · refine (HBL.out.trans HBL2.out).trans (hs8.below (by have := HBL2.out.size; omega) (fun i hi => ?_))
    obtain rfl : i = p := by simpa using hi
    exact HST2.out.pb
set_option maxRecDepth 100000 in
set_option maxHeartbeats 4000000 in
theorem pbody_item1 (p base : Nat) (ev : Value) (wh : Bool) (ls : List LineD) (n : List UInt8) (als : List (List ItemD)) (cur : List ItemD) (ha : als.length ≤ 900000) (hc : cur.length ≤ 900000) (T : List UInt8) (A : Nat) (w : World) (hst : BodySt base w p ev wh ls n als cur) (hbase : base ≤ w.heap.size) (hk : ls.length ≤ 900000) :
    Calls Tryz.prog 107 #[.pointer (some ⟨p, 0, none⟩), tkV 1 T A] w fun e w' => e = .returned (.bool true) ∧ BodySt base w' p ev wh ls n als (cur ++ [⟨false, T⟩]) ∧ Below base w w' := by
  obtain ⟨q, hq⟩ : ∃ q, q = w.heap.size := ⟨_, rfl⟩
  have hf1 := Fr.alloc w (.cells #[.int .i64 1, encStr T, .int .i64 (A : Int)] 85)
  have hb1 := heap_alloc_new w (.cells #[.int .i64 1, encStr T, .int .i64 (A : Int)] 85)
  obtain ⟨w1, hw1⟩ : ∃ w1, w1 = w.alloc (.cells #[.int .i64 1, encStr T, .int .i64 (A : Int)] 85) := ⟨_, rfl⟩
  rw [← hw1] at hf1 hb1
  rw [← hq] at hb1
  obtain ⟨y0, y1, y2, -, -, -⟩ := three_of_heap hb1
  have hbase1 : base ≤ w1.heap.size := by have := hf1.size; omega
  have hbl1 := hf1.belowN hbase
  have HW1 := Lib.hid hw1
  have HQ := Lib.hid hq
  have HBL := Lib.hid hbl1
  have HBE := Lib.hid (padd_body p base ev wh ls n als cur ⟨false, T⟩ w1 (hst.below hf1) hbase1 (by omega) (by omega) (by omega))
  clear hw1 hq hbl1 hf1 hb1 hst
  unfold tkV
  go_enter Tryz.func107, Tryz.ntmps107
  go_upto_region 1 with fail
  rw [← HW1.out, ← HQ.out]
  clear HW1
  go_wp2_with (go_at_call 139; refine HBE.out.mono ?_; rintro e w2 ⟨rfl, hst2, hbl2⟩)
  go_ret
  exact ⟨rfl, hst2, HBL.out.trans hbl2⟩
set_option maxRecDepth 100000 in
set_option maxHeartbeats 4000000 in
theorem pbody_item2 (p base : Nat) (ev : Value) (wh : Bool) (ls : List LineD) (n : List UInt8) (als : List (List ItemD)) (cur : List ItemD) (ha : als.length ≤ 900000) (hc : cur.length ≤ 900000) (T : List UInt8) (A : Nat) (w : World) (hst : BodySt base w p ev wh ls n als cur) (hbase : base ≤ w.heap.size) (hk : ls.length ≤ 900000) :
    Calls Tryz.prog 107 #[.pointer (some ⟨p, 0, none⟩), tkV 2 T A] w fun e w' => e = .returned (.bool true) ∧ BodySt base w' p ev wh ls n als (cur ++ [⟨true, T⟩]) ∧ Below base w w' := by
  obtain ⟨q, hq⟩ : ∃ q, q = w.heap.size := ⟨_, rfl⟩
  have hf1 := Fr.alloc w (.cells #[.int .i64 2, encStr T, .int .i64 (A : Int)] 85)
  have hb1 := heap_alloc_new w (.cells #[.int .i64 2, encStr T, .int .i64 (A : Int)] 85)
  obtain ⟨w1, hw1⟩ : ∃ w1, w1 = w.alloc (.cells #[.int .i64 2, encStr T, .int .i64 (A : Int)] 85) := ⟨_, rfl⟩
  rw [← hw1] at hf1 hb1
  rw [← hq] at hb1
  obtain ⟨y0, y1, y2, -, -, -⟩ := three_of_heap hb1
  have hbase1 : base ≤ w1.heap.size := by have := hf1.size; omega
  have hbl1 := hf1.belowN hbase
  have HW1 := Lib.hid hw1
  have HQ := Lib.hid hq
  have HBL := Lib.hid hbl1
  have HBE := Lib.hid (padd_body p base ev wh ls n als cur ⟨true, T⟩ w1 (hst.below hf1) hbase1 (by omega) (by omega) (by omega))
  clear hw1 hq hbl1 hf1 hb1 hst
  unfold tkV
  go_enter Tryz.func107, Tryz.ntmps107
  go_upto_region 1 with fail
  rw [← HW1.out, ← HQ.out]
  clear HW1
  go_wp2_with (go_at_call 139; refine HBE.out.mono ?_; rintro e w2 ⟨rfl, hst2, hbl2⟩)
  go_ret
  exact ⟨rfl, hst2, HBL.out.trans hbl2⟩
set_option maxRecDepth 100000 in
set_option maxHeartbeats 4000000 in
theorem pbody_bar (p base : Nat) (ev : Value) (wh : Bool) (ls : List LineD) (n : List UInt8) (als : List (List ItemD)) (cur : List ItemD) (ha : als.length ≤ 900000) (T : List UInt8) (A : Nat) (w : World) (hst : BodySt base w p ev wh ls n als cur) (hbase : base ≤ w.heap.size) (hk : ls.length ≤ 900000) :
    Calls Tryz.prog 107 #[.pointer (some ⟨p, 0, none⟩), tkV 4 T A] w fun e w' => e = .returned (.bool true) ∧ BodySt base w' p ev wh ls n (als ++ [cur]) [] ∧ Below base w w' := by
  obtain ⟨q, hq⟩ : ∃ q, q = w.heap.size := ⟨_, rfl⟩
  have hf1 := Fr.alloc w (.cells #[.int .i64 4, encStr T, .int .i64 (A : Int)] 85)
  have hb1 := heap_alloc_new w (.cells #[.int .i64 4, encStr T, .int .i64 (A : Int)] 85)
  obtain ⟨w1, hw1⟩ : ∃ w1, w1 = w.alloc (.cells #[.int .i64 4, encStr T, .int .i64 (A : Int)] 85) := ⟨_, rfl⟩
  rw [← hw1] at hf1 hb1
  rw [← hq] at hb1
  obtain ⟨y0, y1, y2, -, -, -⟩ := three_of_heap hb1
  have hbase1 : base ≤ w1.heap.size := by have := hf1.size; omega
  have hbl1 := hf1.belowN hbase
  have HW1 := Lib.hid hw1
  have HQ := Lib.hid hq
  have HBL := Lib.hid hbl1
  have HBE := Lib.hid (pbegin_body p base ev wh ls n als cur w1 (hst.below hf1) hbase1 (by omega) (by omega))
  clear hw1 hq hbl1 hf1 hb1 hst
  unfold tkV
  go_enter Tryz.func107, Tryz.ntmps107
  go_upto_region 1 with fail
  rw [← HW1.out, ← HQ.out]
  clear HW1
  go_wp2_with (go_at_call 106; refine HBE.out.mono ?_; rintro e w2 ⟨rfl, hst2, hbl2⟩)
  go_ret
  exact ⟨rfl, hst2, HBL.out.trans hbl2⟩
set_option maxRecDepth 100000 in
set_option maxHeartbeats 4000000 in
theorem pbody_semi (p base : Nat) (ev : Value) (wh : Bool) (ls : List LineD) (n : List UInt8) (als : List (List ItemD)) (cur : List ItemD) (T : List UInt8) (A : Nat) (w : World) (hst : BodySt base w p ev wh ls n als cur) (hbase : base ≤ w.heap.size) (hk : ls.length ≤ 900000) :
    Calls Tryz.prog 107 #[.pointer (some ⟨p, 0, none⟩), tkV 5 T A] w fun e w' => e = .returned (.bool true) ∧ NameSt base w' p (nameV p) true (ls ++ [⟨n, als ++ [cur]⟩]) ∧ Below base w w' := by
  obtain ⟨q, hq⟩ : ∃ q, q = w.heap.size := ⟨_, rfl⟩
  have hf1 := Fr.alloc w (.cells #[.int .i64 5, encStr T, .int .i64 (A : Int)] 85)
  have hb1 := heap_alloc_new w (.cells #[.int .i64 5, encStr T, .int .i64 (A : Int)] 85)
  obtain ⟨w1, hw1⟩ : ∃ w1, w1 = w.alloc (.cells #[.int .i64 5, encStr T, .int .i64 (A : Int)] 85) := ⟨_, rfl⟩
  rw [← hw1] at hf1 hb1
  rw [← hq] at hb1
  obtain ⟨y0, y1, y2, -, -, -⟩ := three_of_heap hb1
  have hbase1 : base ≤ w1.heap.size := by have := hf1.size; omega
  have hbl1 := hf1.belowN hbase
  have HW1 := Lib.hid hw1
  have HQ := Lib.hid hq
  have HBL := Lib.hid hbl1
  have hst1 := hst.below hf1
  obtain ⟨lv, hp2⟩ : ∃ lv, w1.heap[p]? = some (.cells #[lv, ev, .bool wh] pP (0, 0)) := by obtain ⟨-, lv, _, _, _, _, _, _, hp, -⟩ := hst1; exact ⟨lv, hp⟩
  obtain ⟨e0, e1, e2, g0, g1, g2⟩ := three_of_heap hp2
  have HP2 := Lib.hid hp2
  have HST1 := Lib.hid hst1
  clear hw1 hq hbl1 hf1 hb1 hst hst1 hp2
  unfold tkV
  go_enter Tryz.func107, Tryz.ntmps107
  go_upto_region 1 with fail
  rw [← HW1.out, ← HQ.out]
  clear HW1
  go_upto_region 10 with fail
  have h7 : (w1.setCell ⟨p, 2, none⟩ (.bool true)).heap[p]? = some (.cells #[lv, ev, .bool true] pP (0, 0)) := heap_setCell_same HP2.out (i := 2) _
  have hs7 := Fr.set0 w1 p 2 (.bool true)
  generalize w1.setCell ⟨p, 2, none⟩ (.bool true) = w2 at h7 hs7 ⊢
  clear e0 e1 e2 g0 g1 g2
  obtain ⟨e0, e1, e2, g0, g1, g2⟩ := three_of_heap h7
  have HP7 := Lib.hid h7
  have HS7 := Lib.hid hs7
  clear h7 hs7
  have hmf := runMf
  go_upto_region 11 with fail
  have h8 : (w2.setCell ⟨p, 1, none⟩ (nameV p)).heap[p]? = some (.cells #[lv, nameV p, .bool true] pP (0, 0)) := heap_setCell_same HP7.out (i := 1) _
  have hs8 := Fr.set0 w2 p 1 (nameV p)
  obtain ⟨w3, hw3⟩ : ∃ w3, w3 = w2.setCell ⟨p, 1, none⟩ (nameV p) := ⟨_, rfl⟩
  rw [← hw3] at h8 hs8
  unfold nameV at hw3
  rw [← hw3]
  clear e0 e1 e2 g0 g1 g2 hw3
  go_wp2_with fail
  go_ret
  have hf := HS7.out.trans hs8 (n := [p]) (by simp) (by simp)
  refine ⟨rfl, HST1.out.whole.pset hf (fun lv' hl => ?_), ?_⟩
  · rw [HP2.out] at hl
    cases hl
    exact h8
  · refine HBL.out.trans (hf.below hbase1 (fun i hi => ?_))
    obtain rfl : i = p := by simpa using hi
    exact HST1.out.pb
end Go.Proofs.YtgfpkmnmdehkpaaGreat
