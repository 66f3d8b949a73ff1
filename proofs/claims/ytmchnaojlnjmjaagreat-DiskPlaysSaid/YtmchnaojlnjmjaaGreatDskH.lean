/- The document's disk (layer 11): Append. Written by wip/tools/gen_dskH.py. -/
import Derived.Test.YtmchnaojlnjmjaaGreatDskG
import Derived.Test.YtmchnaojlnjmjaaGreatBs
namespace Go.Proofs.YtmchnaojlnjmjaaGreat
open Go.RowKit Go.Maps

set_option maxRecDepth 100000 in
set_option maxHeartbeats 2000000 in
theorem kappend_any (nv sv ov fv av : Value) (d : DskD) (D : List Nat) (m b : List UInt8) (bv : Value) (k : Nat) (w : World) (h : RK w nv sv ov fv av d D) (hk : OkK d k) (hkk : kindsOk d.armed) (hk6 : k ≤ 900) (hbv : bytesAt w bv b) (hbl : b.length ≤ 1000000) :
    Calls Tryz.prog 22 #[kval nv sv ov fv av d, encStr m, bv] w (Dskd (appendK d m b).1 (.int .i64 (appendK d m b).2) D w) := by
  obtain ⟨ti, hti, hz0, hz1, hz2⟩ := info_parts infoB
  obtain ⟨abv, cbv, rfl, hlbv, hmbv⟩ := hbv.form
  have HBV := Lib.hid hbv
  clear hbv
  have hst : 0 ≤ d.steps ∧ d.steps ≤ 1000000 := ⟨hk.st0, by have := hk.st; omega⟩
  have HRK := Lib.hid h
  have HOK := Lib.hid hk
  have HKK := Lib.hid hkk
  obtain ⟨a0, c0, a1, c1, a2, c2, a3, c3, a4, c4, rfl, rfl, rfl, rfl, rfl⟩ := h.slices
  have hB := boxes_at w #[.slice a0 d.dn.length c0, .slice a1 d.ds.length c1, .slice a2 d.ops.length c2, .slice a3 d.files.length c3, .int .i64 d.room, .int .i64 d.steps, .bool d.down, .slice a4 d.armed.length c4]
  have hstp := fun wx (hx : Fr [] w wx) => kstep_any _ _ _ _ _ d D wx (HRK.out.below hx) hst hkk
  unfold kval at hstp ⊢
  have hstr : (stepK d).room = d.room := rfl
  rw [hstr] at hstp
  have HST := Lib.hid hstp
  clear h hk hkk hst hstp hstr
  go_enter Tryz.func22, Tryz.ntmps22
  go_upto_region 1 with fail
  unfold zeroK at hB
  obtain ⟨w2, hw2⟩ : ∃ w2, w2 = (w.alloc (.cells #[.slice a0 d.dn.length c0, .slice a1 d.ds.length c1, .slice a2 d.ops.length c2, .slice a3 d.files.length c3, .int .i64 d.room, .int .i64 d.steps, .bool d.down, .slice a4 d.armed.length c4] 34)).alloc (.cells #[.slice none 0 0, .slice none 0 0, .slice none 0 0, .slice none 0 0, .int .i64 0, .int .i64 0, .bool false, .slice none 0 0] 34) := ⟨_, rfl⟩
  rw [← hw2] at hB ⊢
  obtain ⟨q0, hq0⟩ : ∃ q, q = w.heap.size := ⟨_, rfl⟩
  obtain ⟨q1, hq1⟩ : ∃ q, q = w.heap.size + 1 := ⟨_, rfl⟩
  rw [← hq1, ← hq0] at hB
  rw [← hq1, ← hq0]
  clear hw2 hq0 hq1
  have HB2 := Lib.hid hB
  obtain ⟨y0, y1, y2, y3, y4, y5, y6, y7⟩ := eight_of_heap hB.b0
  clear hB
  go_upto_region 2 with (go_at_call 56; refine (HST.out _ HB2.out.fr).mono ?_; rintro e w3 ⟨rfl, hf3⟩; have HB3 := Lib.hid (HB2.out.below hf3); clear hf3 y0 y1 y2 y3 y4 y5 y6 y7; obtain ⟨y0, y1, y2, y3, y4, y5, y6, y7⟩ := eight_of_heap HB3.out.b0; obtain ⟨g0, g1, g2, g3, g4, g5, g6, g7⟩ := eight_free HB3.out.b0)
  have hB4 : Boxes w q0 q1 #[.slice a0 d.dn.length c0, .slice a1 d.ds.length c1, .slice a2 d.ops.length c2, .slice a3 d.files.length c3, .int .i64 d.room, .int .i64 (stepK d).steps, .bool (stepK d).down, .slice a4 d.armed.length c4] _ := HB3.out.write (Fr.set8 w3 q0 (.slice a0 d.dn.length c0) (.slice a1 d.ds.length c1) (.slice a2 d.ops.length c2) (.slice a3 d.files.length c3) (.int .i64 d.room) (.int .i64 (stepK d).steps) (.bool (stepK d).down) (.slice a4 d.armed.length c4)) (heap_set8 HB3.out.b0 (.slice a0 d.dn.length c0) (.slice a1 d.ds.length c1) (.slice a2 d.ops.length c2) (.slice a3 d.files.length c3) (.int .i64 d.room) (.int .i64 (stepK d).steps) (.bool (stepK d).down) (.slice a4 d.armed.length c4))
  generalize hw4 : ((((((((w3.setCell ⟨q0, 0, none⟩ (.slice a0 d.dn.length c0)).setCell ⟨q0, 1, none⟩ (.slice a1 d.ds.length c1)).setCell ⟨q0, 2, none⟩ (.slice a2 d.ops.length c2)).setCell ⟨q0, 3, none⟩ (.slice a3 d.files.length c3)).setCell ⟨q0, 4, none⟩ (.int .i64 d.room)).setCell ⟨q0, 5, none⟩ (.int .i64 (stepK d).steps)).setCell ⟨q0, 6, none⟩ (.bool (stepK d).down)).setCell ⟨q0, 7, none⟩ (.slice a4 d.armed.length c4)) = w4 at hB4 ⊢
  clear hw4 y0 y1 y2 y3 y4 y5 y6 y7 g0 g1 g2 g3 g4 g5 g6 g7 HB2 HB3
  have HB := Lib.hid hB4
  obtain ⟨y0, y1, y2, y3, y4, y5, y6, y7⟩ := eight_of_heap hB4.b0
  obtain ⟨z0, z1, z2, z3, z4, z5, z6, z7⟩ := hB4.free1
  obtain ⟨r0, r1, r2, r3, r4, r5, r6, r7, hr1⟩ := hB4.b1
  obtain ⟨t0, t1, t2, t3, t4, t5, t6, t7⟩ := eight_of_heap hr1
  clear hr1 hB4
  obtain ⟨c, hc⟩ : ∃ c, c = codeK d := ⟨_, rfl⟩
  clear hc c
  have HFI := Lib.hid (fun wx (hx : Fr [] w wx) => kfile_any _ _ _ _ _ (stepK d) D m wx (HRK.out.below hx).step)
  unfold kval at HFI
  by_cases hcz : codeK d = 0
  · have hcb : (codeK d != 0) = false := by simp [hcz]
    have HCZ := Lib.hid hcz
    cases hl : lookL d.dn m with
    | none =>
      have hno : noK (stepK d) m = -1 := by unfold noK; show (lookL d.dn m).getD (-1) = -1; rw [hl]; rfl
      have hkd : appendK d m b = (stepK d, 7) := by unfold appendK; rw [if_neg (by simp [hcz]), hl]
      rw [hno] at HFI
      have HKD := Lib.hid hkd
      clear hkd hl hno hcz
      go_wp2_with (go_at_call 58; refine (HFI.out _ HB.out.fr).mono ?_; rintro e w5 ⟨rfl, hf5⟩; replace HB := Lib.hid (HB.out.below hf5); clear y0 y1 y2 y3 y4 y5 y6 y7 z0 z1 z2 z3 z4 z5 z6 z7 t0 t1 t2 t3 t4 t5 t6 t7 hf5; obtain ⟨y0, y1, y2, y3, y4, y5, y6, y7⟩ := eight_of_heap HB.out.b0; obtain ⟨z0, z1, z2, z3, z4, z5, z6, z7⟩ := HB.out.free1; obtain ⟨r0', r1', r2', r3', r4', r5', r6', r7', hr1⟩ := HB.out.b1; obtain ⟨t0, t1, t2, t3, t4, t5, t6, t7⟩ := eight_of_heap hr1; clear hr1)
      have hr := HB.out.result (.slice a0 d.dn.length c0) (.slice a1 d.ds.length c1) (.slice a2 d.ops.length c2) (.slice a3 d.files.length c3) (.int .i64 d.room) (.int .i64 (stepK d).steps) (.bool (stepK d).down) (.slice a4 d.armed.length c4)
      refine bodyPost_ret (results_cell2 rfl _ _ q1 34 _ _ rfl hr.1 Tryz.underlying34 rfl sizeK (.int .i64 7) rfl) rfl ?_
      rw [HKD.out]
      exact dskd_step HRK.out hr.2 rfl
    | some n =>
      have hno : noK (stepK d) m = n := by unfold noK; show (lookL d.dn m).getD (-1) = n; rw [hl]; rfl
      have hkd : appendK d m b = if 1048576 < (fileK d n).now.length + b.length then (stepK d, 5) else if d.room < ((usedK d + b.length : Nat) : Int) then (stepK d, 9) else (putK (stepK d) n ⟨(fileK d n).now ++ b, (fileK d n).safe⟩, 0) := by unfold appendK; rw [if_neg (by simp [hcz]), hl]
      rw [hno] at HFI
      have hnf := file_lo HOK.out hl
      obtain ⟨i, hi⟩ : ∃ i : Nat, n = (i : Int) := ⟨n.toNat, by omega⟩
      subst hi
      have hil : i < d.files.length := by simpa using hnf.2
      have hfk : fileK d (i : Int) = d.files[i]'hil := by unfold fileK; rw [Int.toNat_natCast]; simp only [List.getD, List.getElem?_eq_getElem hil, Option.getD_some]
      rw [hfk] at hkd
      obtain ⟨f, hfe⟩ : ∃ f, f = d.files[i]'hil := ⟨_, rfl⟩
      rw [← hfe] at hkd
      have hdn : decide ((i : Int) < 0) = false := decide_eq_false (by omega)
      have hfl : d.files.length ≤ 1000 := by have := HOK.out.fl; omega
      have hnl : f.now.length ≤ 1000000 := by have h1 := HOK.out.len f (by rw [hfe]; exact List.getElem_mem hil); omega
      have HFE := Lib.hid hfe
      clear hl hno hcz hfk hnf hfe
      go_upto_region 7 with (go_at_call 58; refine (HFI.out _ HB.out.fr).mono ?_; rintro e w5 ⟨rfl, hf5⟩; replace HB := Lib.hid (HB.out.below hf5); clear y0 y1 y2 y3 y4 y5 y6 y7 z0 z1 z2 z3 z4 z5 z6 z7 t0 t1 t2 t3 t4 t5 t6 t7 hf5; obtain ⟨y0, y1, y2, y3, y4, y5, y6, y7⟩ := eight_of_heap HB.out.b0; obtain ⟨z0, z1, z2, z3, z4, z5, z6, z7⟩ := HB.out.free1; obtain ⟨r0', r1', r2', r3', r4', r5', r6', r7', hr1⟩ := HB.out.b1; obtain ⟨t0, t1, t2, t3, t4, t5, t6, t7⟩ := eight_of_heap hr1; clear hr1)
      obtain ⟨b0, off, p, rfl, -, -, hp0, hp1, hpr⟩ := (HRK.out.below HB.out.fr).files.get i hil
      rw [← HFE.out] at hpr
      obtain ⟨p0, p1⟩ := p
      obtain ⟨ax, cx, hax, hlx, hmx⟩ := hpr.1.form
      obtain ⟨ay, cy, hay, hly, hmy⟩ := hpr.2.1.form
      simp only at hax hay hp0 hp1
      subst hax
      subst hay
      have HPR := Lib.hid hpr
      have hf5 := HB.out.fr
      have HFI2 := Lib.hid (HRK.out.below hf5).files
      go_upto_region 8 with fail
      have hfa := Fr.alloc w5 (.cells #[.slice ax f.now.length cx, .slice ay f.safe.length cy] 85)
      have hba := heap_alloc_new w5 (.cells #[.slice ax f.now.length cx, .slice ay f.safe.length cy] 85)
      obtain ⟨w6, hw6⟩ : ∃ w6, w6 = w5.alloc (.cells #[.slice ax f.now.length cx, .slice ay f.safe.length cy] 85) := ⟨_, rfl⟩
      obtain ⟨q2, hq2⟩ : ∃ q2, q2 = w5.heap.size := ⟨_, rfl⟩
      rw [← hw6] at hfa hba ⊢
      rw [← hq2] at hba ⊢
      have HF56 := Lib.hid hfa
      have HB2 := Lib.hid hba
      replace HB := Lib.hid (HB.out.below hfa)
      clear hfa hba hw6 hq2 hpr hf5 hp0 hp1 y0 y1 y2 y3 y4 y5 y6 y7 z0 z1 z2 z3 z4 z5 z6 z7 t0 t1 t2 t3 t4 t5 t6 t7
      obtain ⟨x0, x1⟩ := two_of_heap HB2.out
      obtain ⟨y0, y1, y2, y3, y4, y5, y6, y7⟩ := eight_of_heap HB.out.b0
      obtain ⟨z0, z1, z2, z3, z4, z5, z6, z7⟩ := HB.out.free1
      obtain ⟨s0', s1', s2', s3', s4', s5', s6', s7', hr1⟩ := HB.out.b1
      obtain ⟨t0, t1, t2, t3, t4, t5, t6, t7⟩ := eight_of_heap hr1
      clear hr1
      by_cases hlong : 1048576 < f.now.length + b.length
      · have hdl : decide (1048576 < (f.now.length : Int) + (b.length : Int)) = true := decide_eq_true (by omega)
        rw [if_pos hlong] at hkd
        have HKD := Lib.hid hkd
        clear hkd hlong
        go_wp2_with fail
        have hr := HB.out.result (.slice a0 d.dn.length c0) (.slice a1 d.ds.length c1) (.slice a2 d.ops.length c2) (.slice (some ⟨b0, off, none⟩) d.files.length c3) (.int .i64 d.room) (.int .i64 (stepK d).steps) (.bool (stepK d).down) (.slice a4 d.armed.length c4)
        refine bodyPost_ret (results_cell2 rfl _ _ q1 34 _ _ rfl hr.1 Tryz.underlying34 rfl sizeK (.int .i64 5) rfl) rfl ?_
        rw [HKD.out]
        exact dskd_step HRK.out hr.2 rfl
      · have hdl : decide (1048576 < (f.now.length : Int) + (b.length : Int)) = false := decide_eq_false (by omega)
        rw [if_neg hlong] at hkd
        go_upto_region 10 with fail
        clear x0 x1 y0 y1 y2 y3 y4 y5 y6 y7 z0 z1 z2 z3 z4 z5 z6 z7 t0 t1 t2 t3 t4 t5 t6 t7
        have hus := fun wx (hx : Fr [] w wx) => kused_any _ _ _ _ _ (stepK d) D wx (HRK.out.below hx).step HOK.out.nums (by have := HOK.out.nl; show d.dn.length ≤ 1000; omega) (fun g hg => by have := HOK.out.len g hg; omega)
        unfold kval at hus
        have huk : usedK (stepK d) = usedK d := rfl
        have hul := usedTo_le d 1000000 (fun g hg => by have := HOK.out.len g hg; omega) d.dn.length (Nat.le_refl _)
        rw [usedTo_all] at hul
        have hul2 : usedK d ≤ 1000000000 := by have := HOK.out.nl; omega
        rw [huk] at hus
        obtain ⟨U, hU⟩ : ∃ U, U = usedK d := ⟨_, rfl⟩
        rw [← hU] at hus hkd hul2
        have HUS := Lib.hid hus
        clear hus huk hul hU
        refine wp_region_G [] [(0, false), (2, false), (3, false), (5, false), (6, false), (1, true), (4, false), (7, false)] 63 rfl (by kernel_rfl) (by kernel_rfl) (by kernel_rfl) (fun c a d v w h => by cases d <;> exact h) (fun wd hfd => ?_)
        simp only [List.map_cons, List.map_nil, List.getElem?_toArray, List.getElem?_cons_succ, List.getElem?_cons_zero, Option.getD_some]
        have HBD := Lib.hid (HB.out.below hfd)
        have LB : Hid (Later [] wd (fun w' => w'.heap[q0]? = some (.cells #[.slice a0 d.dn.length c0, .slice a1 d.ds.length c1, .slice a2 d.ops.length c2, .slice (some ⟨b0, off, none⟩) d.files.length c3, .int .i64 d.room, .int .i64 (stepK d).steps, .bool (stepK d).down, .slice a4 d.armed.length c4] 34 (0, 0)))) := Lib.hid (fun w' hf' => hf'.heap HBD.out.b0 (by simp))
        have HFD := Lib.hid hfd
        clear hfd
        repeat (apply wpG_t; · (intro w' hf'; obtain ⟨y0, y1, y2, y3, y4, y5, y6, y7⟩ := eight_of_heap (LB.out w' hf'); go_wp2_with fail; exact ⟨rfl, rfl⟩))
        refine wpG_x ?_
        go_wp2_with (go_at_call 39; refine (HUS.out _ HBD.out.fr).mono ?_; rintro e w7 ⟨rfl, hf7⟩)
        refine ⟨hf7, rfl, ?_⟩
        have HB7 := Lib.hid (HBD.out.below hf7)
        have HF7 := Lib.hid (HF56.out.trans (HFD.out.trans hf7 (by simp) (n := []) (by simp)) (by simp) (n := []) (by simp))
        have HB27 := Lib.hid (hf7.heap (HFD.out.heap HB2.out (by simp)) (by simp))
        clear hf7
        repeat (apply wpG_t; · (intro w' hf'; go_wp2_with fail; exact ⟨rfl, rfl⟩))
        refine wpG_end ?_
        obtain ⟨x0, x1⟩ := two_of_heap HB27.out
        obtain ⟨y0, y1, y2, y3, y4, y5, y6, y7⟩ := eight_of_heap HB7.out.b0
        obtain ⟨z0, z1, z2, z3, z4, z5, z6, z7⟩ := HB7.out.free1
        obtain ⟨v0', v1', v2', v3', v4', v5', v6', v7', hr1⟩ := HB7.out.b1
        obtain ⟨t0, t1, t2, t3, t4, t5, t6, t7⟩ := eight_of_heap hr1
        clear hr1 HBD LB
        by_cases hfull : d.room < ((U + b.length : Nat) : Int)
        · have hdf : decide (d.room < (U : Int) + (b.length : Int)) = true := decide_eq_true (by omega)
          rw [if_pos hfull] at hkd
          have HKD := Lib.hid hkd
          clear hkd hfull hlong
          rw [hdf]
          go_wp2_with fail
          have hr := HB7.out.result (.slice a0 d.dn.length c0) (.slice a1 d.ds.length c1) (.slice a2 d.ops.length c2) (.slice (some ⟨b0, off, none⟩) d.files.length c3) (.int .i64 d.room) (.int .i64 (stepK d).steps) (.bool (stepK d).down) (.slice a4 d.armed.length c4)
          refine bodyPost_ret (results_cell2 rfl _ _ q1 34 _ _ rfl hr.1 Tryz.underlying34 rfl sizeK (.int .i64 9) rfl) rfl ?_
          rw [HKD.out]
          exact dskd_step HRK.out hr.2 rfl
        · have hdf : decide (d.room < (U : Int) + (b.length : Int)) = false := decide_eq_false (by omega)
          rw [if_neg hfull] at hkd
          have HKD := Lib.hid hkd
          clear hkd hfull hlong
          rw [hdf]
          go_upto_region 12 with fail
          have hD0 : ∀ k ∈ D, k < w.heap.size := HRK.out.lt
          have hw7 : w.heap.size ≤ w7.heap.size := HB7.out.fr.size
          have hq07 : q0 < w7.heap.size := (Array.getElem?_eq_some_iff.1 HB7.out.b0).1
          have hq27 : q2 < w7.heap.size := (Array.getElem?_eq_some_iff.1 HB27.out).1
          have HFR7 := Lib.hid (HFI2.out.below HF7.out)
          have HPR7 := Lib.hid (HPR.out.kept HF7.out (by simp))
          have HD0 := Lib.hid hD0
          clear hD0 y0 y1 y2 y3 y4 y5 y6 y7 z0 z1 z2 z3 z4 z5 z6 z7 t0 t1 t2 t3 t4 t5 t6 t7 x0 x1
          refine wp_region_V (FrB w7.heap.size []) (FrB.refl _ _) (fun _ _ _ => FrB.trans) 14 [(0, false), (1, false), (2, false), (4, false), (5, false), (7, false), (9, false), (10, false), (3, true), (6, true), (8, true), (11, false), (12, true), (13, true), (14, true)] 63 rfl (by kernel_rfl) (by kernel_rfl) (by kernel_rfl) (fun c a d v w h => by cases d <;> exact h) (fun we hfe hse => ?_)
          simp only [List.map_cons, List.map_nil, List.getElem?_toArray, List.getElem?_cons_succ, List.getElem?_cons_zero, Option.getD_some]
          have LB : Hid (∀ w', FrB w7.heap.size [] we w' → w'.heap[q0]? = some (.cells #[.slice a0 d.dn.length c0, .slice a1 d.ds.length c1, .slice a2 d.ops.length c2, .slice (some ⟨b0, off, none⟩) d.files.length c3, .int .i64 d.room, .int .i64 (stepK d).steps, .bool (stepK d).down, .slice a4 d.armed.length c4] 34 (0, 0))) := Lib.hid (fun w' hf' => hf'.heap (hfe.heap HB7.out.b0 (by simp)) hq07 (by simp))
          have LX : Hid (∀ w', FrB w7.heap.size [] we w' → w'.heap[q2]? = some (.cells #[.slice ax f.now.length cx, .slice ay f.safe.length cy] 85 (0, 0))) := Lib.hid (fun w' hf' => hf'.heap (hfe.heap HB27.out (by simp)) hq27 (by simp))
          have HFE2 := Lib.hid hfe
          have HSE := Lib.hid hse
          clear hfe hse
          repeat (apply walkV_t; · (intro w' hf'; obtain ⟨y0, y1, y2, y3, y4, y5, y6, y7⟩ := eight_of_heap (LB.out w' hf'); obtain ⟨x0, x1⟩ := two_of_heap (LX.out w' hf'); go_wp2_with fail; exact ⟨rfl, rfl⟩))
          refine walkV_x ?_
          go_wp2_with fail
          have hem := owns_empty we w7.heap.size 5 1 (by rw [HSE.out]; exact Nat.le_refl _)
          have hfz := Fr.alloc we (.cells #[] 5)
          refine ⟨FrB.of hfz (by rw [HSE.out]; exact Nat.le_refl _) (by simp), rfl, ?_⟩
          obtain ⟨w8, hw8⟩ : ∃ w8, w8 = we.alloc (.cells #[] 5) := ⟨_, rfl⟩
          obtain ⟨e0, he0⟩ : ∃ e0, e0 = we.heap.size := ⟨_, rfl⟩
          rw [← hw8, ← he0]
          rw [← hw8, ← he0] at hem
          rw [← hw8] at hfz
          have h78 : w7.heap.size ≤ w8.heap.size := by have := hfz.size; have := HSE.out; omega
          have he07 : w7.heap.size ≤ e0 := by have := HSE.out; omega
          clear hw8 he0
          have HF8 := Lib.hid (HFE2.out.trans hfz (by simp) (n := []) (by simp))
          have HEM := Lib.hid hem
          have HBN := Lib.hid (HPR7.out.1.below HF8.out)
          clear hem hfz
          refine walkV_x ?_
          go_wp2_with (at_builtin; refine wpL_append rfl (.tmp 51) (.tmp 53) 38 rfl w7.heap.size 5 ti _ Tryz.underlying38 hti hz0 hz1 hz2 rfl (.slice (some ⟨e0, 0, none⟩) 0 0) [] rfl HEM.out _ f.now rfl HBN.out (by simp; omega) h78 ?_; intro v9 w9 hown9 hf9 hb9)
          have hown9' : w9.ownsRow w7.heap.size 5 1 v9 f.now.length (cellsB f.now) := hown9
          obtain ⟨a9, c9, rfl, hc9, hm9⟩ := owns_slice hown9'
          refine ⟨FrB.of hf9 h78 (by simp [Value.ownBlock]; omega), rfl, ?_⟩
          have HO9 := Lib.hid hown9'
          have HF9 : Hid (Fr [] w7 w9) := Lib.hid (HF8.out.trans hf9 (by simp) (by simp [Value.ownBlock]; omega))
          have HBB9 := Lib.hid (HBV.out.below (HB7.out.fr.trans HF9.out (by simp) (n := []) (by simp)))
          have h79 : w7.heap.size ≤ w9.heap.size := HF9.out.size
          clear hown9 hown9' hf9 hb9
          refine walkV_x ?_
          go_wp2_with (at_builtin; refine wpL_append rfl (.tmp 54) (.tmp 55) 38 rfl w7.heap.size 5 ti _ Tryz.underlying38 hti hz0 hz1 hz2 rfl (.slice a9 f.now.length c9) f.now rfl HO9.out _ b rfl HBB9.out (by omega) h79 ?_; intro v10 w10 hown10 hf10 hb10)
          obtain ⟨a10, c10, hv10, hc10, hm10⟩ := owns_slice hown10
          rw [List.length_append] at hv10
          subst hv10
          have hn9 : ∀ j ∈ (Value.slice a9 f.now.length c9).ownBlock.toList, w7.heap.size ≤ j := fun j hj => (HO9.out.lt j (Option.mem_toList.1 hj)).1
          refine ⟨FrB.of hf10 h79 (fun j hj hlt => by have := hn9 j hj; omega), rfl, ?_⟩
          have HF10 : Hid (Fr [] w7 w10) := Lib.hid (HF9.out.trans hf10 (by simp) (fun j hj hlt => by have := hn9 j hj; omega))
          have HO10 := Lib.hid hown10
          have h710 : w7.heap.size ≤ w10.heap.size := HF10.out.size
          clear hown10 hf10 hb10 hn9
          repeat (apply walkV_t; · (intro w' hf'; go_wp2_with fail; exact ⟨rfl, rfl⟩))
          obtain ⟨D9, hD9⟩ : ∃ D9, D9 = D ++ (Value.slice a10 (f.now.length + b.length) c10).ownBlock.toList := ⟨_, rfl⟩
          have hDD : ∀ j ∈ D, j ∈ D9 := fun j hj => by rw [hD9]; simp [hj]
          have hDn : ∀ j ∈ D9, j ∈ D ∨ (w7.heap.size ≤ j ∧ j < w10.heap.size) := fun j hj => by
            rw [hD9, List.mem_append] at hj
            rcases hj with q | q
            · exact .inl q
            · exact .inr (HO10.out.lt j (Option.mem_toList.1 q))
          have hfr10 : fileR w10 (.slice a10 (f.now.length + b.length) c10, .slice ay f.safe.length cy) ⟨f.now ++ b, f.safe⟩ D9 :=
            ⟨bytesAt_of_owns HO10.out, HPR7.out.2.1.below HF10.out, fun j hj _ => by rw [hD9]; simp [hj], fun j hj hne => hDD j (HPR7.out.2.2.2 j hj hne)⟩
          have hset := kset_any d.files D9 _ i _ _ ⟨f.now ++ b, f.safe⟩ w10 ((HFR7.out.below HF10.out).mono hDD) hil hfl hfr10
          have HSET := Lib.hid hset
          have HDN := Lib.hid hDn
          clear hset hfr10 hDn hDD hD9
          refine walkV_x ?_
          go_wp2_with (go_at_call 60; refine HSET.out.mono ?_; rintro e w11 ⟨v11, rfl, hfl11, hf11⟩; obtain ⟨a6, c6, hv6⟩ := hfl11.slice; rw [List.length_set] at hv6; subst hv6)
          refine ⟨.inr (FrB.of hf11 h710 (by simp)), rfl, ?_⟩
          have HF11 : Hid (Fr [] w7 w11) := Lib.hid (HF10.out.trans hf11 (by simp) (by simp))
          have HB6 := Lib.hid (HB7.out.below HF11.out)
          have HFL6 := Lib.hid hfl11
          have h1011 := hf11.size
          clear hfl11 hf11
          obtain ⟨y0, y1, y2, y3, y4, y5, y6, y7⟩ := eight_of_heap HB6.out.b0
          obtain ⟨g0, g1, g2, g3, g4, g5, g6, g7⟩ := eight_free HB6.out.b0
          refine walkV_x ?_
          go_wp2_with fail
          refine ⟨FrB.refl _ _ _, rfl, ?_⟩
          refine walkV_x ?_
          go_wp2_with fail
          refine ⟨rfl, walkV_end ?_⟩
          have hq17 : q1 < w7.heap.size := by obtain ⟨_, _, _, _, _, _, _, _, hh⟩ := HB7.out.b1; exact (Array.getElem?_eq_some_iff.1 hh).1
          have HDB : Hid (∀ k ∈ D9, k ≠ q0 ∧ k ≠ q1) := Lib.hid (fun k hk => by
            have h2 := HB6.out.n0
            have h3 := HB6.out.n1
            rcases HDN.out k hk with q | q
            · have h1 := HD0.out k q; omega
            · omega)
          have HDW : Hid (∀ k ∈ D9, (k ∈ D ∨ w.heap.size ≤ k) ∧ k < w11.heap.size) := Lib.hid (fun k hk => by
            rcases HDN.out k hk with q | q
            · have h1 := HD0.out k q; exact ⟨.inl q, by omega⟩
            · exact ⟨.inr (by omega), by omega⟩)
          have hDq0 : ∀ k ∈ D9, k ≠ q0 := fun k hk => by have h1 := HDB.out k hk; omega
          have hDq1 : ∀ k ∈ D9, k ≠ q1 := fun k hk => by have h1 := HDB.out k hk; omega
          have hf90 := Fr.set0 w11 q0 3 (.slice a6 d.files.length c6)
          have hB10 : Boxes w q0 q1 #[.slice a0 d.dn.length c0, .slice a1 d.ds.length c1, .slice a2 d.ops.length c2, .slice a6 d.files.length c6, .int .i64 d.room, .int .i64 (stepK d).steps, .bool (stepK d).down, .slice a4 d.armed.length c4] _ := HB6.out.write hf90 (heap_setCell_same HB6.out.b0 _)
          have hfl10 := HFL6.out.box HB6.out.b0 hDq0 hf90
          generalize hw10 : w11.setCell ⟨q0, 3, none⟩ (.slice a6 d.files.length c6) = wq10 at hB10 hf90 hfl10 ⊢
          have HS90 := Lib.hid hf90.size
          have HFL := Lib.hid hfl10
          have HDQ := Lib.hid hDq1
          clear hw10 hf90 hfl10 hDq0 hDq1 g0 g1 g2 g3 g4 g5 g6 g7
          clear HB
          have HB := Lib.hid hB10
          clear hB10 y0 y1 y2 y3 y4 y5 y6 y7
          obtain ⟨y0, y1, y2, y3, y4, y5, y6, y7⟩ := eight_of_heap HB.out.b0
          obtain ⟨z0, z1, z2, z3, z4, z5, z6, z7⟩ := HB.out.free1
          obtain ⟨r0', r1', r2', r3', r4', r5', r6', r7', hr1⟩ := HB.out.b1
          obtain ⟨t0, t1, t2, t3, t4, t5, t6, t7⟩ := eight_of_heap hr1
          clear hr1
          go_wp2_with fail
          have hr := HB.out.result (.slice a0 d.dn.length c0) (.slice a1 d.ds.length c1) (.slice a2 d.ops.length c2) (.slice a6 d.files.length c6) (.int .i64 d.room) (.int .i64 (stepK d).steps) (.bool (stepK d).down) (.slice a4 d.armed.length c4)
          refine bodyPost_ret (results_cell2 rfl _ _ q1 34 _ _ rfl hr.1 Tryz.underlying34 rfl sizeK (.int .i64 0) rfl) rfl ?_
          rw [HKD.out]
          exact dskd_put HRK.out (HFL.out.result HB.out HDQ.out _ _ _ _ _ _ _ _) (fun k hk => (HDW.out k hk).1) (fun k hk => by have h1 := (HDW.out k hk).2; have h2 := HS90.out; have h3 := (Fr.set8 wq10 q1 (.slice a0 d.dn.length c0) (.slice a1 d.ds.length c1) (.slice a2 d.ops.length c2) (.slice a6 d.files.length c6) (.int .i64 d.room) (.int .i64 (stepK d).steps) (.bool (stepK d).down) (.slice a4 d.armed.length c4)).size; omega) hr.2
  · have hcb : (codeK d != 0) = true := by simp [hcz]
    have hkd : appendK d m b = (stepK d, codeK d) := by unfold appendK; rw [if_pos hcz]
    have HKD := Lib.hid hkd
    clear hcz hkd
    go_wp2_with (go_at_call 58; refine (HFI.out _ HB.out.fr).mono ?_; rintro e w5 ⟨rfl, hf5⟩; replace HB := Lib.hid (HB.out.below hf5); clear y0 y1 y2 y3 y4 y5 y6 y7 z0 z1 z2 z3 z4 z5 z6 z7 t0 t1 t2 t3 t4 t5 t6 t7 hf5; obtain ⟨y0, y1, y2, y3, y4, y5, y6, y7⟩ := eight_of_heap HB.out.b0; obtain ⟨z0, z1, z2, z3, z4, z5, z6, z7⟩ := HB.out.free1; obtain ⟨r0', r1', r2', r3', r4', r5', r6', r7', hr1⟩ := HB.out.b1; obtain ⟨t0, t1, t2, t3, t4, t5, t6, t7⟩ := eight_of_heap hr1; clear hr1)
    have hr := HB.out.result (.slice a0 d.dn.length c0) (.slice a1 d.ds.length c1) (.slice a2 d.ops.length c2) (.slice a3 d.files.length c3) (.int .i64 d.room) (.int .i64 (stepK d).steps) (.bool (stepK d).down) (.slice a4 d.armed.length c4)
    refine bodyPost_ret (results_cell2 rfl _ _ q1 34 _ _ rfl hr.1 Tryz.underlying34 rfl sizeK (.int .i64 (codeK d)) rfl) rfl ?_
    rw [HKD.out]
    exact dskd_step HRK.out hr.2 rfl
end Go.Proofs.YtmchnaojlnjmjaaGreat
