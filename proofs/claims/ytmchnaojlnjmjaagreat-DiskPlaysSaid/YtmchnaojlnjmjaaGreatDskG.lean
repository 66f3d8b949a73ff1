/- The document's disk (layer 11): Sync. Written by wip/tools/gen_dskG.py. -/
import Derived.Test.YtmchnaojlnjmjaaGreatDskF
import Derived.Test.YtmchnaojlnjmjaaGreatBs
namespace Go.Proofs.YtmchnaojlnjmjaaGreat
open Go.RowKit Go.Maps

theorem filesR.mono {w : World} {fv : Value} {fs : List FileD} {D D' : List Nat} (h : filesR w fv fs D) (hd : ∀ k ∈ D, k ∈ D') : filesR w fv fs D' := by
  obtain ⟨ps, h1, h2, h3⟩ := h
  exact ⟨ps, h1, h2, fun i a b => (h3 i a b).mono hd⟩
theorem filesR.slice {w : World} {fv : Value} {fs : List FileD} {D : List Nat} (h : filesR w fv fs D) : ∃ a c, fv = .slice a fs.length c := by
  obtain ⟨ps, h1, h2, h3⟩ := h
  obtain ⟨a, c, e, -, -⟩ := owns_slice h2
  exact ⟨a, c, e⟩
/-- One file is another one. -/
theorem dskd_put {w w' : World} {nv sv ov fv av v fv' : Value} {d : DskD} {D D' : List Nat} {i : Nat} {f : FileD} (h : RK w nv sv ov fv av d D) (hfl : filesR w' fv' (d.files.set i f) D') (hD : ∀ k ∈ D', k ∈ D ∨ w.heap.size ≤ k) (hlt : ∀ k ∈ D', k < w'.heap.size) (hf : Fr [] w w') :
    Dskd (putK (stepK d) (i : Int) f) v D w (.returned (.tuple #[.agg #[nv, sv, ov, fv', .int .i64 d.room, .int .i64 (stepK d).steps, .bool (stepK d).down, av], v])) w' :=
  ⟨_, _, _, _, _, D', rfl, ⟨(h.below hf).dir, by show filesR w' fv' (d.files.set ((i : Int).toNat) f) D'; rw [Int.toNat_natCast]; exact hfl, (h.below hf).armed, hlt⟩, hf, hD⟩

set_option maxRecDepth 100000 in
set_option maxHeartbeats 2000000 in
theorem ksync_any (nv sv ov fv av : Value) (d : DskD) (D : List Nat) (m : List UInt8) (k : Nat) (w : World) (h : RK w nv sv ov fv av d D) (hk : OkK d k) (hkk : kindsOk d.armed) (hk6 : k ≤ 900)  :
    Calls Tryz.prog 23 #[kval nv sv ov fv av d, encStr m] w (Dskd (syncK d m).1 (.int .i64 (syncK d m).2) D w) := by
  have hst : 0 ≤ d.steps ∧ d.steps ≤ 1000000 := ⟨hk.st0, by have := hk.st; omega⟩
  have HRK := Lib.hid h
  have HOK := Lib.hid hk
  have HKK := Lib.hid hkk
  obtain ⟨a0, c0, a1, c1, a2, c2, a3, c3, a4, c4, rfl, rfl, rfl, rfl, rfl⟩ := h.slices
  have hB := boxes_at w #[.slice a0 d.dn.length c0, .slice a1 d.ds.length c1, .slice a2 d.ops.length c2, .slice a3 d.files.length c3, .int .i64 d.room, .int .i64 d.steps, .bool d.down, .slice a4 d.armed.length c4]
  have hstp := fun wx (hx : Fr [] w wx) => kstep_any _ _ _ _ _ d D wx (HRK.out.below hx) hst hkk
  unfold kval at hstp ⊢
  have hstr : (stepK d).room = d.room := rfl
  rw [hstr] at hstp
  have HST := Lib.hid hstp
  clear h hk hkk hst hstp hstr
  go_enter Tryz.func23, Tryz.ntmps23
  go_upto_region 1 with fail
  unfold zeroK at hB
  obtain ⟨w2, hw2⟩ : ∃ w2, w2 = (w.alloc (.cells #[.slice a0 d.dn.length c0, .slice a1 d.ds.length c1, .slice a2 d.ops.length c2, .slice a3 d.files.length c3, .int .i64 d.room, .int .i64 d.steps, .bool d.down, .slice a4 d.armed.length c4] 34)).alloc (.cells #[.slice none 0 0, .slice none 0 0, .slice none 0 0, .slice none 0 0, .int .i64 0, .int .i64 0, .bool false, .slice none 0 0] 34) := ⟨_, rfl⟩
  rw [← hw2] at hB ⊢
  obtain ⟨q0, hq0⟩ : ∃ q, q = w.heap.size := ⟨_, rfl⟩
  obtain ⟨q1, hq1⟩ : ∃ q, q = w.heap.size + 1 := ⟨_, rfl⟩
  rw [← hq1, ← hq0] at hB
  rw [← hq1, ← hq0]
  clear hw2 hq0 hq1
  have HB2 := Lib.hid hB
  obtain ⟨y0, y1, y2, y3, y4, y5, y6, y7⟩ := eight_of_heap hB.b0
  clear hB
  go_upto_region 2 with (go_at_call 56; refine (HST.out _ HB2.out.fr).mono ?_; rintro e w3 ⟨rfl, hf3⟩; have HB3 := Lib.hid (HB2.out.below hf3); clear hf3 y0 y1 y2 y3 y4 y5 y6 y7; obtain ⟨y0, y1, y2, y3, y4, y5, y6, y7⟩ := eight_of_heap HB3.out.b0; obtain ⟨g0, g1, g2, g3, g4, g5, g6, g7⟩ := eight_free HB3.out.b0)
  have hB4 : Boxes w q0 q1 #[.slice a0 d.dn.length c0, .slice a1 d.ds.length c1, .slice a2 d.ops.length c2, .slice a3 d.files.length c3, .int .i64 d.room, .int .i64 (stepK d).steps, .bool (stepK d).down, .slice a4 d.armed.length c4] _ := HB3.out.write (Fr.set8 w3 q0 (.slice a0 d.dn.length c0) (.slice a1 d.ds.length c1) (.slice a2 d.ops.length c2) (.slice a3 d.files.length c3) (.int .i64 d.room) (.int .i64 (stepK d).steps) (.bool (stepK d).down) (.slice a4 d.armed.length c4)) (heap_set8 HB3.out.b0 (.slice a0 d.dn.length c0) (.slice a1 d.ds.length c1) (.slice a2 d.ops.length c2) (.slice a3 d.files.length c3) (.int .i64 d.room) (.int .i64 (stepK d).steps) (.bool (stepK d).down) (.slice a4 d.armed.length c4))
  generalize hw4 : ((((((((w3.setCell ⟨q0, 0, none⟩ (.slice a0 d.dn.length c0)).setCell ⟨q0, 1, none⟩ (.slice a1 d.ds.length c1)).setCell ⟨q0, 2, none⟩ (.slice a2 d.ops.length c2)).setCell ⟨q0, 3, none⟩ (.slice a3 d.files.length c3)).setCell ⟨q0, 4, none⟩ (.int .i64 d.room)).setCell ⟨q0, 5, none⟩ (.int .i64 (stepK d).steps)).setCell ⟨q0, 6, none⟩ (.bool (stepK d).down)).setCell ⟨q0, 7, none⟩ (.slice a4 d.armed.length c4)) = w4 at hB4 ⊢
  clear hw4 y0 y1 y2 y3 y4 y5 y6 y7 g0 g1 g2 g3 g4 g5 g6 g7 HB2 HB3
  have HB := Lib.hid hB4
  obtain ⟨y0, y1, y2, y3, y4, y5, y6, y7⟩ := eight_of_heap hB4.b0
  obtain ⟨z0, z1, z2, z3, z4, z5, z6, z7⟩ := hB4.free1
  obtain ⟨r0, r1, r2, r3, r4, r5, r6, r7, hr1⟩ := hB4.b1
  obtain ⟨t0, t1, t2, t3, t4, t5, t6, t7⟩ := eight_of_heap hr1
  clear hr1 hB4
  obtain ⟨c, hc⟩ : ∃ c, c = codeK d := ⟨_, rfl⟩
  clear hc c
  have HFI := Lib.hid (fun wx (hx : Fr [] w wx) => kfile_any _ _ _ _ _ (stepK d) D m wx (HRK.out.below hx).step)
  unfold kval at HFI
  by_cases hcz : codeK d = 0
  · have hcb : (codeK d != 0) = false := by simp [hcz]
    have HCZ := Lib.hid hcz
    cases hl : lookL d.dn m with
    | none =>
      have hno : noK (stepK d) m = -1 := by unfold noK; show (lookL d.dn m).getD (-1) = -1; rw [hl]; rfl
      have hkd : syncK d m = (stepK d, 7) := by unfold syncK; rw [if_neg (by simp [hcz]), hl]
      rw [hno] at HFI
      have HKD := Lib.hid hkd
      clear hkd hl hno hcz
      go_wp2_with (go_at_call 58; refine (HFI.out _ HB.out.fr).mono ?_; rintro e w5 ⟨rfl, hf5⟩; replace HB := Lib.hid (HB.out.below hf5); clear y0 y1 y2 y3 y4 y5 y6 y7 z0 z1 z2 z3 z4 z5 z6 z7 t0 t1 t2 t3 t4 t5 t6 t7 hf5; obtain ⟨y0, y1, y2, y3, y4, y5, y6, y7⟩ := eight_of_heap HB.out.b0; obtain ⟨z0, z1, z2, z3, z4, z5, z6, z7⟩ := HB.out.free1; obtain ⟨r0', r1', r2', r3', r4', r5', r6', r7', hr1⟩ := HB.out.b1; obtain ⟨t0, t1, t2, t3, t4, t5, t6, t7⟩ := eight_of_heap hr1; clear hr1)
      have hr := HB.out.result (.slice a0 d.dn.length c0) (.slice a1 d.ds.length c1) (.slice a2 d.ops.length c2) (.slice a3 d.files.length c3) (.int .i64 d.room) (.int .i64 (stepK d).steps) (.bool (stepK d).down) (.slice a4 d.armed.length c4)
      refine bodyPost_ret (results_cell2 rfl _ _ q1 34 _ _ rfl hr.1 Tryz.underlying34 rfl sizeK (.int .i64 7) rfl) rfl ?_
      rw [HKD.out]
      exact dskd_step HRK.out hr.2 rfl
    | some n =>
      have hno : noK (stepK d) m = n := by unfold noK; show (lookL d.dn m).getD (-1) = n; rw [hl]; rfl
      have hkd : syncK d m = (putK (stepK d) n ⟨(fileK d n).now, (fileK d n).now⟩, 0) := by unfold syncK; rw [if_neg (by simp [hcz]), hl]
      rw [hno] at HFI
      have hnf := file_lo HOK.out hl
      obtain ⟨i, hi⟩ : ∃ i : Nat, n = (i : Int) := ⟨n.toNat, by omega⟩
      subst hi
      have hil : i < d.files.length := by simpa using hnf.2
      have hfk : fileK d (i : Int) = d.files[i]'hil := by unfold fileK; rw [Int.toNat_natCast]; simp only [List.getD, List.getElem?_eq_getElem hil, Option.getD_some]
      rw [hfk] at hkd
      obtain ⟨f, hfe⟩ : ∃ f, f = d.files[i]'hil := ⟨_, rfl⟩
      rw [← hfe] at hkd
      have hdn : decide ((i : Int) < 0) = false := decide_eq_false (by omega)
      have hfl : d.files.length ≤ 1000 := by have := HOK.out.fl; omega
      have HKD := Lib.hid hkd
      clear hkd hl hno hcz hfk hnf
      go_upto_region 7 with (go_at_call 58; refine (HFI.out _ HB.out.fr).mono ?_; rintro e w5 ⟨rfl, hf5⟩; replace HB := Lib.hid (HB.out.below hf5); clear y0 y1 y2 y3 y4 y5 y6 y7 z0 z1 z2 z3 z4 z5 z6 z7 t0 t1 t2 t3 t4 t5 t6 t7 hf5; obtain ⟨y0, y1, y2, y3, y4, y5, y6, y7⟩ := eight_of_heap HB.out.b0; obtain ⟨z0, z1, z2, z3, z4, z5, z6, z7⟩ := HB.out.free1; obtain ⟨r0', r1', r2', r3', r4', r5', r6', r7', hr1⟩ := HB.out.b1; obtain ⟨t0, t1, t2, t3, t4, t5, t6, t7⟩ := eight_of_heap hr1; clear hr1)
      obtain ⟨b, off, p, rfl, -, -, hp0, hp1, hpr⟩ := (HRK.out.below HB.out.fr).files.get i hil
      rw [← hfe] at hpr
      obtain ⟨p0, p1⟩ := p
      obtain ⟨ax, cx, hax, hlx, hmx⟩ := hpr.1.form
      simp only at hax hp0 hp1
      subst hax
      have HPR := Lib.hid (show fileR w5 (.slice ax f.now.length cx, .slice ax f.now.length cx) ⟨f.now, f.now⟩ D from ⟨hpr.1, hpr.1, hpr.2.2.1, hpr.2.2.1⟩)
      have HFI2 := Lib.hid (HRK.out.below HB.out.fr).files
      clear y0 y1 y2 y3 y4 y5 y6 y7 z0 z1 z2 z3 z4 z5 z6 z7 t0 t1 t2 t3 t4 t5 t6 t7 hpr hfe
      refine wp_region_Z [] 18 [(0, false), (1, false), (2, false), (3, false), (4, false), (5, false), (6, false), (7, false), (8, false), (9, false), (10, false), (11, false), (12, false), (13, false), (14, false), (15, false), (16, true), (17, true), (18, true)] 42 rfl (by kernel_rfl) (by kernel_rfl) (by kernel_rfl) (fun c a d v w h => by cases d <;> exact h) (fun wd hfd => ?_)
      simp only [List.map_cons, List.map_nil, List.getElem?_toArray, List.getElem?_cons_succ, List.getElem?_cons_zero, Option.getD_some]
      have LB : Hid (Later [] wd (fun w' => w'.heap[q0]? = some (.cells #[.slice a0 d.dn.length c0, .slice a1 d.ds.length c1, .slice a2 d.ops.length c2, .slice (some ⟨b, off, none⟩) d.files.length c3, .int .i64 d.room, .int .i64 (stepK d).steps, .bool (stepK d).down, .slice a4 d.armed.length c4] 34 (0, 0)))) := Lib.hid (fun w' hf' => hf'.heap (hfd.heap HB.out.b0 (by simp)) (by simp))
      have LC : Hid (Later [] wd (fun w' => w'.cell? ⟨b, off + i * 2, none⟩ = some (.slice ax f.now.length cx))) := Lib.hid (fun w' hf' => hf'.cell (hfd.cell hp0 (by simp)) (by simp))
      have HFD := Lib.hid hfd
      have HBD := Lib.hid (HB.out.below hfd)
      clear hp0 hp1 hfd
      repeat (apply walkZ_t; · (intro w' hf'; obtain ⟨y0, y1, y2, y3, y4, y5, y6, y7⟩ := eight_of_heap (LB.out w' hf'); have k1 := LC.out w' hf'; go_wp2_with fail; exact ⟨rfl, rfl⟩))
      refine walkZ_x ?_
      have HSE := Lib.hid (kset_any d.files D _ i _ _ ⟨f.now, f.now⟩ wd (HFI2.out.below HFD.out) hil hfl (HPR.out.kept HFD.out (by simp)))
      go_wp2_with (go_at_call 60; refine HSE.out.mono ?_; rintro e w6 ⟨v6, rfl, hfl6, hf6⟩; obtain ⟨a6, c6, hv6⟩ := hfl6.slice; rw [List.length_set] at hv6; subst hv6)
      refine ⟨.inr hf6, rfl, ?_⟩
      have HB6 := Lib.hid (HBD.out.below hf6)
      have HFL6 := Lib.hid hfl6
      clear hfl6 hf6
      obtain ⟨y0, y1, y2, y3, y4, y5, y6, y7⟩ := eight_of_heap HB6.out.b0
      obtain ⟨g0, g1, g2, g3, g4, g5, g6, g7⟩ := eight_free HB6.out.b0
      refine walkZ_x ?_
      go_wp2_with fail
      refine ⟨Fr.refl _ _, rfl, ?_⟩
      refine walkZ_x ?_
      go_wp2_with fail
      refine ⟨rfl, walkZ_end ?_⟩
      have HDB : Hid (∀ k ∈ D, k ≠ q0 ∧ k ≠ q1) := Lib.hid (fun k hk => by have h1 := HRK.out.lt k hk; have h2 := HB6.out.n0; have h3 := HB6.out.n1; omega)
      have hDq0 : ∀ k ∈ D, k ≠ q0 := fun k hk => by have h1 := HDB.out k hk; omega
      have hDq1 : ∀ k ∈ D, k ≠ q1 := fun k hk => by have h1 := HDB.out k hk; omega
      have hf90 := Fr.set0 w6 q0 3 (.slice a6 d.files.length c6)
      have hB10 : Boxes w q0 q1 #[.slice a0 d.dn.length c0, .slice a1 d.ds.length c1, .slice a2 d.ops.length c2, .slice a6 d.files.length c6, .int .i64 d.room, .int .i64 (stepK d).steps, .bool (stepK d).down, .slice a4 d.armed.length c4] _ := HB6.out.write hf90 (heap_setCell_same HB6.out.b0 _)
      have hfl10 := HFL6.out.box HB6.out.b0 hDq0 hf90
      generalize hw10 : w6.setCell ⟨q0, 3, none⟩ (.slice a6 d.files.length c6) = w10 at hB10 hf90 hfl10 ⊢
      have HFL := Lib.hid hfl10
      have HDQ := Lib.hid hDq1
      clear hw10 hf90 hfl10 hDq0 hDq1 g0 g1 g2 g3 g4 g5 g6 g7
      clear HB
      have HB := Lib.hid hB10
      clear hB10 y0 y1 y2 y3 y4 y5 y6 y7
      obtain ⟨y0, y1, y2, y3, y4, y5, y6, y7⟩ := eight_of_heap HB.out.b0
      obtain ⟨z0, z1, z2, z3, z4, z5, z6, z7⟩ := HB.out.free1
      obtain ⟨r0', r1', r2', r3', r4', r5', r6', r7', hr1⟩ := HB.out.b1
      obtain ⟨t0, t1, t2, t3, t4, t5, t6, t7⟩ := eight_of_heap hr1
      clear hr1
      go_wp2_with fail
      have hr := HB.out.result (.slice a0 d.dn.length c0) (.slice a1 d.ds.length c1) (.slice a2 d.ops.length c2) (.slice a6 d.files.length c6) (.int .i64 d.room) (.int .i64 (stepK d).steps) (.bool (stepK d).down) (.slice a4 d.armed.length c4)
      refine bodyPost_ret (results_cell2 rfl _ _ q1 34 _ _ rfl hr.1 Tryz.underlying34 rfl sizeK (.int .i64 0) rfl) rfl ?_
      rw [HKD.out]
      exact dskd_put HRK.out (HFL.out.result HB.out HDQ.out _ _ _ _ _ _ _ _) (fun k hk => .inl hk) (HRK.out.below hr.2).lt hr.2
  · have hcb : (codeK d != 0) = true := by simp [hcz]
    have hkd : syncK d m = (stepK d, codeK d) := by unfold syncK; rw [if_pos hcz]
    have HKD := Lib.hid hkd
    clear hcz hkd
    go_wp2_with (go_at_call 58; refine (HFI.out _ HB.out.fr).mono ?_; rintro e w5 ⟨rfl, hf5⟩; replace HB := Lib.hid (HB.out.below hf5); clear y0 y1 y2 y3 y4 y5 y6 y7 z0 z1 z2 z3 z4 z5 z6 z7 t0 t1 t2 t3 t4 t5 t6 t7 hf5; obtain ⟨y0, y1, y2, y3, y4, y5, y6, y7⟩ := eight_of_heap HB.out.b0; obtain ⟨z0, z1, z2, z3, z4, z5, z6, z7⟩ := HB.out.free1; obtain ⟨r0', r1', r2', r3', r4', r5', r6', r7', hr1⟩ := HB.out.b1; obtain ⟨t0, t1, t2, t3, t4, t5, t6, t7⟩ := eight_of_heap hr1; clear hr1)
    have hr := HB.out.result (.slice a0 d.dn.length c0) (.slice a1 d.ds.length c1) (.slice a2 d.ops.length c2) (.slice a3 d.files.length c3) (.int .i64 d.room) (.int .i64 (stepK d).steps) (.bool (stepK d).down) (.slice a4 d.armed.length c4)
    refine bodyPost_ret (results_cell2 rfl _ _ q1 34 _ _ rfl hr.1 Tryz.underlying34 rfl sizeK (.int .i64 (codeK d)) rfl) rfl ?_
    rw [HKD.out]
    exact dskd_step HRK.out hr.2 rfl
end Go.Proofs.YtmchnaojlnjmjaaGreat
