/- The document's disk (layer 11): Create. Written by wip/tools/gen_dskF.py. -/
import Derived.Test.YtmchnaojlnjmjaaGreatDskE
namespace Go.Proofs.YtmchnaojlnjmjaaGreat
open Go.RowKit Go.Maps

/-- A box of a disk has been written: the files. -/
theorem filesR.box {w w' : World} {fv : Value} {fs : List FileD} {D : List Nat} {q : Nat} {cs : Array Value} {fr : Nat × Nat} (h : filesR w fv fs D) (hq : w.heap[q]? = some (.cells cs 34 fr)) (hD : ∀ k ∈ D, k ≠ q) (hf : Fr [q] w w') : filesR w' fv fs D := by
  refine h.kept hf (fun k hk cs' t fr' hh => ?_) (fun k hk => by simpa using hD k hk)
  obtain rfl : k = q := by simpa using hk
  rw [hq] at hh
  simp only [Option.some.injEq, Obj.cells.injEq] at hh
  obtain ⟨-, rfl, -⟩ := hh
  exact ⟨by decide, by decide, by decide, by decide⟩
theorem armed_box {w w' : World} {av : Value} {l : List FltD} {q : Nat} {cs : Array Value} {fr : Nat × Nat} (h : armedR w av l) (hq : w.heap[q]? = some (.cells cs 34 fr)) (hf : Fr [q] w w') : armedR w' av l :=
  owns_kept h hf (fun k hk => by simpa using owns_ne h hq (by decide) k hk)
theorem filesR.result {w wx : World} {fv : Value} {fs : List FileD} {D : List Nat} {q0 q1 : Nat} {cs : Array Value} (h : filesR wx fv fs D) (hB : Boxes w q0 q1 cs wx) (hD : ∀ k ∈ D, k ≠ q1) (x0 x1 x2 x3 x4 x5 x6 x7 : Value) :
    filesR ((((((((wx.setCell ⟨q1, 0, none⟩ x0).setCell ⟨q1, 1, none⟩ x1).setCell ⟨q1, 2, none⟩ x2).setCell ⟨q1, 3, none⟩ x3).setCell ⟨q1, 4, none⟩ x4).setCell ⟨q1, 5, none⟩ x5).setCell ⟨q1, 6, none⟩ x6).setCell ⟨q1, 7, none⟩ x7) fv fs D := by
  obtain ⟨y0, y1, y2, y3, y4, y5, y6, y7, hb1⟩ := hB.b1
  exact h.box hb1 hD (Fr.set8 wx q1 x0 x1 x2 x3 x4 x5 x6 x7)
theorem filesR.snoc {w w' : World} {v : Value} {base : Nat} {fs : List FileD} {D : List Nat} {ps : List (Value × Value)} (h1 : ps.length = fs.length) (h3 : ∀ i (h : i < ps.length) (h' : i < fs.length), fileR w (ps[i]'h) (fs[i]'h') D) (hf : Fr [] w w')
    (ho : w'.ownsRow base 85 2 v (fs.length + 1) (pcs ps ++ [.slice none 0 0, .slice none 0 0])) : filesR w' v (fs ++ [f0D]) D := by
  refine ⟨ps ++ [(.slice none 0 0, .slice none 0 0)], by simp [h1], ?_, fun i a b => ?_⟩
  · have : pcs ps ++ [.slice none 0 0, .slice none 0 0] = pcs (ps ++ [(.slice none 0 0, .slice none 0 0)]) := by rw [pcs_append]; rfl
    rw [this] at ho
    rw [List.length_append]
    exact owns_base ho (fun _ _ => Nat.zero_le _)
  · by_cases e : i < ps.length
    · rw [List.getElem_append_left e, List.getElem_append_left (by omega)]
      exact (h3 i e (by omega)).kept hf (by simp)
    · rw [List.getElem_append_right (by omega), List.getElem_append_right (by omega)]
      simp only [List.length_append, List.length_singleton] at a
      have e1 : i - ps.length = 0 := by omega
      have e2 : i - fs.length = 0 := by omega
      simp only [e1, e2, List.getElem_cons_zero]
      exact ⟨bytesAt.nil _, bytesAt.nil _, by simp [Value.ownBlock], by simp [Value.ownBlock]⟩

set_option maxRecDepth 100000 in
set_option maxHeartbeats 2000000 in
theorem kcreate_any (nv sv ov fv av : Value) (d : DskD) (D : List Nat) (m : List UInt8) (k : Nat) (w : World) (h : RK w nv sv ov fv av d D) (hk : OkK d k) (hkk : kindsOk d.armed) (hk6 : k ≤ 900) (hm : m.length ≤ maxLen) (hok : okNames d.dn) :
    Calls Tryz.prog 21 #[kval nv sv ov fv av d, encStr m] w (Dskd (createK d m).1 (.int .i64 (createK d m).2) D w) := by
  obtain ⟨ti, hti, hz0, hz1, hz2⟩ := info_parts infoFi
  have hst : 0 ≤ d.steps ∧ d.steps ≤ 1000000 := ⟨hk.st0, by have := hk.st; omega⟩
  have HRK := Lib.hid h
  have HOK := Lib.hid hk
  have HKK := Lib.hid hkk
  obtain ⟨a0, c0, a1, c1, a2, c2, a3, c3, a4, c4, rfl, rfl, rfl, rfl, rfl⟩ := h.slices
  have hB := boxes_at w #[.slice a0 d.dn.length c0, .slice a1 d.ds.length c1, .slice a2 d.ops.length c2, .slice a3 d.files.length c3, .int .i64 d.room, .int .i64 d.steps, .bool d.down, .slice a4 d.armed.length c4]
  have hstp := fun wx (hx : Fr [] w wx) => kstep_any _ _ _ _ _ d D wx (HRK.out.below hx) hst hkk
  unfold kval at hstp ⊢
  have hstr : (stepK d).room = d.room := rfl
  rw [hstr] at hstp
  have HST := Lib.hid hstp
  clear h hk hkk hst hstp hstr
  go_enter Tryz.func21, Tryz.ntmps21
  go_upto_region 1 with fail
  unfold zeroK at hB
  obtain ⟨w2, hw2⟩ : ∃ w2, w2 = (w.alloc (.cells #[.slice a0 d.dn.length c0, .slice a1 d.ds.length c1, .slice a2 d.ops.length c2, .slice a3 d.files.length c3, .int .i64 d.room, .int .i64 d.steps, .bool d.down, .slice a4 d.armed.length c4] 34)).alloc (.cells #[.slice none 0 0, .slice none 0 0, .slice none 0 0, .slice none 0 0, .int .i64 0, .int .i64 0, .bool false, .slice none 0 0] 34) := ⟨_, rfl⟩
  rw [← hw2] at hB ⊢
  obtain ⟨q0, hq0⟩ : ∃ q, q = w.heap.size := ⟨_, rfl⟩
  obtain ⟨q1, hq1⟩ : ∃ q, q = w.heap.size + 1 := ⟨_, rfl⟩
  rw [← hq1, ← hq0] at hB
  rw [← hq1, ← hq0]
  clear hw2 hq0 hq1
  have HB2 := Lib.hid hB
  obtain ⟨y0, y1, y2, y3, y4, y5, y6, y7⟩ := eight_of_heap hB.b0
  clear hB
  go_upto_region 2 with (go_at_call 56; refine (HST.out _ HB2.out.fr).mono ?_; rintro e w3 ⟨rfl, hf3⟩; have HB3 := Lib.hid (HB2.out.below hf3); clear hf3 y0 y1 y2 y3 y4 y5 y6 y7; obtain ⟨y0, y1, y2, y3, y4, y5, y6, y7⟩ := eight_of_heap HB3.out.b0; obtain ⟨g0, g1, g2, g3, g4, g5, g6, g7⟩ := eight_free HB3.out.b0)
  have hB4 : Boxes w q0 q1 #[.slice a0 d.dn.length c0, .slice a1 d.ds.length c1, .slice a2 d.ops.length c2, .slice a3 d.files.length c3, .int .i64 d.room, .int .i64 (stepK d).steps, .bool (stepK d).down, .slice a4 d.armed.length c4] _ := HB3.out.write (Fr.set8 w3 q0 (.slice a0 d.dn.length c0) (.slice a1 d.ds.length c1) (.slice a2 d.ops.length c2) (.slice a3 d.files.length c3) (.int .i64 d.room) (.int .i64 (stepK d).steps) (.bool (stepK d).down) (.slice a4 d.armed.length c4)) (heap_set8 HB3.out.b0 (.slice a0 d.dn.length c0) (.slice a1 d.ds.length c1) (.slice a2 d.ops.length c2) (.slice a3 d.files.length c3) (.int .i64 d.room) (.int .i64 (stepK d).steps) (.bool (stepK d).down) (.slice a4 d.armed.length c4))
  generalize hw4 : ((((((((w3.setCell ⟨q0, 0, none⟩ (.slice a0 d.dn.length c0)).setCell ⟨q0, 1, none⟩ (.slice a1 d.ds.length c1)).setCell ⟨q0, 2, none⟩ (.slice a2 d.ops.length c2)).setCell ⟨q0, 3, none⟩ (.slice a3 d.files.length c3)).setCell ⟨q0, 4, none⟩ (.int .i64 d.room)).setCell ⟨q0, 5, none⟩ (.int .i64 (stepK d).steps)).setCell ⟨q0, 6, none⟩ (.bool (stepK d).down)).setCell ⟨q0, 7, none⟩ (.slice a4 d.armed.length c4)) = w4 at hB4 ⊢
  clear hw4 y0 y1 y2 y3 y4 y5 y6 y7 g0 g1 g2 g3 g4 g5 g6 g7 HB2 HB3
  have HB := Lib.hid hB4
  obtain ⟨y0, y1, y2, y3, y4, y5, y6, y7⟩ := eight_of_heap hB4.b0
  obtain ⟨z0, z1, z2, z3, z4, z5, z6, z7⟩ := hB4.free1
  obtain ⟨r0, r1, r2, r3, r4, r5, r6, r7, hr1⟩ := hB4.b1
  obtain ⟨t0, t1, t2, t3, t4, t5, t6, t7⟩ := eight_of_heap hr1
  clear hr1 hB4
  obtain ⟨c, hc⟩ : ∃ c, c = codeK d := ⟨_, rfl⟩
  clear hc c
  by_cases hcz : codeK d = 0
  · have hcb : (codeK d != 0) = false := by simp [hcz]
    have HCZ := Lib.hid hcz
    have HFI := Lib.hid (fun wx (hx : Fr [] w wx) => kfile_any _ _ _ _ _ (stepK d) D m wx (HRK.out.below hx).step)
    unfold kval at HFI
    have hri := fun wx => kright_any m hm wx
    by_cases hrb : rightB m = false
    · rw [hrb] at hri
      have hkd : createK d m = (stepK d, 1) := by unfold createK; rw [if_neg (by simp [hcz]), if_pos hrb]
      have HRI := Lib.hid hri
      have HKD := Lib.hid hkd
      clear hkd hri hrb hcz
      go_wp2_with (go_at_call 57; refine (HRI.out _).mono ?_; rintro e wr5 ⟨rfl, hfr5⟩; replace HB := Lib.hid (HB.out.below hfr5); clear y0 y1 y2 y3 y4 y5 y6 y7 z0 z1 z2 z3 z4 z5 z6 z7 t0 t1 t2 t3 t4 t5 t6 t7 hfr5; obtain ⟨y0, y1, y2, y3, y4, y5, y6, y7⟩ := eight_of_heap HB.out.b0; obtain ⟨z0, z1, z2, z3, z4, z5, z6, z7⟩ := HB.out.free1; obtain ⟨r0', r1', r2', r3', r4', r5', r6', r7', hr1⟩ := HB.out.b1; obtain ⟨t0, t1, t2, t3, t4, t5, t6, t7⟩ := eight_of_heap hr1; clear hr1)
      have hr := HB.out.result (.slice a0 d.dn.length c0) (.slice a1 d.ds.length c1) (.slice a2 d.ops.length c2) (.slice a3 d.files.length c3) (.int .i64 d.room) (.int .i64 (stepK d).steps) (.bool (stepK d).down) (.slice a4 d.armed.length c4)
      refine bodyPost_ret (results_cell2 rfl _ _ q1 34 _ _ rfl hr.1 Tryz.underlying34 rfl sizeK (.int .i64 1) rfl) rfl ?_
      rw [HKD.out]
      exact dskd_step HRK.out hr.2 rfl
    · have hrt : rightB m = true := by simpa using hrb
      rw [hrt] at hri
      have HRI := Lib.hid hri
      clear hri
      cases hl : lookL d.dn m with
      | some n =>
        have hno : noK (stepK d) m = n := by unfold noK; show (lookL d.dn m).getD (-1) = n; rw [hl]; rfl
        have hn0 := (file_lo HOK.out hl).1
        have hkd : createK d m = (stepK d, 8) := by unfold createK; rw [if_neg (by simp [hcz]), if_neg hrb, hl]; rfl
        rw [hno] at HFI
        have hdn : decide (0 ≤ n) = true := decide_eq_true hn0
        have HKD := Lib.hid hkd
        clear hkd hl hno hcz hrb hrt
        go_wp2_with (first | (go_at_call 57; refine (HRI.out _).mono ?_; rintro e wr5 ⟨rfl, hfr5⟩; replace HB := Lib.hid (HB.out.below hfr5); clear y0 y1 y2 y3 y4 y5 y6 y7 z0 z1 z2 z3 z4 z5 z6 z7 t0 t1 t2 t3 t4 t5 t6 t7 hfr5; obtain ⟨y0, y1, y2, y3, y4, y5, y6, y7⟩ := eight_of_heap HB.out.b0; obtain ⟨z0, z1, z2, z3, z4, z5, z6, z7⟩ := HB.out.free1; obtain ⟨r0', r1', r2', r3', r4', r5', r6', r7', hr1⟩ := HB.out.b1; obtain ⟨t0, t1, t2, t3, t4, t5, t6, t7⟩ := eight_of_heap hr1; clear hr1) | (go_at_call 58; refine (HFI.out _ HB.out.fr).mono ?_; rintro e w5 ⟨rfl, hf5⟩; replace HB := Lib.hid (HB.out.below hf5); clear y0 y1 y2 y3 y4 y5 y6 y7 z0 z1 z2 z3 z4 z5 z6 z7 t0 t1 t2 t3 t4 t5 t6 t7 hf5; obtain ⟨y0, y1, y2, y3, y4, y5, y6, y7⟩ := eight_of_heap HB.out.b0; obtain ⟨z0, z1, z2, z3, z4, z5, z6, z7⟩ := HB.out.free1; obtain ⟨r0', r1', r2', r3', r4', r5', r6', r7', hr1⟩ := HB.out.b1; obtain ⟨t0, t1, t2, t3, t4, t5, t6, t7⟩ := eight_of_heap hr1; clear hr1))
        have hr := HB.out.result (.slice a0 d.dn.length c0) (.slice a1 d.ds.length c1) (.slice a2 d.ops.length c2) (.slice a3 d.files.length c3) (.int .i64 d.room) (.int .i64 (stepK d).steps) (.bool (stepK d).down) (.slice a4 d.armed.length c4)
        refine bodyPost_ret (results_cell2 rfl _ _ q1 34 _ _ rfl hr.1 Tryz.underlying34 rfl sizeK (.int .i64 8) rfl) rfl ?_
        rw [HKD.out]
        exact dskd_step HRK.out hr.2 rfl
      | none =>
        have hno : noK (stepK d) m = -1 := by unfold noK; show (lookL d.dn m).getD (-1) = -1; rw [hl]; rfl
        rw [hno] at HFI
        by_cases h256 : 256 ≤ d.dn.length
        · have hd256 : decide (256 ≤ (d.dn.length : Int)) = true := decide_eq_true (by omega)
          have hkd : createK d m = (stepK d, 9) := by unfold createK; rw [if_neg (by simp [hcz]), if_neg hrb, hl, if_neg (by simp), if_pos h256]
          have HKD := Lib.hid hkd
          clear hkd hl hno hcz hrb hrt h256
          go_wp2_with (first | (go_at_call 57; refine (HRI.out _).mono ?_; rintro e wr5 ⟨rfl, hfr5⟩; replace HB := Lib.hid (HB.out.below hfr5); clear y0 y1 y2 y3 y4 y5 y6 y7 z0 z1 z2 z3 z4 z5 z6 z7 t0 t1 t2 t3 t4 t5 t6 t7 hfr5; obtain ⟨y0, y1, y2, y3, y4, y5, y6, y7⟩ := eight_of_heap HB.out.b0; obtain ⟨z0, z1, z2, z3, z4, z5, z6, z7⟩ := HB.out.free1; obtain ⟨r0', r1', r2', r3', r4', r5', r6', r7', hr1⟩ := HB.out.b1; obtain ⟨t0, t1, t2, t3, t4, t5, t6, t7⟩ := eight_of_heap hr1; clear hr1) | (go_at_call 58; refine (HFI.out _ HB.out.fr).mono ?_; rintro e w5 ⟨rfl, hf5⟩; replace HB := Lib.hid (HB.out.below hf5); clear y0 y1 y2 y3 y4 y5 y6 y7 z0 z1 z2 z3 z4 z5 z6 z7 t0 t1 t2 t3 t4 t5 t6 t7 hf5; obtain ⟨y0, y1, y2, y3, y4, y5, y6, y7⟩ := eight_of_heap HB.out.b0; obtain ⟨z0, z1, z2, z3, z4, z5, z6, z7⟩ := HB.out.free1; obtain ⟨r0', r1', r2', r3', r4', r5', r6', r7', hr1⟩ := HB.out.b1; obtain ⟨t0, t1, t2, t3, t4, t5, t6, t7⟩ := eight_of_heap hr1; clear hr1))
          have hr := HB.out.result (.slice a0 d.dn.length c0) (.slice a1 d.ds.length c1) (.slice a2 d.ops.length c2) (.slice a3 d.files.length c3) (.int .i64 d.room) (.int .i64 (stepK d).steps) (.bool (stepK d).down) (.slice a4 d.armed.length c4)
          refine bodyPost_ret (results_cell2 rfl _ _ q1 34 _ _ rfl hr.1 Tryz.underlying34 rfl sizeK (.int .i64 9) rfl) rfl ?_
          rw [HKD.out]
          exact dskd_step HRK.out hr.2 rfl
        · have hd256 : decide (256 ≤ (d.dn.length : Int)) = false := decide_eq_false (by omega)
          have hkd : createK d m = ({ stepK d with dn := applyL d.dn (OpD.mk 0 m [] (d.files.length : Int)), ops := d.ops ++ [OpD.mk 0 m [] (d.files.length : Int)], files := d.files ++ [f0D] }, 0) := by unfold createK; rw [if_neg (by simp [hcz]), if_neg hrb, hl, if_neg (by simp), if_neg h256]
          have HKD := Lib.hid hkd
          have hdnl : d.dn.length ≤ 1000 := by have := HOK.out.nl; omega
          have hopl : d.ops.length ≤ 1000 := by have := HOK.out.ol; omega
          have hfl : d.files.length ≤ 1000 := by have := HOK.out.fl; omega
          have hdo := fun wx (hx : Fr [] w wx) => rdo_any d.dn d.ds d.ops (OpD.mk 0 m [] (d.files.length : Int)) _ _ _ wx (HRK.out.dir.below hx).1 (HRK.out.dir.below hx).2.1 (HRK.out.dir.below hx).2.2 hdnl hopl hok hm (Nat.zero_le _) (fun hh => absurd (show (0 : Int) = 2 from hh.1) (by decide))
          unfold OpD.pval at hdo
          have HDO := Lib.hid hdo
          clear hdo hkd hl hno hcz hrb hrt h256
          go_upto_region 11 with (first
            | (go_at_call 57; refine (HRI.out _).mono ?_; rintro e wr5 ⟨rfl, hfr5⟩; replace HB := Lib.hid (HB.out.below hfr5); clear y0 y1 y2 y3 y4 y5 y6 y7 z0 z1 z2 z3 z4 z5 z6 z7 t0 t1 t2 t3 t4 t5 t6 t7 hfr5; obtain ⟨y0, y1, y2, y3, y4, y5, y6, y7⟩ := eight_of_heap HB.out.b0; obtain ⟨z0, z1, z2, z3, z4, z5, z6, z7⟩ := HB.out.free1; obtain ⟨r0', r1', r2', r3', r4', r5', r6', r7', hr1⟩ := HB.out.b1; obtain ⟨t0, t1, t2, t3, t4, t5, t6, t7⟩ := eight_of_heap hr1; clear hr1)
            | (go_at_call 58; refine (HFI.out _ HB.out.fr).mono ?_; rintro e w5 ⟨rfl, hf5⟩; replace HB := Lib.hid (HB.out.below hf5); clear y0 y1 y2 y3 y4 y5 y6 y7 z0 z1 z2 z3 z4 z5 z6 z7 t0 t1 t2 t3 t4 t5 t6 t7 hf5; obtain ⟨y0, y1, y2, y3, y4, y5, y6, y7⟩ := eight_of_heap HB.out.b0; obtain ⟨z0, z1, z2, z3, z4, z5, z6, z7⟩ := HB.out.free1; obtain ⟨r0', r1', r2', r3', r4', r5', r6', r7', hr1⟩ := HB.out.b1; obtain ⟨t0, t1, t2, t3, t4, t5, t6, t7⟩ := eight_of_heap hr1; clear hr1)
            | (go_at_call 59; refine (HDO.out _ HB.out.fr).mono ?_; rintro e w6 ⟨nv', ov', rfl, hn6, ho6, hf6⟩; obtain ⟨a5, c5, rfl, -, -⟩ := owns_slice' hn6; obtain ⟨a6, c6, hov6, -, -⟩ := owns_slice ho6; rw [show (d.ops ++ [OpD.mk 0 m [] (d.files.length : Int)]).length = d.ops.length + 1 from by simp] at hov6; subst hov6; replace HB := Lib.hid (HB.out.below hf6); have HN6 := Lib.hid hn6; have HO6 := Lib.hid ho6; clear y0 y1 y2 y3 y4 y5 y6 y7 hf6 hn6 ho6; obtain ⟨y0, y1, y2, y3, y4, y5, y6, y7⟩ := eight_of_heap HB.out.b0; obtain ⟨g0, g1, g2, g3, g4, g5, g6, g7⟩ := eight_free HB.out.b0))
          have hB7 : Boxes w q0 q1 #[.slice a5 (applyL d.dn (OpD.mk 0 m [] (d.files.length : Int))).length c5, .slice a1 d.ds.length c1, .slice a6 (d.ops.length + 1) c6, .slice a3 d.files.length c3, .int .i64 d.room, .int .i64 (stepK d).steps, .bool (stepK d).down, .slice a4 d.armed.length c4] _ := HB.out.write (Fr.set3 w6 q0 (.slice a5 (applyL d.dn (OpD.mk 0 m [] (d.files.length : Int))).length c5) (.slice a1 d.ds.length c1) (.slice a6 (d.ops.length + 1) c6)) (heap_set3of8 HB.out.b0 (.slice a5 (applyL d.dn (OpD.mk 0 m [] (d.files.length : Int))).length c5) (.slice a1 d.ds.length c1) (.slice a6 (d.ops.length + 1) c6))
          have hf67 : Fr [q0] w6 _ := Fr.set3 w6 q0 (.slice a5 (applyL d.dn (OpD.mk 0 m [] (d.files.length : Int))).length c5) (.slice a1 d.ds.length c1) (.slice a6 (d.ops.length + 1) c6)
          generalize hw7 : (((w6.setCell ⟨q0, 0, none⟩ (.slice a5 (applyL d.dn (OpD.mk 0 m [] (d.files.length : Int))).length c5)).setCell ⟨q0, 1, none⟩ (.slice a1 d.ds.length c1)).setCell ⟨q0, 2, none⟩ (.slice a6 (d.ops.length + 1) c6)) = w7 at hB7 hf67 ⊢
          have HD7 := Lib.hid (RD.box ⟨HN6.out, (HRK.out.below HB.out.fr).dir.2.1, HO6.out⟩ HB.out.b0 hf67)
          clear hw7 hf67 g0 g1 g2 g3 g4 g5 g6 g7
          replace HB := Lib.hid hB7
          clear hB7
          clear y0 y1 y2 y3 y4 y5 y6 y7 z0 z1 z2 z3 z4 z5 z6 z7 t0 t1 t2 t3 t4 t5 t6 t7
          obtain ⟨y0, y1, y2, y3, y4, y5, y6, y7⟩ := eight_of_heap HB.out.b0
          obtain ⟨z0, z1, z2, z3, z4, z5, z6, z7⟩ := HB.out.free1
          obtain ⟨r0, r1, r2, r3, r4, r5, r6, r7, hr1⟩ := HB.out.b1
          obtain ⟨t0, t1, t2, t3, t4, t5, t6, t7⟩ := eight_of_heap hr1
          clear hr1
          obtain ⟨ps, hp1, hp2, hp3⟩ := (HRK.out.below HB.out.fr).files
          have hone := one_pairs hp1 hp3
          have hpl : (pcs ps).length = d.files.length * 2 := by rw [pcs_length, hp1]
          have hem := owns_empty w7 w7.heap.size 85 2 (Nat.le_refl _)
          have hfe := Fr.alloc w7 (.cells #[] 85)
          have hsr := owns_src (owns_kept hp2 hfe (by simp))
          obtain ⟨v0, v1, v2, v3, v4, v5, v6, v7⟩ := eight_of_heap (hfe.heap HB.out.b0 (by simp))
          have HP1 := Lib.hid hp1
          have HP3 := Lib.hid hp3
          have HONE := Lib.hid hone
          have HPL := Lib.hid hpl
          have HEM := Lib.hid hem
          have HFE := Lib.hid hfe
          have HSR := Lib.hid hsr
          have hsz : (w7.alloc (.cells #[] 85)).heap.size = w7.heap.size + 1 := World.size_alloc _ _
          have HSZ := Lib.hid hsz
          clear hp1 hp2 hp3 hone hpl hem hfe hsr hsz z0 z1 z2 z3 z4 z5 z6 z7 t0 t1 t2 t3 t4 t5 t6 t7
          go_upto_region 12 with (first
            | (at_builtin; refine wpL_appendE rfl (.tmp 40) (.tmp 42) 31 rfl w7.heap.size 85 ti _ 2 48 Tryz.underlying31 hti hz0 hz1 hz2 (by rfl) (by decide) (.slice (some ⟨w7.heap.size, 0, none⟩) 0 0) 0 [] rfl HEM.out _ d.files.length (pcs ps) rfl HPL.out HONE.out HSR.out (by omega) (by simp [maxLen]; omega) (by rw [HSZ.out]; omega) ?_; intro v8 w8 hown8 hf8; rw [Nat.zero_add, List.nil_append] at hown8; obtain ⟨a8, c8, rfl, -, -⟩ := owns_slice hown8; have HO8 := Lib.hid hown8; have HF8 : Hid (Fr [] w7 w8) := Lib.hid (HFE.out.trans hf8 (by simp) (by simp [Value.ownBlock])); clear hown8 hf8)
            | (at_builtin; refine wpL_appendS rfl (.tmp 43) (.tmp 45) 31 rfl w7.heap.size 85 ti _ 2 48 Tryz.underlying31 hti hz0 hz1 hz2 (by rfl) (by decide) (.slice a8 d.files.length c8) d.files.length _ rfl HO8.out [.slice none 0 0, .slice none 0 0] rfl (by intro u hu; simp at hu; rcases hu with rfl | rfl <;> rfl) rfl (by omega) (by simp [maxLen]; omega) (by have := HF8.out.size; omega) ?_; intro v9 w9 hown9 hf9 hb9; obtain ⟨a9, c9, rfl, -, -⟩ := owns_slice hown9; have HO9 := Lib.hid hown9; have HF9 : Hid (Fr [] w7 w9) := Lib.hid ((HF8.out.trans (Fr.alloc w8 _) (by simp) (n := []) (by simp)).trans hf9 (by simp) (fun j hj hlt => by have h1 := HO8.out.lt j (Option.mem_toList.1 hj); omega)); replace HB := Lib.hid (HB.out.below HF9.out); clear hown9 hf9 hb9 y0 y1 y2 y3 y4 y5 y6 y7 v0 v1 v2 v3 v4 v5 v6 v7; obtain ⟨y0, y1, y2, y3, y4, y5, y6, y7⟩ := eight_of_heap HB.out.b0; obtain ⟨g0, g1, g2, g3, g4, g5, g6, g7⟩ := eight_free HB.out.b0))
          have hfl9 : filesR w9 _ (d.files ++ [f0D]) D := filesR.snoc HP1.out HP3.out HF9.out HO9.out
          have hDq0 : ∀ k ∈ D, k ≠ q0 := fun k hk => by have h1 := HRK.out.lt k hk; have h2 := HB.out.n0; omega
          have hDq1 : ∀ k ∈ D, k ≠ q1 := fun k hk => by have h1 := HRK.out.lt k hk; have h2 := HB.out.n1; omega
          have hf90 := Fr.set0 w9 q0 3 (.slice a9 (d.files.length + 1) c9)
          have hB10 : Boxes w q0 q1 #[.slice a5 (applyL d.dn (OpD.mk 0 m [] (d.files.length : Int))).length c5, .slice a1 d.ds.length c1, .slice a6 (d.ops.length + 1) c6, .slice a9 (d.files.length + 1) c9, .int .i64 d.room, .int .i64 (stepK d).steps, .bool (stepK d).down, .slice a4 d.armed.length c4] _ := HB.out.write hf90 (heap_setCell_same HB.out.b0 _)
          have hfl10 := hfl9.box HB.out.b0 hDq0 hf90
          have hdi10 := (HD7.out.below HF9.out).box HB.out.b0 hf90
          generalize hw10 : w9.setCell ⟨q0, 3, none⟩ (.slice a9 (d.files.length + 1) c9) = w10 at hB10 hf90 hfl10 hdi10 ⊢
          have HFL := Lib.hid hfl10
          have HDI := Lib.hid hdi10
          have HDQ := Lib.hid hDq1
          clear hw10 hf90 hfl9 hfl10 hdi10 hDq0 hDq1 g0 g1 g2 g3 g4 g5 g6 g7
          replace HB := Lib.hid hB10
          clear hB10 y0 y1 y2 y3 y4 y5 y6 y7
          obtain ⟨y0, y1, y2, y3, y4, y5, y6, y7⟩ := eight_of_heap HB.out.b0
          obtain ⟨z0, z1, z2, z3, z4, z5, z6, z7⟩ := HB.out.free1
          obtain ⟨r0', r1', r2', r3', r4', r5', r6', r7', hr1⟩ := HB.out.b1
          obtain ⟨t0, t1, t2, t3, t4, t5, t6, t7⟩ := eight_of_heap hr1
          clear hr1
          go_wp2_with fail
          have hr := HB.out.result (.slice a5 (applyL d.dn (OpD.mk 0 m [] (d.files.length : Int))).length c5) (.slice a1 d.ds.length c1) (.slice a6 (d.ops.length + 1) c6) (.slice a9 (d.files.length + 1) c9) (.int .i64 d.room) (.int .i64 (stepK d).steps) (.bool (stepK d).down) (.slice a4 d.armed.length c4)
          refine bodyPost_ret (results_cell2 rfl _ _ q1 34 _ _ rfl hr.1 Tryz.underlying34 rfl sizeK (.int .i64 0) rfl) rfl ?_
          rw [HKD.out]
          exact ⟨_, _, _, _, _, D, rfl, ⟨HDI.out.result HB.out _ _ _ _ _ _ _ _, HFL.out.result HB.out HDQ.out _ _ _ _ _ _ _ _, (HRK.out.below hr.2).armed, (HRK.out.below hr.2).lt⟩, hr.2, fun k hk => .inl hk⟩
  · have hcb : (codeK d != 0) = true := by simp [hcz]
    have hkd : createK d m = (stepK d, codeK d) := by unfold createK; rw [if_pos hcz]
    have HKD := Lib.hid hkd
    clear hcz hkd
    go_wp2_with fail
    have hr := HB.out.result (.slice a0 d.dn.length c0) (.slice a1 d.ds.length c1) (.slice a2 d.ops.length c2) (.slice a3 d.files.length c3) (.int .i64 d.room) (.int .i64 (stepK d).steps) (.bool (stepK d).down) (.slice a4 d.armed.length c4)
    refine bodyPost_ret (results_cell2 rfl _ _ q1 34 _ _ rfl hr.1 Tryz.underlying34 rfl sizeK (.int .i64 (codeK d)) rfl) rfl ?_
    rw [HKD.out]
    exact dskd_step HRK.out hr.2 rfl
end Go.Proofs.YtmchnaojlnjmjaaGreat
