/- The document's disk (layer 11): Drop, Move, Create, SyncDir. -/
import Derived.Test.YtmchnaojlnjmjaaGreatDskD
import Derived.Test.YtmchnaojlnjmjaaGreatDirSame
namespace Go.Proofs.YtmchnaojlnjmjaaGreat
open Go.RowKit Go.Maps

/-- Behind a function of the document's: its disk, and a value. -/
def Dskd (d : DskD) (v : Value) (D : List Nat) (w : World) (e : Ending) (w' : World) : Prop :=
  ∃ nv sv ov fv av D', e = .returned (.tuple #[kval nv sv ov fv av d, v]) ∧ RK w' nv sv ov fv av d D' ∧ Fr [] w w' ∧ ∀ k ∈ D', k ∈ D ∨ w.heap.size ≤ k
theorem RK.step {w : World} {nv sv ov fv av : Value} {d : DskD} {D : List Nat} (h : RK w nv sv ov fv av d D) : RK w nv sv ov fv av (stepK d) D := ⟨h.dir, h.files, h.armed, h.lt⟩
/-- Only the step was done. -/
theorem dskd_step {w w' : World} {nv sv ov fv av v : Value} {d d' : DskD} {D : List Nat} (h : RK w nv sv ov fv av d D) (hf : Fr [] w w') (hd : d' = stepK d) : Dskd d' v D w (.returned (.tuple #[.agg #[nv, sv, ov, fv, .int .i64 d.room, .int .i64 (stepK d).steps, .bool (stepK d).down, av], v])) w' := by
  subst hd
  exact ⟨_, _, _, _, _, D, rfl, (h.below hf).step, hf, fun k hk => .inl hk⟩
/-- The directory is another one. -/
theorem dskd_dir {w w' : World} {nv sv ov fv av v nv' sv' ov' : Value} {d : DskD} {D : List Nat} {dn ds : List Ent} {ops : List OpD} (h : RK w nv sv ov fv av d D) (hd : RD w' nv' sv' ov' dn ds ops) (hf : Fr [] w w') :
    Dskd { stepK d with dn := dn, ds := ds, ops := ops } v D w (.returned (.tuple #[.agg #[nv', sv', ov', fv, .int .i64 d.room, .int .i64 (stepK d).steps, .bool (stepK d).down, av], v])) w' :=
  ⟨_, _, _, _, _, D, rfl, ⟨hd, (h.below hf).files, (h.below hf).armed, (h.below hf).lt⟩, hf, fun k hk => .inl hk⟩
/-- A box of a disk has been written. -/
theorem RD.box {w w' : World} {nv sv ov : Value} {dn ds : List Ent} {ops : List OpD} {q : Nat} {cs : Array Value} {fr : Nat × Nat} (h : RD w nv sv ov dn ds ops) (hq : w.heap[q]? = some (.cells cs 34 fr)) (hf : Fr [q] w w') : RD w' nv sv ov dn ds ops :=
  ⟨owns_kept h.1 hf (fun k hk => by simpa using owns_ne h.1 hq (by decide) k hk), owns_kept h.2.1 hf (fun k hk => by simpa using owns_ne h.2.1 hq (by decide) k hk), owns_kept h.2.2 hf (fun k hk => by simpa using owns_ne h.2.2 hq (by decide) k hk)⟩
/-- The result's box is written: what the directory reads as. -/
theorem RD.result {w wx : World} {nv sv ov : Value} {dn ds : List Ent} {ops : List OpD} {q0 q1 : Nat} {cs : Array Value} (h : RD wx nv sv ov dn ds ops) (hB : Boxes w q0 q1 cs wx) (x0 x1 x2 x3 x4 x5 x6 x7 : Value) :
    RD ((((((((wx.setCell ⟨q1, 0, none⟩ x0).setCell ⟨q1, 1, none⟩ x1).setCell ⟨q1, 2, none⟩ x2).setCell ⟨q1, 3, none⟩ x3).setCell ⟨q1, 4, none⟩ x4).setCell ⟨q1, 5, none⟩ x5).setCell ⟨q1, 6, none⟩ x6).setCell ⟨q1, 7, none⟩ x7) nv sv ov dn ds ops := by
  obtain ⟨y0, y1, y2, y3, y4, y5, y6, y7, hb1⟩ := hB.b1
  exact h.box hb1 (Fr.set8 wx q1 x0 x1 x2 x3 x4 x5 x6 x7)
theorem heap_set3of8 {w : World} {q : Nat} {a b c d e f g h : Value} {t : TypeId} (hp : w.heap[q]? = some (.cells #[a, b, c, d, e, f, g, h] t (0, 0))) (x y z : Value) :
    (((w.setCell ⟨q, 0, none⟩ x).setCell ⟨q, 1, none⟩ y).setCell ⟨q, 2, none⟩ z).heap[q]? = some (.cells #[x, y, z, d, e, f, g, h] t (0, 0)) := by
  have h0 : (w.setCell ⟨q, 0, none⟩ x).heap[q]? = some (.cells #[x, b, c, d, e, f, g, h] t (0, 0)) := heap_setCell_same hp x
  have h1 : ((w.setCell ⟨q, 0, none⟩ x).setCell ⟨q, 1, none⟩ y).heap[q]? = some (.cells #[x, y, c, d, e, f, g, h] t (0, 0)) := heap_setCell_same h0 y
  exact heap_setCell_same h1 z
theorem file_lo {d : DskD} {k : Nat} {m : List UInt8} {n : Int} (hk : OkK d k) (h : lookL d.dn m = some n) : 0 ≤ n ∧ n.toNat < d.files.length := hk.nums _ (mem_look h)

set_option maxRecDepth 100000 in
set_option maxHeartbeats 2000000 in
theorem kdrop_any (nv sv ov fv av : Value) (d : DskD) (D : List Nat) (m : List UInt8) (k : Nat) (w : World) (h : RK w nv sv ov fv av d D) (hk : OkK d k) (hkk : kindsOk d.armed) (hk6 : k ≤ 900) (hm : m.length ≤ maxLen) (hok : okNames d.dn) :
    Calls Tryz.prog 26 #[kval nv sv ov fv av d, encStr m] w (Dskd (dropK d m).1 (.int .i64 (dropK d m).2) D w) := by
  have hst : 0 ≤ d.steps ∧ d.steps ≤ 1000000 := ⟨hk.st0, by have := hk.st; omega⟩
  have HRK := Lib.hid h
  have HOK := Lib.hid hk
  have HKK := Lib.hid hkk
  obtain ⟨a0, c0, a1, c1, a2, c2, a3, c3, a4, c4, rfl, rfl, rfl, rfl, rfl⟩ := h.slices
  have hB := boxes_at w #[.slice a0 d.dn.length c0, .slice a1 d.ds.length c1, .slice a2 d.ops.length c2, .slice a3 d.files.length c3, .int .i64 d.room, .int .i64 d.steps, .bool d.down, .slice a4 d.armed.length c4]
  have hstp := fun wx (hx : Fr [] w wx) => kstep_any _ _ _ _ _ d D wx (HRK.out.below hx) hst hkk
  unfold kval at hstp ⊢
  have hstr : (stepK d).room = d.room := rfl
  rw [hstr] at hstp
  have HST := Lib.hid hstp
  clear h hk hkk hst hstp hstr
  go_enter Tryz.func26, Tryz.ntmps26
  go_upto_region 1 with fail
  unfold zeroK at hB
  obtain ⟨w2, hw2⟩ : ∃ w2, w2 = (w.alloc (.cells #[.slice a0 d.dn.length c0, .slice a1 d.ds.length c1, .slice a2 d.ops.length c2, .slice a3 d.files.length c3, .int .i64 d.room, .int .i64 d.steps, .bool d.down, .slice a4 d.armed.length c4] 34)).alloc (.cells #[.slice none 0 0, .slice none 0 0, .slice none 0 0, .slice none 0 0, .int .i64 0, .int .i64 0, .bool false, .slice none 0 0] 34) := ⟨_, rfl⟩
  rw [← hw2] at hB ⊢
  obtain ⟨q0, hq0⟩ : ∃ q, q = w.heap.size := ⟨_, rfl⟩
  obtain ⟨q1, hq1⟩ : ∃ q, q = w.heap.size + 1 := ⟨_, rfl⟩
  rw [← hq1, ← hq0] at hB
  rw [← hq1, ← hq0]
  clear hw2 hq0 hq1
  have HB2 := Lib.hid hB
  obtain ⟨y0, y1, y2, y3, y4, y5, y6, y7⟩ := eight_of_heap hB.b0
  clear hB
  go_upto_region 2 with (go_at_call 56; refine (HST.out _ HB2.out.fr).mono ?_; rintro e w3 ⟨rfl, hf3⟩; have HB3 := Lib.hid (HB2.out.below hf3); clear hf3 y0 y1 y2 y3 y4 y5 y6 y7; obtain ⟨y0, y1, y2, y3, y4, y5, y6, y7⟩ := eight_of_heap HB3.out.b0; obtain ⟨g0, g1, g2, g3, g4, g5, g6, g7⟩ := eight_free HB3.out.b0)
  have hB4 : Boxes w q0 q1 #[.slice a0 d.dn.length c0, .slice a1 d.ds.length c1, .slice a2 d.ops.length c2, .slice a3 d.files.length c3, .int .i64 d.room, .int .i64 (stepK d).steps, .bool (stepK d).down, .slice a4 d.armed.length c4] _ := HB3.out.write (Fr.set8 w3 q0 (.slice a0 d.dn.length c0) (.slice a1 d.ds.length c1) (.slice a2 d.ops.length c2) (.slice a3 d.files.length c3) (.int .i64 d.room) (.int .i64 (stepK d).steps) (.bool (stepK d).down) (.slice a4 d.armed.length c4)) (heap_set8 HB3.out.b0 (.slice a0 d.dn.length c0) (.slice a1 d.ds.length c1) (.slice a2 d.ops.length c2) (.slice a3 d.files.length c3) (.int .i64 d.room) (.int .i64 (stepK d).steps) (.bool (stepK d).down) (.slice a4 d.armed.length c4))
  generalize hw4 : ((((((((w3.setCell ⟨q0, 0, none⟩ (.slice a0 d.dn.length c0)).setCell ⟨q0, 1, none⟩ (.slice a1 d.ds.length c1)).setCell ⟨q0, 2, none⟩ (.slice a2 d.ops.length c2)).setCell ⟨q0, 3, none⟩ (.slice a3 d.files.length c3)).setCell ⟨q0, 4, none⟩ (.int .i64 d.room)).setCell ⟨q0, 5, none⟩ (.int .i64 (stepK d).steps)).setCell ⟨q0, 6, none⟩ (.bool (stepK d).down)).setCell ⟨q0, 7, none⟩ (.slice a4 d.armed.length c4)) = w4 at hB4 ⊢
  clear hw4 y0 y1 y2 y3 y4 y5 y6 y7 g0 g1 g2 g3 g4 g5 g6 g7 HB2 HB3
  have HB := Lib.hid hB4
  obtain ⟨y0, y1, y2, y3, y4, y5, y6, y7⟩ := eight_of_heap hB4.b0
  obtain ⟨z0, z1, z2, z3, z4, z5, z6, z7⟩ := hB4.free1
  obtain ⟨r0, r1, r2, r3, r4, r5, r6, r7, hr1⟩ := hB4.b1
  obtain ⟨t0, t1, t2, t3, t4, t5, t6, t7⟩ := eight_of_heap hr1
  clear hr1 hB4
  obtain ⟨c, hc⟩ : ∃ c, c = codeK d := ⟨_, rfl⟩
  clear hc c
  by_cases hcz : codeK d = 0
  · have hcb : (codeK d != 0) = false := by simp [hcz]
    have HCZ := Lib.hid hcz
    have HFI := Lib.hid (fun wx (hx : Fr [] w wx) => kfile_any _ _ _ _ _ (stepK d) D m wx (HRK.out.below hx).step)
    unfold kval at HFI
    cases hl : lookL d.dn m with
    | none =>
      have hno : noK (stepK d) m = -1 := by unfold noK; show (lookL d.dn m).getD (-1) = -1; rw [hl]; rfl
      have hkd : dropK d m = (stepK d, 7) := by unfold dropK; rw [if_neg (by simp [hcz]), hl]; rfl
      rw [hno] at HFI
      have HKD := Lib.hid hkd
      clear hkd hl hno hcz
      go_wp2_with (go_at_call 58; refine (HFI.out _ HB.out.fr).mono ?_; rintro e w5 ⟨rfl, hf5⟩; replace HB := Lib.hid (HB.out.below hf5); clear y0 y1 y2 y3 y4 y5 y6 y7 z0 z1 z2 z3 z4 z5 z6 z7 t0 t1 t2 t3 t4 t5 t6 t7 hf5; obtain ⟨y0, y1, y2, y3, y4, y5, y6, y7⟩ := eight_of_heap HB.out.b0; obtain ⟨z0, z1, z2, z3, z4, z5, z6, z7⟩ := HB.out.free1; obtain ⟨r0', r1', r2', r3', r4', r5', r6', r7', hr1⟩ := HB.out.b1; obtain ⟨t0, t1, t2, t3, t4, t5, t6, t7⟩ := eight_of_heap hr1; clear hr1)
      have hr := HB.out.result (.slice a0 d.dn.length c0) (.slice a1 d.ds.length c1) (.slice a2 d.ops.length c2) (.slice a3 d.files.length c3) (.int .i64 d.room) (.int .i64 (stepK d).steps) (.bool (stepK d).down) (.slice a4 d.armed.length c4)
      refine bodyPost_ret (results_cell2 rfl _ _ q1 34 _ _ rfl hr.1 Tryz.underlying34 rfl sizeK (.int .i64 7) rfl) rfl ?_
      rw [HKD.out]
      exact dskd_step HRK.out hr.2 rfl
    | some n =>
      have hno : noK (stepK d) m = n := by unfold noK; show (lookL d.dn m).getD (-1) = n; rw [hl]; rfl
      have hn0 := (file_lo HOK.out hl).1
      have hkd : dropK d m = ({ stepK d with dn := applyL d.dn (OpD.mk 1 m [] 0), ops := d.ops ++ [OpD.mk 1 m [] 0] }, 0) := by unfold dropK; rw [if_neg (by simp [hcz]), hl]; rfl
      rw [hno] at HFI
      have hdn : decide (n < 0) = false := decide_eq_false (by omega)
      have HKD := Lib.hid hkd
      have hdnl : d.dn.length ≤ 1000 := by have := HOK.out.nl; omega
      have hopl : d.ops.length ≤ 1000 := by have := HOK.out.ol; omega
      have hdo := fun wx (hx : Fr [] w wx) => rdo_any d.dn d.ds d.ops (OpD.mk 1 m [] 0) _ _ _ wx (HRK.out.dir.below hx).1 (HRK.out.dir.below hx).2.1 (HRK.out.dir.below hx).2.2 hdnl hopl hok hm (Nat.zero_le _) (fun hh => absurd (show (1 : Int) = 2 from hh.1) (by decide))
      unfold OpD.pval at hdo
      have HDO := Lib.hid hdo
      clear hdo
      clear hkd hl hno hcz
      go_upto_region 7 with (first
        | (go_at_call 58; refine (HFI.out _ HB.out.fr).mono ?_; rintro e w5 ⟨rfl, hf5⟩; replace HB := Lib.hid (HB.out.below hf5); clear y0 y1 y2 y3 y4 y5 y6 y7 z0 z1 z2 z3 z4 z5 z6 z7 t0 t1 t2 t3 t4 t5 t6 t7 hf5; obtain ⟨y0, y1, y2, y3, y4, y5, y6, y7⟩ := eight_of_heap HB.out.b0; obtain ⟨z0, z1, z2, z3, z4, z5, z6, z7⟩ := HB.out.free1; obtain ⟨r0', r1', r2', r3', r4', r5', r6', r7', hr1⟩ := HB.out.b1; obtain ⟨t0, t1, t2, t3, t4, t5, t6, t7⟩ := eight_of_heap hr1; clear hr1)
        | (go_at_call 59; refine (HDO.out _ HB.out.fr).mono ?_; rintro e w6 ⟨nv', ov', rfl, hn6, ho6, hf6⟩; obtain ⟨a5, c5, rfl, -, -⟩ := owns_slice' hn6; obtain ⟨a6, c6, hov6, -, -⟩ := owns_slice ho6; rw [show (d.ops ++ [OpD.mk 1 m [] 0]).length = d.ops.length + 1 from by simp] at hov6; subst hov6; replace HB := Lib.hid (HB.out.below hf6); have HN6 := Lib.hid hn6; have HO6 := Lib.hid ho6; clear y0 y1 y2 y3 y4 y5 y6 y7 hf6 hn6 ho6; obtain ⟨y0, y1, y2, y3, y4, y5, y6, y7⟩ := eight_of_heap HB.out.b0; obtain ⟨g0, g1, g2, g3, g4, g5, g6, g7⟩ := eight_free HB.out.b0))
      have hB7 : Boxes w q0 q1 #[.slice a5 (applyL d.dn (OpD.mk 1 m [] 0)).length c5, .slice a1 d.ds.length c1, .slice a6 (d.ops.length + 1) c6, .slice a3 d.files.length c3, .int .i64 d.room, .int .i64 (stepK d).steps, .bool (stepK d).down, .slice a4 d.armed.length c4] _ := HB.out.write (Fr.set3 w6 q0 (.slice a5 (applyL d.dn (OpD.mk 1 m [] 0)).length c5) (.slice a1 d.ds.length c1) (.slice a6 (d.ops.length + 1) c6)) (heap_set3of8 HB.out.b0 (.slice a5 (applyL d.dn (OpD.mk 1 m [] 0)).length c5) (.slice a1 d.ds.length c1) (.slice a6 (d.ops.length + 1) c6))
      have hf67 : Fr [q0] w6 _ := Fr.set3 w6 q0 (.slice a5 (applyL d.dn (OpD.mk 1 m [] 0)).length c5) (.slice a1 d.ds.length c1) (.slice a6 (d.ops.length + 1) c6)
      generalize hw7 : (((w6.setCell ⟨q0, 0, none⟩ (.slice a5 (applyL d.dn (OpD.mk 1 m [] 0)).length c5)).setCell ⟨q0, 1, none⟩ (.slice a1 d.ds.length c1)).setCell ⟨q0, 2, none⟩ (.slice a6 (d.ops.length + 1) c6)) = w7 at hB7 hf67 ⊢
      have HD7 := Lib.hid (RD.box ⟨HN6.out, (HRK.out.below HB.out.fr).dir.2.1, HO6.out⟩ HB.out.b0 hf67)
      clear hw7 hf67 g0 g1 g2 g3 g4 g5 g6 g7
      replace HB := Lib.hid hB7
      clear hB7
      clear y0 y1 y2 y3 y4 y5 y6 y7 z0 z1 z2 z3 z4 z5 z6 z7 t0 t1 t2 t3 t4 t5 t6 t7
      obtain ⟨y0, y1, y2, y3, y4, y5, y6, y7⟩ := eight_of_heap HB.out.b0
      obtain ⟨z0, z1, z2, z3, z4, z5, z6, z7⟩ := HB.out.free1
      obtain ⟨r0, r1, r2, r3, r4, r5, r6, r7, hr1⟩ := HB.out.b1
      obtain ⟨t0, t1, t2, t3, t4, t5, t6, t7⟩ := eight_of_heap hr1
      clear hr1
      go_wp2_with fail
      have hr := HB.out.result (.slice a5 (applyL d.dn (OpD.mk 1 m [] 0)).length c5) (.slice a1 d.ds.length c1) (.slice a6 (d.ops.length + 1) c6) (.slice a3 d.files.length c3) (.int .i64 d.room) (.int .i64 (stepK d).steps) (.bool (stepK d).down) (.slice a4 d.armed.length c4)
      refine bodyPost_ret (results_cell2 rfl _ _ q1 34 _ _ rfl hr.1 Tryz.underlying34 rfl sizeK (.int .i64 0) rfl) rfl ?_
      rw [HKD.out]
      exact dskd_dir HRK.out (HD7.out.result HB.out _ _ _ _ _ _ _ _) hr.2
  · have hcb : (codeK d != 0) = true := by simp [hcz]
    have hkd : dropK d m = (stepK d, codeK d) := by unfold dropK; rw [if_pos hcz]
    have HKD := Lib.hid hkd
    clear hcz hkd
    go_wp2_with fail
    have hr := HB.out.result (.slice a0 d.dn.length c0) (.slice a1 d.ds.length c1) (.slice a2 d.ops.length c2) (.slice a3 d.files.length c3) (.int .i64 d.room) (.int .i64 (stepK d).steps) (.bool (stepK d).down) (.slice a4 d.armed.length c4)
    refine bodyPost_ret (results_cell2 rfl _ _ q1 34 _ _ rfl hr.1 Tryz.underlying34 rfl sizeK (.int .i64 (codeK d)) rfl) rfl ?_
    rw [HKD.out]
    exact dskd_step HRK.out hr.2 rfl
set_option maxRecDepth 100000 in
set_option maxHeartbeats 2000000 in
theorem kmove_any (nv sv ov fv av : Value) (d : DskD) (D : List Nat) (a b : List UInt8) (k : Nat) (w : World) (h : RK w nv sv ov fv av d D) (hk : OkK d k) (hkk : kindsOk d.armed) (hk6 : k ≤ 900) (ha : a.length ≤ maxLen) (hb : b.length ≤ maxLen) (hok : okNames d.dn) :
    Calls Tryz.prog 25 #[kval nv sv ov fv av d, encStr a, encStr b] w (Dskd (moveK d a b).1 (.int .i64 (moveK d a b).2) D w) := by
  have hst : 0 ≤ d.steps ∧ d.steps ≤ 1000000 := ⟨hk.st0, by have := hk.st; omega⟩
  have HRK := Lib.hid h
  have HOK := Lib.hid hk
  have HKK := Lib.hid hkk
  obtain ⟨a0, c0, a1, c1, a2, c2, a3, c3, a4, c4, rfl, rfl, rfl, rfl, rfl⟩ := h.slices
  have hB := boxes_at w #[.slice a0 d.dn.length c0, .slice a1 d.ds.length c1, .slice a2 d.ops.length c2, .slice a3 d.files.length c3, .int .i64 d.room, .int .i64 d.steps, .bool d.down, .slice a4 d.armed.length c4]
  have hstp := fun wx (hx : Fr [] w wx) => kstep_any _ _ _ _ _ d D wx (HRK.out.below hx) hst hkk
  unfold kval at hstp ⊢
  have hstr : (stepK d).room = d.room := rfl
  rw [hstr] at hstp
  have HST := Lib.hid hstp
  clear h hk hkk hst hstp hstr
  go_enter Tryz.func25, Tryz.ntmps25
  go_upto_region 1 with fail
  unfold zeroK at hB
  obtain ⟨w2, hw2⟩ : ∃ w2, w2 = (w.alloc (.cells #[.slice a0 d.dn.length c0, .slice a1 d.ds.length c1, .slice a2 d.ops.length c2, .slice a3 d.files.length c3, .int .i64 d.room, .int .i64 d.steps, .bool d.down, .slice a4 d.armed.length c4] 34)).alloc (.cells #[.slice none 0 0, .slice none 0 0, .slice none 0 0, .slice none 0 0, .int .i64 0, .int .i64 0, .bool false, .slice none 0 0] 34) := ⟨_, rfl⟩
  rw [← hw2] at hB ⊢
  obtain ⟨q0, hq0⟩ : ∃ q, q = w.heap.size := ⟨_, rfl⟩
  obtain ⟨q1, hq1⟩ : ∃ q, q = w.heap.size + 1 := ⟨_, rfl⟩
  rw [← hq1, ← hq0] at hB
  rw [← hq1, ← hq0]
  clear hw2 hq0 hq1
  have HB2 := Lib.hid hB
  obtain ⟨y0, y1, y2, y3, y4, y5, y6, y7⟩ := eight_of_heap hB.b0
  clear hB
  go_upto_region 2 with (go_at_call 56; refine (HST.out _ HB2.out.fr).mono ?_; rintro e w3 ⟨rfl, hf3⟩; have HB3 := Lib.hid (HB2.out.below hf3); clear hf3 y0 y1 y2 y3 y4 y5 y6 y7; obtain ⟨y0, y1, y2, y3, y4, y5, y6, y7⟩ := eight_of_heap HB3.out.b0; obtain ⟨g0, g1, g2, g3, g4, g5, g6, g7⟩ := eight_free HB3.out.b0)
  have hB4 : Boxes w q0 q1 #[.slice a0 d.dn.length c0, .slice a1 d.ds.length c1, .slice a2 d.ops.length c2, .slice a3 d.files.length c3, .int .i64 d.room, .int .i64 (stepK d).steps, .bool (stepK d).down, .slice a4 d.armed.length c4] _ := HB3.out.write (Fr.set8 w3 q0 (.slice a0 d.dn.length c0) (.slice a1 d.ds.length c1) (.slice a2 d.ops.length c2) (.slice a3 d.files.length c3) (.int .i64 d.room) (.int .i64 (stepK d).steps) (.bool (stepK d).down) (.slice a4 d.armed.length c4)) (heap_set8 HB3.out.b0 (.slice a0 d.dn.length c0) (.slice a1 d.ds.length c1) (.slice a2 d.ops.length c2) (.slice a3 d.files.length c3) (.int .i64 d.room) (.int .i64 (stepK d).steps) (.bool (stepK d).down) (.slice a4 d.armed.length c4))
  generalize hw4 : ((((((((w3.setCell ⟨q0, 0, none⟩ (.slice a0 d.dn.length c0)).setCell ⟨q0, 1, none⟩ (.slice a1 d.ds.length c1)).setCell ⟨q0, 2, none⟩ (.slice a2 d.ops.length c2)).setCell ⟨q0, 3, none⟩ (.slice a3 d.files.length c3)).setCell ⟨q0, 4, none⟩ (.int .i64 d.room)).setCell ⟨q0, 5, none⟩ (.int .i64 (stepK d).steps)).setCell ⟨q0, 6, none⟩ (.bool (stepK d).down)).setCell ⟨q0, 7, none⟩ (.slice a4 d.armed.length c4)) = w4 at hB4 ⊢
  clear hw4 y0 y1 y2 y3 y4 y5 y6 y7 g0 g1 g2 g3 g4 g5 g6 g7 HB2 HB3
  have HB := Lib.hid hB4
  obtain ⟨y0, y1, y2, y3, y4, y5, y6, y7⟩ := eight_of_heap hB4.b0
  obtain ⟨z0, z1, z2, z3, z4, z5, z6, z7⟩ := hB4.free1
  obtain ⟨r0, r1, r2, r3, r4, r5, r6, r7, hr1⟩ := hB4.b1
  obtain ⟨t0, t1, t2, t3, t4, t5, t6, t7⟩ := eight_of_heap hr1
  clear hr1 hB4
  obtain ⟨c, hc⟩ : ∃ c, c = codeK d := ⟨_, rfl⟩
  clear hc c
  by_cases hcz : codeK d = 0
  · have hcb : (codeK d != 0) = false := by simp [hcz]
    have HCZ := Lib.hid hcz
    have HFI := Lib.hid (fun wx (hx : Fr [] w wx) => kfile_any _ _ _ _ _ (stepK d) D a wx (HRK.out.below hx).step)
    unfold kval at HFI
    have hri := fun wx => kright_any b hb wx
    by_cases hrb : rightB b = false
    · rw [hrb] at hri
      have hkd : moveK d a b = (stepK d, 1) := by unfold moveK; rw [if_neg (by simp [hcz]), if_pos hrb]
      have HRI := Lib.hid hri
      have HKD := Lib.hid hkd
      clear hkd hri hrb hcz
      go_wp2_with (go_at_call 57; refine (HRI.out _).mono ?_; rintro e wr5 ⟨rfl, hfr5⟩; replace HB := Lib.hid (HB.out.below hfr5); clear y0 y1 y2 y3 y4 y5 y6 y7 z0 z1 z2 z3 z4 z5 z6 z7 t0 t1 t2 t3 t4 t5 t6 t7 hfr5; obtain ⟨y0, y1, y2, y3, y4, y5, y6, y7⟩ := eight_of_heap HB.out.b0; obtain ⟨z0, z1, z2, z3, z4, z5, z6, z7⟩ := HB.out.free1; obtain ⟨r0', r1', r2', r3', r4', r5', r6', r7', hr1⟩ := HB.out.b1; obtain ⟨t0, t1, t2, t3, t4, t5, t6, t7⟩ := eight_of_heap hr1; clear hr1)
      have hr := HB.out.result (.slice a0 d.dn.length c0) (.slice a1 d.ds.length c1) (.slice a2 d.ops.length c2) (.slice a3 d.files.length c3) (.int .i64 d.room) (.int .i64 (stepK d).steps) (.bool (stepK d).down) (.slice a4 d.armed.length c4)
      refine bodyPost_ret (results_cell2 rfl _ _ q1 34 _ _ rfl hr.1 Tryz.underlying34 rfl sizeK (.int .i64 1) rfl) rfl ?_
      rw [HKD.out]
      exact dskd_step HRK.out hr.2 rfl
    · have hrt : rightB b = true := by simpa using hrb
      rw [hrt] at hri
      have HRI := Lib.hid hri
      clear hri
      cases hl : lookL d.dn a with
      | none =>
        have hno : noK (stepK d) a = -1 := by unfold noK; show (lookL d.dn a).getD (-1) = -1; rw [hl]; rfl
        have hkd : moveK d a b = (stepK d, 7) := by unfold moveK; rw [if_neg (by simp [hcz]), if_neg hrb, hl]; rfl
        rw [hno] at HFI
        have HKD := Lib.hid hkd
        clear hkd hl hno hcz hrb hrt
        go_wp2_with (first | (go_at_call 57; refine (HRI.out _).mono ?_; rintro e wr5 ⟨rfl, hfr5⟩; replace HB := Lib.hid (HB.out.below hfr5); clear y0 y1 y2 y3 y4 y5 y6 y7 z0 z1 z2 z3 z4 z5 z6 z7 t0 t1 t2 t3 t4 t5 t6 t7 hfr5; obtain ⟨y0, y1, y2, y3, y4, y5, y6, y7⟩ := eight_of_heap HB.out.b0; obtain ⟨z0, z1, z2, z3, z4, z5, z6, z7⟩ := HB.out.free1; obtain ⟨r0', r1', r2', r3', r4', r5', r6', r7', hr1⟩ := HB.out.b1; obtain ⟨t0, t1, t2, t3, t4, t5, t6, t7⟩ := eight_of_heap hr1; clear hr1) | (go_at_call 58; refine (HFI.out _ HB.out.fr).mono ?_; rintro e w5 ⟨rfl, hf5⟩; replace HB := Lib.hid (HB.out.below hf5); clear y0 y1 y2 y3 y4 y5 y6 y7 z0 z1 z2 z3 z4 z5 z6 z7 t0 t1 t2 t3 t4 t5 t6 t7 hf5; obtain ⟨y0, y1, y2, y3, y4, y5, y6, y7⟩ := eight_of_heap HB.out.b0; obtain ⟨z0, z1, z2, z3, z4, z5, z6, z7⟩ := HB.out.free1; obtain ⟨r0', r1', r2', r3', r4', r5', r6', r7', hr1⟩ := HB.out.b1; obtain ⟨t0, t1, t2, t3, t4, t5, t6, t7⟩ := eight_of_heap hr1; clear hr1))
        have hr := HB.out.result (.slice a0 d.dn.length c0) (.slice a1 d.ds.length c1) (.slice a2 d.ops.length c2) (.slice a3 d.files.length c3) (.int .i64 d.room) (.int .i64 (stepK d).steps) (.bool (stepK d).down) (.slice a4 d.armed.length c4)
        refine bodyPost_ret (results_cell2 rfl _ _ q1 34 _ _ rfl hr.1 Tryz.underlying34 rfl sizeK (.int .i64 7) rfl) rfl ?_
        rw [HKD.out]
        exact dskd_step HRK.out hr.2 rfl
      | some n =>
        have hno : noK (stepK d) a = n := by unfold noK; show (lookL d.dn a).getD (-1) = n; rw [hl]; rfl
        have hn0 := (file_lo HOK.out hl).1
        rw [hno] at HFI
        have hdn : decide (n < 0) = false := decide_eq_false (by omega)
        by_cases hab : a = b
        · have hkd : moveK d a b = (stepK d, 0) := by unfold moveK; rw [if_neg (by simp [hcz]), if_neg hrb, hl, if_neg (by simp), if_pos hab]
          have HKD := Lib.hid hkd
          subst hab
          have HDS := Lib.hid (fun wx => rdo_same a 0 a0 a1 a2 d.dn.length c0 d.ds.length c1 d.ops.length c2 wx)
          clear hkd hl hno hcz hrb hrt
          go_upto_region 9 with (first | (go_at_call 57; refine (HRI.out _).mono ?_; rintro e wr5 ⟨rfl, hfr5⟩; replace HB := Lib.hid (HB.out.below hfr5); clear y0 y1 y2 y3 y4 y5 y6 y7 z0 z1 z2 z3 z4 z5 z6 z7 t0 t1 t2 t3 t4 t5 t6 t7 hfr5; obtain ⟨y0, y1, y2, y3, y4, y5, y6, y7⟩ := eight_of_heap HB.out.b0; obtain ⟨z0, z1, z2, z3, z4, z5, z6, z7⟩ := HB.out.free1; obtain ⟨r0', r1', r2', r3', r4', r5', r6', r7', hr1⟩ := HB.out.b1; obtain ⟨t0, t1, t2, t3, t4, t5, t6, t7⟩ := eight_of_heap hr1; clear hr1) | (go_at_call 58; refine (HFI.out _ HB.out.fr).mono ?_; rintro e w5 ⟨rfl, hf5⟩; replace HB := Lib.hid (HB.out.below hf5); clear y0 y1 y2 y3 y4 y5 y6 y7 z0 z1 z2 z3 z4 z5 z6 z7 t0 t1 t2 t3 t4 t5 t6 t7 hf5; obtain ⟨y0, y1, y2, y3, y4, y5, y6, y7⟩ := eight_of_heap HB.out.b0; obtain ⟨z0, z1, z2, z3, z4, z5, z6, z7⟩ := HB.out.free1; obtain ⟨r0', r1', r2', r3', r4', r5', r6', r7', hr1⟩ := HB.out.b1; obtain ⟨t0, t1, t2, t3, t4, t5, t6, t7⟩ := eight_of_heap hr1; clear hr1) | (go_at_call 59; refine (HDS.out _).mono ?_; rintro e w6 ⟨rfl, hf6⟩; replace HB := Lib.hid (HB.out.below hf6); clear y0 y1 y2 y3 y4 y5 y6 y7 hf6; obtain ⟨y0, y1, y2, y3, y4, y5, y6, y7⟩ := eight_of_heap HB.out.b0; obtain ⟨g0, g1, g2, g3, g4, g5, g6, g7⟩ := eight_free HB.out.b0))
          have hB7 : Boxes w q0 q1 #[.slice a0 d.dn.length c0, .slice a1 d.ds.length c1, .slice a2 d.ops.length c2, .slice a3 d.files.length c3, .int .i64 d.room, .int .i64 (stepK d).steps, .bool (stepK d).down, .slice a4 d.armed.length c4] _ := HB.out.write (Fr.set3 w6 q0 (.slice a0 d.dn.length c0) (.slice a1 d.ds.length c1) (.slice a2 d.ops.length c2)) (heap_set3of8 HB.out.b0 (.slice a0 d.dn.length c0) (.slice a1 d.ds.length c1) (.slice a2 d.ops.length c2))
          generalize hw7 : (((w6.setCell ⟨q0, 0, none⟩ (.slice a0 d.dn.length c0)).setCell ⟨q0, 1, none⟩ (.slice a1 d.ds.length c1)).setCell ⟨q0, 2, none⟩ (.slice a2 d.ops.length c2)) = w7 at hB7 ⊢
          clear hw7 g0 g1 g2 g3 g4 g5 g6 g7
          replace HB := Lib.hid hB7
          clear hB7
          clear y0 y1 y2 y3 y4 y5 y6 y7 z0 z1 z2 z3 z4 z5 z6 z7 t0 t1 t2 t3 t4 t5 t6 t7
          obtain ⟨y0, y1, y2, y3, y4, y5, y6, y7⟩ := eight_of_heap HB.out.b0
          obtain ⟨z0, z1, z2, z3, z4, z5, z6, z7⟩ := HB.out.free1
          obtain ⟨r0, r1, r2, r3, r4, r5, r6, r7, hr1⟩ := HB.out.b1
          obtain ⟨t0, t1, t2, t3, t4, t5, t6, t7⟩ := eight_of_heap hr1
          clear hr1
          go_wp2_with fail
          have hr := HB.out.result (.slice a0 d.dn.length c0) (.slice a1 d.ds.length c1) (.slice a2 d.ops.length c2) (.slice a3 d.files.length c3) (.int .i64 d.room) (.int .i64 (stepK d).steps) (.bool (stepK d).down) (.slice a4 d.armed.length c4)
          refine bodyPost_ret (results_cell2 rfl _ _ q1 34 _ _ rfl hr.1 Tryz.underlying34 rfl sizeK (.int .i64 0) rfl) rfl ?_
          rw [HKD.out]
          exact dskd_step HRK.out hr.2 rfl
        · have hkd : moveK d a b = ({ stepK d with dn := applyL d.dn (OpD.mk 2 a b 0), ops := d.ops ++ [OpD.mk 2 a b 0] }, 0) := by unfold moveK; rw [if_neg (by simp [hcz]), if_neg hrb, hl, if_neg (by simp), if_neg hab]
          have HKD := Lib.hid hkd
          have hdnl : d.dn.length ≤ 1000 := by have := HOK.out.nl; omega
          have hopl : d.ops.length ≤ 1000 := by have := HOK.out.ol; omega
          have hdo := fun wx (hx : Fr [] w wx) => rdo_any d.dn d.ds d.ops (OpD.mk 2 a b 0) _ _ _ wx (HRK.out.dir.below hx).1 (HRK.out.dir.below hx).2.1 (HRK.out.dir.below hx).2.2 hdnl hopl hok ha hb (fun hh => hab hh.2)
          unfold OpD.pval at hdo
          have HDO := Lib.hid hdo
          clear hdo hkd hl hno hcz hrb hrt hab
          go_upto_region 9 with (first
            | (go_at_call 57; refine (HRI.out _).mono ?_; rintro e wr5 ⟨rfl, hfr5⟩; replace HB := Lib.hid (HB.out.below hfr5); clear y0 y1 y2 y3 y4 y5 y6 y7 z0 z1 z2 z3 z4 z5 z6 z7 t0 t1 t2 t3 t4 t5 t6 t7 hfr5; obtain ⟨y0, y1, y2, y3, y4, y5, y6, y7⟩ := eight_of_heap HB.out.b0; obtain ⟨z0, z1, z2, z3, z4, z5, z6, z7⟩ := HB.out.free1; obtain ⟨r0', r1', r2', r3', r4', r5', r6', r7', hr1⟩ := HB.out.b1; obtain ⟨t0, t1, t2, t3, t4, t5, t6, t7⟩ := eight_of_heap hr1; clear hr1)
            | (go_at_call 58; refine (HFI.out _ HB.out.fr).mono ?_; rintro e w5 ⟨rfl, hf5⟩; replace HB := Lib.hid (HB.out.below hf5); clear y0 y1 y2 y3 y4 y5 y6 y7 z0 z1 z2 z3 z4 z5 z6 z7 t0 t1 t2 t3 t4 t5 t6 t7 hf5; obtain ⟨y0, y1, y2, y3, y4, y5, y6, y7⟩ := eight_of_heap HB.out.b0; obtain ⟨z0, z1, z2, z3, z4, z5, z6, z7⟩ := HB.out.free1; obtain ⟨r0', r1', r2', r3', r4', r5', r6', r7', hr1⟩ := HB.out.b1; obtain ⟨t0, t1, t2, t3, t4, t5, t6, t7⟩ := eight_of_heap hr1; clear hr1)
            | (go_at_call 59; refine (HDO.out _ HB.out.fr).mono ?_; rintro e w6 ⟨nv', ov', rfl, hn6, ho6, hf6⟩; obtain ⟨a5, c5, rfl, -, -⟩ := owns_slice' hn6; obtain ⟨a6, c6, hov6, -, -⟩ := owns_slice ho6; rw [show (d.ops ++ [OpD.mk 2 a b 0]).length = d.ops.length + 1 from by simp] at hov6; subst hov6; replace HB := Lib.hid (HB.out.below hf6); have HN6 := Lib.hid hn6; have HO6 := Lib.hid ho6; clear y0 y1 y2 y3 y4 y5 y6 y7 hf6 hn6 ho6; obtain ⟨y0, y1, y2, y3, y4, y5, y6, y7⟩ := eight_of_heap HB.out.b0; obtain ⟨g0, g1, g2, g3, g4, g5, g6, g7⟩ := eight_free HB.out.b0))
          have hB7 : Boxes w q0 q1 #[.slice a5 (applyL d.dn (OpD.mk 2 a b 0)).length c5, .slice a1 d.ds.length c1, .slice a6 (d.ops.length + 1) c6, .slice a3 d.files.length c3, .int .i64 d.room, .int .i64 (stepK d).steps, .bool (stepK d).down, .slice a4 d.armed.length c4] _ := HB.out.write (Fr.set3 w6 q0 (.slice a5 (applyL d.dn (OpD.mk 2 a b 0)).length c5) (.slice a1 d.ds.length c1) (.slice a6 (d.ops.length + 1) c6)) (heap_set3of8 HB.out.b0 (.slice a5 (applyL d.dn (OpD.mk 2 a b 0)).length c5) (.slice a1 d.ds.length c1) (.slice a6 (d.ops.length + 1) c6))
          have hf67 : Fr [q0] w6 _ := Fr.set3 w6 q0 (.slice a5 (applyL d.dn (OpD.mk 2 a b 0)).length c5) (.slice a1 d.ds.length c1) (.slice a6 (d.ops.length + 1) c6)
          generalize hw7 : (((w6.setCell ⟨q0, 0, none⟩ (.slice a5 (applyL d.dn (OpD.mk 2 a b 0)).length c5)).setCell ⟨q0, 1, none⟩ (.slice a1 d.ds.length c1)).setCell ⟨q0, 2, none⟩ (.slice a6 (d.ops.length + 1) c6)) = w7 at hB7 hf67 ⊢
          have HD7 := Lib.hid (RD.box ⟨HN6.out, (HRK.out.below HB.out.fr).dir.2.1, HO6.out⟩ HB.out.b0 hf67)
          clear hw7 hf67 g0 g1 g2 g3 g4 g5 g6 g7
          replace HB := Lib.hid hB7
          clear hB7
          clear y0 y1 y2 y3 y4 y5 y6 y7 z0 z1 z2 z3 z4 z5 z6 z7 t0 t1 t2 t3 t4 t5 t6 t7
          obtain ⟨y0, y1, y2, y3, y4, y5, y6, y7⟩ := eight_of_heap HB.out.b0
          obtain ⟨z0, z1, z2, z3, z4, z5, z6, z7⟩ := HB.out.free1
          obtain ⟨r0, r1, r2, r3, r4, r5, r6, r7, hr1⟩ := HB.out.b1
          obtain ⟨t0, t1, t2, t3, t4, t5, t6, t7⟩ := eight_of_heap hr1
          clear hr1
          go_wp2_with fail
          have hr := HB.out.result (.slice a5 (applyL d.dn (OpD.mk 2 a b 0)).length c5) (.slice a1 d.ds.length c1) (.slice a6 (d.ops.length + 1) c6) (.slice a3 d.files.length c3) (.int .i64 d.room) (.int .i64 (stepK d).steps) (.bool (stepK d).down) (.slice a4 d.armed.length c4)
          refine bodyPost_ret (results_cell2 rfl _ _ q1 34 _ _ rfl hr.1 Tryz.underlying34 rfl sizeK (.int .i64 0) rfl) rfl ?_
          rw [HKD.out]
          exact dskd_dir HRK.out (HD7.out.result HB.out _ _ _ _ _ _ _ _) hr.2
  · have hcb : (codeK d != 0) = true := by simp [hcz]
    have hkd : moveK d a b = (stepK d, codeK d) := by unfold moveK; rw [if_pos hcz]
    have HKD := Lib.hid hkd
    clear hcz hkd
    go_wp2_with fail
    have hr := HB.out.result (.slice a0 d.dn.length c0) (.slice a1 d.ds.length c1) (.slice a2 d.ops.length c2) (.slice a3 d.files.length c3) (.int .i64 d.room) (.int .i64 (stepK d).steps) (.bool (stepK d).down) (.slice a4 d.armed.length c4)
    refine bodyPost_ret (results_cell2 rfl _ _ q1 34 _ _ rfl hr.1 Tryz.underlying34 rfl sizeK (.int .i64 (codeK d)) rfl) rfl ?_
    rw [HKD.out]
    exact dskd_step HRK.out hr.2 rfl
set_option maxRecDepth 100000 in
set_option maxHeartbeats 2000000 in
theorem ksyncdir_any (nv sv ov fv av : Value) (d : DskD) (D : List Nat)  (k : Nat) (w : World) (h : RK w nv sv ov fv av d D) (hk : OkK d k) (hkk : kindsOk d.armed) (hk6 : k ≤ 900)  :
    Calls Tryz.prog 24 #[kval nv sv ov fv av d] w (Dskd (syncDirK d).1 (.int .i64 (syncDirK d).2) D w) := by
  have hst : 0 ≤ d.steps ∧ d.steps ≤ 1000000 := ⟨hk.st0, by have := hk.st; omega⟩
  have HRK := Lib.hid h
  have HOK := Lib.hid hk
  have HKK := Lib.hid hkk
  obtain ⟨a0, c0, a1, c1, a2, c2, a3, c3, a4, c4, rfl, rfl, rfl, rfl, rfl⟩ := h.slices
  have hB := boxes_at w #[.slice a0 d.dn.length c0, .slice a1 d.ds.length c1, .slice a2 d.ops.length c2, .slice a3 d.files.length c3, .int .i64 d.room, .int .i64 d.steps, .bool d.down, .slice a4 d.armed.length c4]
  have hstp := fun wx (hx : Fr [] w wx) => kstep_any _ _ _ _ _ d D wx (HRK.out.below hx) hst hkk
  unfold kval at hstp ⊢
  have hstr : (stepK d).room = d.room := rfl
  rw [hstr] at hstp
  have HST := Lib.hid hstp
  clear h hk hkk hst hstp hstr
  go_enter Tryz.func24, Tryz.ntmps24
  go_upto_region 1 with fail
  unfold zeroK at hB
  obtain ⟨w2, hw2⟩ : ∃ w2, w2 = (w.alloc (.cells #[.slice a0 d.dn.length c0, .slice a1 d.ds.length c1, .slice a2 d.ops.length c2, .slice a3 d.files.length c3, .int .i64 d.room, .int .i64 d.steps, .bool d.down, .slice a4 d.armed.length c4] 34)).alloc (.cells #[.slice none 0 0, .slice none 0 0, .slice none 0 0, .slice none 0 0, .int .i64 0, .int .i64 0, .bool false, .slice none 0 0] 34) := ⟨_, rfl⟩
  rw [← hw2] at hB ⊢
  obtain ⟨q0, hq0⟩ : ∃ q, q = w.heap.size := ⟨_, rfl⟩
  obtain ⟨q1, hq1⟩ : ∃ q, q = w.heap.size + 1 := ⟨_, rfl⟩
  rw [← hq1, ← hq0] at hB
  rw [← hq1, ← hq0]
  clear hw2 hq0 hq1
  have HB2 := Lib.hid hB
  obtain ⟨y0, y1, y2, y3, y4, y5, y6, y7⟩ := eight_of_heap hB.b0
  clear hB
  go_upto_region 2 with (go_at_call 56; refine (HST.out _ HB2.out.fr).mono ?_; rintro e w3 ⟨rfl, hf3⟩; have HB3 := Lib.hid (HB2.out.below hf3); clear hf3 y0 y1 y2 y3 y4 y5 y6 y7; obtain ⟨y0, y1, y2, y3, y4, y5, y6, y7⟩ := eight_of_heap HB3.out.b0; obtain ⟨g0, g1, g2, g3, g4, g5, g6, g7⟩ := eight_free HB3.out.b0)
  have hB4 : Boxes w q0 q1 #[.slice a0 d.dn.length c0, .slice a1 d.ds.length c1, .slice a2 d.ops.length c2, .slice a3 d.files.length c3, .int .i64 d.room, .int .i64 (stepK d).steps, .bool (stepK d).down, .slice a4 d.armed.length c4] _ := HB3.out.write (Fr.set8 w3 q0 (.slice a0 d.dn.length c0) (.slice a1 d.ds.length c1) (.slice a2 d.ops.length c2) (.slice a3 d.files.length c3) (.int .i64 d.room) (.int .i64 (stepK d).steps) (.bool (stepK d).down) (.slice a4 d.armed.length c4)) (heap_set8 HB3.out.b0 (.slice a0 d.dn.length c0) (.slice a1 d.ds.length c1) (.slice a2 d.ops.length c2) (.slice a3 d.files.length c3) (.int .i64 d.room) (.int .i64 (stepK d).steps) (.bool (stepK d).down) (.slice a4 d.armed.length c4))
  generalize hw4 : ((((((((w3.setCell ⟨q0, 0, none⟩ (.slice a0 d.dn.length c0)).setCell ⟨q0, 1, none⟩ (.slice a1 d.ds.length c1)).setCell ⟨q0, 2, none⟩ (.slice a2 d.ops.length c2)).setCell ⟨q0, 3, none⟩ (.slice a3 d.files.length c3)).setCell ⟨q0, 4, none⟩ (.int .i64 d.room)).setCell ⟨q0, 5, none⟩ (.int .i64 (stepK d).steps)).setCell ⟨q0, 6, none⟩ (.bool (stepK d).down)).setCell ⟨q0, 7, none⟩ (.slice a4 d.armed.length c4)) = w4 at hB4 ⊢
  clear hw4 y0 y1 y2 y3 y4 y5 y6 y7 g0 g1 g2 g3 g4 g5 g6 g7 HB2 HB3
  have HB := Lib.hid hB4
  obtain ⟨y0, y1, y2, y3, y4, y5, y6, y7⟩ := eight_of_heap hB4.b0
  obtain ⟨z0, z1, z2, z3, z4, z5, z6, z7⟩ := hB4.free1
  obtain ⟨r0, r1, r2, r3, r4, r5, r6, r7, hr1⟩ := hB4.b1
  obtain ⟨t0, t1, t2, t3, t4, t5, t6, t7⟩ := eight_of_heap hr1
  clear hr1 hB4
  obtain ⟨c, hc⟩ : ∃ c, c = codeK d := ⟨_, rfl⟩
  clear hc c
  by_cases hcz : codeK d = 0
  · have hcb : (codeK d == 0) = true := by simp [hcz]
    have hkd : syncDirK d = ({ stepK d with ds := d.dn, ops := [] }, 0) := by unfold syncDirK; rw [if_neg (by simp [hcz])]
    have HKD := Lib.hid hkd
    have HCZ := Lib.hid hcz
    obtain ⟨g0, g1, g2, g3, g4, g5, g6, g7⟩ := eight_free HB.out.b0
    clear hkd hcz
    go_upto_region 4 with fail
    have hB7 : Boxes w q0 q1 #[.slice a0 d.dn.length c0, .slice a0 d.dn.length c0, .slice none 0 0, .slice a3 d.files.length c3, .int .i64 d.room, .int .i64 (stepK d).steps, .bool (stepK d).down, .slice a4 d.armed.length c4] _ := HB.out.write (Fr.set3 w4 q0 (.slice a0 d.dn.length c0) (.slice a0 d.dn.length c0) (.slice none 0 0)) (heap_set3of8 HB.out.b0 (.slice a0 d.dn.length c0) (.slice a0 d.dn.length c0) (.slice none 0 0))
    have hf67 : Fr [q0] w4 _ := Fr.set3 w4 q0 (.slice a0 d.dn.length c0) (.slice a0 d.dn.length c0) (.slice none 0 0)
    generalize hw7 : (((w4.setCell ⟨q0, 0, none⟩ (.slice a0 d.dn.length c0)).setCell ⟨q0, 1, none⟩ (.slice a0 d.dn.length c0)).setCell ⟨q0, 2, none⟩ (.slice none 0 0)) = w7 at hB7 hf67 ⊢
    have HD7 := Lib.hid (RD.box ⟨(HRK.out.below HB.out.fr).dir.1, (HRK.out.below HB.out.fr).dir.1, World.ownsRow_nil _ _ _ _⟩ HB.out.b0 hf67 : RD w7 _ _ _ d.dn d.dn [])
    clear hw7 hf67 g0 g1 g2 g3 g4 g5 g6 g7
    replace HB := Lib.hid hB7
    clear hB7
    clear y0 y1 y2 y3 y4 y5 y6 y7 z0 z1 z2 z3 z4 z5 z6 z7 t0 t1 t2 t3 t4 t5 t6 t7
    obtain ⟨y0, y1, y2, y3, y4, y5, y6, y7⟩ := eight_of_heap HB.out.b0
    obtain ⟨z0, z1, z2, z3, z4, z5, z6, z7⟩ := HB.out.free1
    obtain ⟨r0, r1, r2, r3, r4, r5, r6, r7, hr1⟩ := HB.out.b1
    obtain ⟨t0, t1, t2, t3, t4, t5, t6, t7⟩ := eight_of_heap hr1
    clear hr1
    go_wp2_with fail
    have hr := HB.out.result (.slice a0 d.dn.length c0) (.slice a0 d.dn.length c0) (.slice none 0 0) (.slice a3 d.files.length c3) (.int .i64 d.room) (.int .i64 (stepK d).steps) (.bool (stepK d).down) (.slice a4 d.armed.length c4)
    refine bodyPost_ret (results_cell2 rfl _ _ q1 34 _ _ rfl hr.1 Tryz.underlying34 rfl sizeK (.int .i64 (codeK d)) rfl) rfl ?_
    rw [HKD.out, HCZ.out]
    exact dskd_dir HRK.out (HD7.out.result HB.out _ _ _ _ _ _ _ _) hr.2
  · have hcb : (codeK d == 0) = false := by simp [hcz]
    have hkd : syncDirK d = (stepK d, codeK d) := by unfold syncDirK; rw [if_pos hcz]
    have HKD := Lib.hid hkd
    clear hcz hkd
    go_wp2_with fail
    have hr := HB.out.result (.slice a0 d.dn.length c0) (.slice a1 d.ds.length c1) (.slice a2 d.ops.length c2) (.slice a3 d.files.length c3) (.int .i64 d.room) (.int .i64 (stepK d).steps) (.bool (stepK d).down) (.slice a4 d.armed.length c4)
    refine bodyPost_ret (results_cell2 rfl _ _ q1 34 _ _ rfl hr.1 Tryz.underlying34 rfl sizeK (.int .i64 (codeK d)) rfl) rfl ?_
    rw [HKD.out]
    exact dskd_step HRK.out hr.2 rfl
end Go.Proofs.YtmchnaojlnjmjaaGreat
