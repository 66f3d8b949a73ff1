/- The statement's own Plain (layer 11): an act, done with the document's disk. Written by wip/tools/gen_dskM.py. -/
import Derived.Test.YtmchnaojlnjmjaaGreatDskAct
import Derived.Test.YtmchnaojlnjmjaaGreatDskK
namespace Go.Proofs.YtmchnaojlnjmjaaGreat
open Go.RowKit Go.Maps

theorem RK.box {w w' : World} {nv sv ov fv av : Value} {d : DskD} {D : List Nat} {q : Nat} {cs : Array Value} {fr : Nat × Nat} (h : RK w nv sv ov fv av d D) (hq : w.heap[q]? = some (.cells cs 34 fr)) (hD : ∀ k ∈ D, k ≠ q) (hf : Fr [q] w w') : RK w' nv sv ov fv av d D :=
  ⟨h.dir.box hq hf, h.files.box hq hD hf, armed_box h.armed hq hf, fun k hk => Nat.lt_of_lt_of_le (h.lt k hk) hf.size⟩
/-- The result's box is written with a disk that a call gave. -/
theorem plain_end {w w2 w3 : World} {q0 q1 : Nat} {cs : Array Value} {nv sv ov fv av v : Value} {d : DskD} {D D' : List Nat} (hB : Boxes w q0 q1 cs w3) (h : RK w3 nv sv ov fv av d D') (hD' : ∀ k ∈ D', k ∈ D ∨ w2.heap.size ≤ k) (hq : q1 < w2.heap.size) (hw : w.heap.size ≤ w2.heap.size) (hD : ∀ k ∈ D, k < w.heap.size) :
    Dskd d v D w (.returned (.tuple #[.agg #[nv, sv, ov, fv, .int .i64 d.room, .int .i64 d.steps, .bool d.down, av], v])) ((((((((w3.setCell ⟨q1, 0, none⟩ nv).setCell ⟨q1, 1, none⟩ sv).setCell ⟨q1, 2, none⟩ ov).setCell ⟨q1, 3, none⟩ fv).setCell ⟨q1, 4, none⟩ (.int .i64 d.room)).setCell ⟨q1, 5, none⟩ (.int .i64 d.steps)).setCell ⟨q1, 6, none⟩ (.bool d.down)).setCell ⟨q1, 7, none⟩ av) := by
  obtain ⟨y0, y1, y2, y3, y4, y5, y6, y7, hb1⟩ := hB.b1
  have hn := hB.n1
  exact ⟨_, _, _, _, _, D', rfl, h.box hb1 (fun k hk => (hD' k hk).elim (fun q => by have := hD k q; omega) (fun q => by omega)) (Fr.set8 w3 q1 nv sv ov fv (.int .i64 d.room) (.int .i64 d.steps) (.bool d.down) av), (hB.result _ _ _ _ _ _ _ _).2, fun k hk => (hD' k hk).elim .inl (fun q => .inr (by omega))⟩
set_option maxRecDepth 100000 in
set_option maxHeartbeats 4000000 in
theorem plain_any (nv sv ov fv av : Value) (d : DskD) (D : List Nat) (A : ActK) (k : Nat) (w : World) (h : RK w nv sv ov fv av d D) (hk : AllOk d k) (hk6 : k ≤ 400) (hA : A.ok w) (hf : fewK A) :
    Calls Tryz.prog 8 #[kval nv sv ov fv av d, A.val] w (Dskd (plainK d A).1 (.int .i64 (plainK d A).2) D w) := by
  have HRK := Lib.hid h
  have HOK := Lib.hid hk
  have HA := Lib.hid hA
  obtain ⟨x0, y0, x1, y1, x2, y2, x3, y3, e0, e1, e2, e3⟩ := hA.slices
  have HDA := Lib.hid (show bytesAt w (.slice x0 A.data.length y0) A.data from by rw [← e0]; exact hA.data)
  have HKE := Lib.hid (show cellsAt w (.slice x1 A.keep.length y1) (A.keep.map Value.bool) from by rw [← e1]; exact hA.keep)
  have HSI := Lib.hid (show cellsAt w (.slice x2 A.sizes.length y2) (A.sizes.map (Value.int .i64)) from by rw [← e2]; exact hA.sizes)
  have HCU := Lib.hid (show cellsAt w (.slice x3 A.cuts.length y3) (A.cuts.map (Value.int .i64)) from by rw [← e3]; exact hA.cuts)
  have HFW := Lib.hid hf
  have hma : A.a.length ≤ maxLen := by have := hf.1; simp [maxLen]; omega
  have hmb : A.b.length ≤ maxLen := by have := hf.2.1; simp [maxLen]; omega
  unfold ActK.val
  rw [e0, e1, e2, e3]
  obtain ⟨a0, c0, a1, c1, a2, c2, a3, c3, a4, c4, rfl, rfl, rfl, rfl, rfl⟩ := h.slices
  unfold kval
  have hB3 := boxes3_at w #[.slice a0 d.dn.length c0, .slice a1 d.ds.length c1, .slice a2 d.ops.length c2, .slice a3 d.files.length c3, .int .i64 d.room, .int .i64 d.steps, .bool d.down, .slice a4 d.armed.length c4] (.cells #[.int .i64 A.kind, encStr A.a, encStr A.b, .slice x0 A.data.length y0, .int .i64 A.n, .slice x1 A.keep.length y1, .slice x2 A.sizes.length y2, .slice x3 A.cuts.length y3] 42)
  unfold zeroK at hB3
  obtain ⟨hB, hL⟩ := hB3
  obtain ⟨P, hP⟩ : ∃ P, P = plainK d A := ⟨_, rfl⟩
  rw [← hP]
  have HP := Lib.hid hP
  clear h hk hA hf e0 e1 e2 e3 hP
  go_enter Tryz.func8, Tryz.ntmps8
  go_upto_region 1 with fail
  obtain ⟨w2, hw2⟩ : ∃ w2, w2 = ((w.alloc (.cells #[.slice a0 d.dn.length c0, .slice a1 d.ds.length c1, .slice a2 d.ops.length c2, .slice a3 d.files.length c3, .int .i64 d.room, .int .i64 d.steps, .bool d.down, .slice a4 d.armed.length c4] 34)).alloc (.cells #[.int .i64 A.kind, encStr A.a, encStr A.b, .slice x0 A.data.length y0, .int .i64 A.n, .slice x1 A.keep.length y1, .slice x2 A.sizes.length y2, .slice x3 A.cuts.length y3] 42)).alloc (.cells #[.slice none 0 0, .slice none 0 0, .slice none 0 0, .slice none 0 0, .int .i64 0, .int .i64 0, .bool false, .slice none 0 0] 34) := ⟨_, rfl⟩
  rw [← hw2] at hB hL ⊢
  obtain ⟨q0, hq0⟩ : ∃ q, q = w.heap.size := ⟨_, rfl⟩
  obtain ⟨q3, hq3⟩ : ∃ q, q = w.heap.size + 1 := ⟨_, rfl⟩
  obtain ⟨q1, hq1⟩ : ∃ q, q = w.heap.size + 1 + 1 := ⟨_, rfl⟩
  rw [← hq1, ← hq0] at hB
  rw [← hq3] at hL
  rw [← hq1, ← hq3, ← hq0]
  clear hw2 hq0 hq1 hq3
  have hq12 : q1 < w2.heap.size := by obtain ⟨_, _, _, _, _, _, _, _, hh⟩ := hB.b1; exact (Array.getElem?_eq_some_iff.1 hh).1
  have hww : w.heap.size ≤ w2.heap.size := hB.fr.size
  have HDL := Lib.hid HRK.out.lt
  have HB := Lib.hid hB
  obtain ⟨u0, u1, u2, u3, u4, u5, u6, u7⟩ := eight_of_heap hB.b0
  obtain ⟨l0, l1, l2, l3, l4, l5, l6, l7⟩ := eight_of_heap hL
  clear hB hL
  by_cases hk0 : A.kind = 0
  · have hb0 : (A.kind == 0) = true := by simp [hk0]
    have hpl : P = createK d A.a := by rw [HP.out]; unfold plainK; rw [if_pos hk0]
    have hc := kcreate_any _ _ _ _ _ d D A.a k w2 (HRK.out.below HB.out.fr) HOK.out.ok HOK.out.kinds (by omega) hma HOK.out.okn
    rw [← hpl] at hc
    obtain ⟨dd, cc⟩ := P
    simp only at hc ⊢
    unfold kval at hc
    have HC := Lib.hid hc
    clear hc hpl HP hk0
    go_wp2_with (go_at_call 21; refine HC.out.mono ?_; rintro e w3 ⟨nv, sv, ov, fv, av, D', rfl, hRK3, hf3, hD3⟩; unfold kval; obtain ⟨e0, f0, e1, f1, e2, f2, e3, f3, e4, f4, rfl, rfl, rfl, rfl, rfl⟩ := hRK3.slices; replace HB := Lib.hid (HB.out.below hf3); have HR3 := Lib.hid hRK3; have HD3 := Lib.hid hD3; clear u0 u1 u2 u3 u4 u5 u6 u7 hf3 hRK3 hD3; obtain ⟨z0, z1, z2, z3, z4, z5, z6, z7⟩ := HB.out.free1; obtain ⟨r0, r1, r2, r3, r4, r5, r6, r7, hr1⟩ := HB.out.b1; obtain ⟨t0, t1, t2, t3, t4, t5, t6, t7⟩ := eight_of_heap hr1; clear hr1)
    have hr := HB.out.result (.slice e0 dd.dn.length f0) (.slice e1 dd.ds.length f1) (.slice e2 dd.ops.length f2) (.slice e3 dd.files.length f3) (.int .i64 dd.room) (.int .i64 dd.steps) (.bool dd.down) (.slice e4 dd.armed.length f4)
    refine bodyPost_ret (results_cell2 rfl _ _ q1 34 _ _ rfl hr.1 Tryz.underlying34 rfl sizeK (.int .i64 cc) rfl) rfl ?_
    exact plain_end HB.out HR3.out HD3.out hq12 hww HDL.out
  · have hb0 : (A.kind == 0) = false := by simp [hk0]
    by_cases hk1 : A.kind = 1
    · have hb1 : (A.kind == 1) = true := by simp [hk1]
      have hpl : P = appendK d A.a A.data := by rw [HP.out]; unfold plainK; rw [if_neg hk0]; rw [if_pos hk1]
      have hc := kappend_any _ _ _ _ _ d D A.a A.data _ k w2 (HRK.out.below HB.out.fr) HOK.out.ok HOK.out.kinds (by omega) (HDA.out.below HB.out.fr) (by have := HFW.out.2.2.1; omega)
      rw [← hpl] at hc
      obtain ⟨dd, cc⟩ := P
      simp only at hc ⊢
      unfold kval at hc
      have HC := Lib.hid hc
      clear hc hpl HP hk0 hk1
      go_wp2_with (go_at_call 22; refine HC.out.mono ?_; rintro e w3 ⟨nv, sv, ov, fv, av, D', rfl, hRK3, hf3, hD3⟩; unfold kval; obtain ⟨e0, f0, e1, f1, e2, f2, e3, f3, e4, f4, rfl, rfl, rfl, rfl, rfl⟩ := hRK3.slices; replace HB := Lib.hid (HB.out.below hf3); have HR3 := Lib.hid hRK3; have HD3 := Lib.hid hD3; clear u0 u1 u2 u3 u4 u5 u6 u7 hf3 hRK3 hD3; obtain ⟨z0, z1, z2, z3, z4, z5, z6, z7⟩ := HB.out.free1; obtain ⟨r0, r1, r2, r3, r4, r5, r6, r7, hr1⟩ := HB.out.b1; obtain ⟨t0, t1, t2, t3, t4, t5, t6, t7⟩ := eight_of_heap hr1; clear hr1)
      have hr := HB.out.result (.slice e0 dd.dn.length f0) (.slice e1 dd.ds.length f1) (.slice e2 dd.ops.length f2) (.slice e3 dd.files.length f3) (.int .i64 dd.room) (.int .i64 dd.steps) (.bool dd.down) (.slice e4 dd.armed.length f4)
      refine bodyPost_ret (results_cell2 rfl _ _ q1 34 _ _ rfl hr.1 Tryz.underlying34 rfl sizeK (.int .i64 cc) rfl) rfl ?_
      exact plain_end HB.out HR3.out HD3.out hq12 hww HDL.out
    · have hb1 : (A.kind == 1) = false := by simp [hk1]
      by_cases hk2 : A.kind = 2
      · have hb2 : (A.kind == 2) = true := by simp [hk2]
        have hpl : P = syncK d A.a := by rw [HP.out]; unfold plainK; rw [if_neg hk0]; rw [if_neg hk1]; rw [if_pos hk2]
        have hc := ksync_any _ _ _ _ _ d D A.a k w2 (HRK.out.below HB.out.fr) HOK.out.ok HOK.out.kinds (by omega)
        rw [← hpl] at hc
        obtain ⟨dd, cc⟩ := P
        simp only at hc ⊢
        unfold kval at hc
        have HC := Lib.hid hc
        clear hc hpl HP hk0 hk1 hk2
        go_wp2_with (go_at_call 23; refine HC.out.mono ?_; rintro e w3 ⟨nv, sv, ov, fv, av, D', rfl, hRK3, hf3, hD3⟩; unfold kval; obtain ⟨e0, f0, e1, f1, e2, f2, e3, f3, e4, f4, rfl, rfl, rfl, rfl, rfl⟩ := hRK3.slices; replace HB := Lib.hid (HB.out.below hf3); have HR3 := Lib.hid hRK3; have HD3 := Lib.hid hD3; clear u0 u1 u2 u3 u4 u5 u6 u7 hf3 hRK3 hD3; obtain ⟨z0, z1, z2, z3, z4, z5, z6, z7⟩ := HB.out.free1; obtain ⟨r0, r1, r2, r3, r4, r5, r6, r7, hr1⟩ := HB.out.b1; obtain ⟨t0, t1, t2, t3, t4, t5, t6, t7⟩ := eight_of_heap hr1; clear hr1)
        have hr := HB.out.result (.slice e0 dd.dn.length f0) (.slice e1 dd.ds.length f1) (.slice e2 dd.ops.length f2) (.slice e3 dd.files.length f3) (.int .i64 dd.room) (.int .i64 dd.steps) (.bool dd.down) (.slice e4 dd.armed.length f4)
        refine bodyPost_ret (results_cell2 rfl _ _ q1 34 _ _ rfl hr.1 Tryz.underlying34 rfl sizeK (.int .i64 cc) rfl) rfl ?_
        exact plain_end HB.out HR3.out HD3.out hq12 hww HDL.out
      · have hb2 : (A.kind == 2) = false := by simp [hk2]
        by_cases hk3 : A.kind = 3
        · have hb3 : (A.kind == 3) = true := by simp [hk3]
          have hpl : P = syncDirK d := by rw [HP.out]; unfold plainK; rw [if_neg hk0]; rw [if_neg hk1]; rw [if_neg hk2]; rw [if_pos hk3]
          have hc := ksyncdir_any _ _ _ _ _ d D k w2 (HRK.out.below HB.out.fr) HOK.out.ok HOK.out.kinds (by omega)
          rw [← hpl] at hc
          obtain ⟨dd, cc⟩ := P
          simp only at hc ⊢
          unfold kval at hc
          have HC := Lib.hid hc
          clear hc hpl HP hk0 hk1 hk2 hk3
          go_wp2_with (go_at_call 24; refine HC.out.mono ?_; rintro e w3 ⟨nv, sv, ov, fv, av, D', rfl, hRK3, hf3, hD3⟩; unfold kval; obtain ⟨e0, f0, e1, f1, e2, f2, e3, f3, e4, f4, rfl, rfl, rfl, rfl, rfl⟩ := hRK3.slices; replace HB := Lib.hid (HB.out.below hf3); have HR3 := Lib.hid hRK3; have HD3 := Lib.hid hD3; clear u0 u1 u2 u3 u4 u5 u6 u7 hf3 hRK3 hD3; obtain ⟨z0, z1, z2, z3, z4, z5, z6, z7⟩ := HB.out.free1; obtain ⟨r0, r1, r2, r3, r4, r5, r6, r7, hr1⟩ := HB.out.b1; obtain ⟨t0, t1, t2, t3, t4, t5, t6, t7⟩ := eight_of_heap hr1; clear hr1)
          have hr := HB.out.result (.slice e0 dd.dn.length f0) (.slice e1 dd.ds.length f1) (.slice e2 dd.ops.length f2) (.slice e3 dd.files.length f3) (.int .i64 dd.room) (.int .i64 dd.steps) (.bool dd.down) (.slice e4 dd.armed.length f4)
          refine bodyPost_ret (results_cell2 rfl _ _ q1 34 _ _ rfl hr.1 Tryz.underlying34 rfl sizeK (.int .i64 cc) rfl) rfl ?_
          exact plain_end HB.out HR3.out HD3.out hq12 hww HDL.out
        · have hb3 : (A.kind == 3) = false := by simp [hk3]
          by_cases hk4 : A.kind = 4
          · have hb4 : (A.kind == 4) = true := by simp [hk4]
            have hpl : P = moveK d A.a A.b := by rw [HP.out]; unfold plainK; rw [if_neg hk0]; rw [if_neg hk1]; rw [if_neg hk2]; rw [if_neg hk3]; rw [if_pos hk4]
            have hc := kmove_any _ _ _ _ _ d D A.a A.b k w2 (HRK.out.below HB.out.fr) HOK.out.ok HOK.out.kinds (by omega) hma hmb HOK.out.okn
            rw [← hpl] at hc
            obtain ⟨dd, cc⟩ := P
            simp only at hc ⊢
            unfold kval at hc
            have HC := Lib.hid hc
            clear hc hpl HP hk0 hk1 hk2 hk3 hk4
            go_wp2_with (go_at_call 25; refine HC.out.mono ?_; rintro e w3 ⟨nv, sv, ov, fv, av, D', rfl, hRK3, hf3, hD3⟩; unfold kval; obtain ⟨e0, f0, e1, f1, e2, f2, e3, f3, e4, f4, rfl, rfl, rfl, rfl, rfl⟩ := hRK3.slices; replace HB := Lib.hid (HB.out.below hf3); have HR3 := Lib.hid hRK3; have HD3 := Lib.hid hD3; clear u0 u1 u2 u3 u4 u5 u6 u7 hf3 hRK3 hD3; obtain ⟨z0, z1, z2, z3, z4, z5, z6, z7⟩ := HB.out.free1; obtain ⟨r0, r1, r2, r3, r4, r5, r6, r7, hr1⟩ := HB.out.b1; obtain ⟨t0, t1, t2, t3, t4, t5, t6, t7⟩ := eight_of_heap hr1; clear hr1)
            have hr := HB.out.result (.slice e0 dd.dn.length f0) (.slice e1 dd.ds.length f1) (.slice e2 dd.ops.length f2) (.slice e3 dd.files.length f3) (.int .i64 dd.room) (.int .i64 dd.steps) (.bool dd.down) (.slice e4 dd.armed.length f4)
            refine bodyPost_ret (results_cell2 rfl _ _ q1 34 _ _ rfl hr.1 Tryz.underlying34 rfl sizeK (.int .i64 cc) rfl) rfl ?_
            exact plain_end HB.out HR3.out HD3.out hq12 hww HDL.out
          · have hb4 : (A.kind == 4) = false := by simp [hk4]
            by_cases hk5 : A.kind = 5
            · have hb5 : (A.kind == 5) = true := by simp [hk5]
              have hpl : P = dropK d A.a := by rw [HP.out]; unfold plainK; rw [if_neg hk0]; rw [if_neg hk1]; rw [if_neg hk2]; rw [if_neg hk3]; rw [if_neg hk4]; rw [if_pos hk5]
              have hc := kdrop_any _ _ _ _ _ d D A.a k w2 (HRK.out.below HB.out.fr) HOK.out.ok HOK.out.kinds (by omega) hma HOK.out.okn
              rw [← hpl] at hc
              obtain ⟨dd, cc⟩ := P
              simp only at hc ⊢
              unfold kval at hc
              have HC := Lib.hid hc
              clear hc hpl HP hk0 hk1 hk2 hk3 hk4 hk5
              go_wp2_with (go_at_call 26; refine HC.out.mono ?_; rintro e w3 ⟨nv, sv, ov, fv, av, D', rfl, hRK3, hf3, hD3⟩; unfold kval; obtain ⟨e0, f0, e1, f1, e2, f2, e3, f3, e4, f4, rfl, rfl, rfl, rfl, rfl⟩ := hRK3.slices; replace HB := Lib.hid (HB.out.below hf3); have HR3 := Lib.hid hRK3; have HD3 := Lib.hid hD3; clear u0 u1 u2 u3 u4 u5 u6 u7 hf3 hRK3 hD3; obtain ⟨z0, z1, z2, z3, z4, z5, z6, z7⟩ := HB.out.free1; obtain ⟨r0, r1, r2, r3, r4, r5, r6, r7, hr1⟩ := HB.out.b1; obtain ⟨t0, t1, t2, t3, t4, t5, t6, t7⟩ := eight_of_heap hr1; clear hr1)
              have hr := HB.out.result (.slice e0 dd.dn.length f0) (.slice e1 dd.ds.length f1) (.slice e2 dd.ops.length f2) (.slice e3 dd.files.length f3) (.int .i64 dd.room) (.int .i64 dd.steps) (.bool dd.down) (.slice e4 dd.armed.length f4)
              refine bodyPost_ret (results_cell2 rfl _ _ q1 34 _ _ rfl hr.1 Tryz.underlying34 rfl sizeK (.int .i64 cc) rfl) rfl ?_
              exact plain_end HB.out HR3.out HD3.out hq12 hww HDL.out
            · have hb5 : (A.kind == 5) = false := by simp [hk5]
              by_cases hk6 : A.kind = 6
              · have hb6 : (A.kind == 6) = true := by simp [hk6]
                have hpl : P = (armK d A.n A.data.length, 0) := by rw [HP.out]; unfold plainK; rw [if_neg hk0]; rw [if_neg hk1]; rw [if_neg hk2]; rw [if_neg hk3]; rw [if_neg hk4]; rw [if_neg hk5]; rw [if_pos hk6]
                have hc := karm_any _ _ _ _ _ d D A.n (A.data.length : Int) k w2 (HRK.out.below HB.out.fr) HOK.out.ok HOK.out.kinds (by omega) (by have := HOK.out.al; omega)
                subst hpl
                obtain ⟨dd, hdd⟩ : ∃ dd, dd = armK d A.n A.data.length := ⟨_, rfl⟩
                rw [← hdd] at hc
                unfold kval at hc
                have HC := Lib.hid hc
                have HDD := Lib.hid hdd
                clear hc hdd HP hk0 hk1 hk2 hk3 hk4 hk5 hk6
                go_wp2_with (go_at_call 27; refine HC.out.mono ?_; rintro e w3 ⟨nv, sv, ov, fv, av, D', rfl, hRK3, hf3, hD3⟩; unfold kval; obtain ⟨e0, f0, e1, f1, e2, f2, e3, f3, e4, f4, rfl, rfl, rfl, rfl, rfl⟩ := hRK3.slices; replace HB := Lib.hid (HB.out.below hf3); have HR3 := Lib.hid hRK3; have HD3 := Lib.hid hD3; clear u0 u1 u2 u3 u4 u5 u6 u7 hf3 hRK3 hD3; obtain ⟨z0, z1, z2, z3, z4, z5, z6, z7⟩ := HB.out.free1; obtain ⟨r0, r1, r2, r3, r4, r5, r6, r7, hr1⟩ := HB.out.b1; obtain ⟨t0, t1, t2, t3, t4, t5, t6, t7⟩ := eight_of_heap hr1; clear hr1)
                have hr := HB.out.result (.slice e0 dd.dn.length f0) (.slice e1 dd.ds.length f1) (.slice e2 dd.ops.length f2) (.slice e3 dd.files.length f3) (.int .i64 dd.room) (.int .i64 dd.steps) (.bool dd.down) (.slice e4 dd.armed.length f4)
                refine bodyPost_ret (results_cell2 rfl _ _ q1 34 _ _ rfl hr.1 Tryz.underlying34 rfl sizeK (.int .i64 0) rfl) rfl ?_
                show Dskd (armK d A.n A.data.length) _ D w _ _
                rw [← HDD.out]
                exact plain_end HB.out HR3.out HD3.out hq12 hww HDL.out
              · have hb6 : (A.kind == 6) = false := by simp [hk6]
                by_cases hk7 : A.kind = 7
                · have hb7 : (A.kind == 7) = true := by simp [hk7]
                  have hpl : P = ({ d with down := true }, 0) := by rw [HP.out]; unfold plainK; rw [if_neg hk0]; rw [if_neg hk1]; rw [if_neg hk2]; rw [if_neg hk3]; rw [if_neg hk4]; rw [if_neg hk5]; rw [if_neg hk6]; rw [if_pos hk7]
                  subst hpl
                  clear HP hk0 hk1 hk2 hk3 hk4 hk5 hk6 hk7
                  obtain ⟨g0, g1, g2, g3, g4, g5, g6, g7⟩ := eight_free HB.out.b0
                  go_upto_region 17 with fail
                  have hf90 := Fr.set0 w2 q0 6 (.bool true)
                  have hB10 : Boxes w q0 q1 #[.slice a0 d.dn.length c0, .slice a1 d.ds.length c1, .slice a2 d.ops.length c2, .slice a3 d.files.length c3, .int .i64 d.room, .int .i64 d.steps, .bool true, .slice a4 d.armed.length c4] _ := HB.out.write hf90 (heap_setCell_same HB.out.b0 _)
                  have hR10 := (HRK.out.below HB.out.fr).box HB.out.b0 (fun j hj => by have h1 := HDL.out j hj; have h2 := HB.out.n0; omega) hf90
                  generalize hw10 : w2.setCell ⟨q0, 6, none⟩ (.bool true) = w10 at hB10 hf90 hR10 ⊢
                  have HR3 : Hid (RK w10 _ _ _ _ _ { d with down := true } D) := Lib.hid ⟨hR10.dir, hR10.files, hR10.armed, hR10.lt⟩
                  clear hw10 hf90 hR10 g0 g1 g2 g3 g4 g5 g6 g7 u0 u1 u2 u3 u4 u5 u6 u7
                  replace HB := Lib.hid hB10
                  clear hB10
                  obtain ⟨u0, u1, u2, u3, u4, u5, u6, u7⟩ := eight_of_heap HB.out.b0
                  obtain ⟨z0, z1, z2, z3, z4, z5, z6, z7⟩ := HB.out.free1
                  obtain ⟨r0, r1, r2, r3, r4, r5, r6, r7, hr1⟩ := HB.out.b1
                  obtain ⟨t0, t1, t2, t3, t4, t5, t6, t7⟩ := eight_of_heap hr1
                  clear hr1
                  go_wp2_with fail
                  have hr := HB.out.result (.slice a0 d.dn.length c0) (.slice a1 d.ds.length c1) (.slice a2 d.ops.length c2) (.slice a3 d.files.length c3) (.int .i64 d.room) (.int .i64 d.steps) (.bool true) (.slice a4 d.armed.length c4)
                  refine bodyPost_ret (results_cell2 rfl _ _ q1 34 _ _ rfl hr.1 Tryz.underlying34 rfl sizeK (.int .i64 0) rfl) rfl ?_
                  exact plain_end HB.out HR3.out (fun j hj => .inl hj) hq12 hww HDL.out
                · have hb7 : (A.kind == 7) = false := by simp [hk7]
                  by_cases hk8 : A.kind = 8
                  · have hb8 : (A.kind == 8) = true := by simp [hk8]
                    have hpl : P = (upK d A.keep A.sizes A.cuts, 0) := by rw [HP.out]; unfold plainK; rw [if_neg hk0]; rw [if_neg hk1]; rw [if_neg hk2]; rw [if_neg hk3]; rw [if_neg hk4]; rw [if_neg hk5]; rw [if_neg hk6]; rw [if_neg hk7]; rw [if_pos hk8]
                    have hc := kup_any _ _ _ _ _ d D A.keep A.sizes A.cuts _ _ _ k w2 (HRK.out.below HB.out.fr) HOK.out.ok (by omega) (HKE.out.below HB.out.fr) (by have := HFW.out.2.2.2.1; omega) (HSI.out.below HB.out.fr) (HCU.out.below HB.out.fr) (by have := HFW.out.2.2.2.2.2; omega) HOK.out.oks HOK.out.oko (by have h1 := crashK_le d.ds d.ops A.keep; have h2 := HOK.out.ok.sl; omega) (nums_crash (fun n => 0 ≤ n ∧ n.toNat < d.files.length) _ _ _ HOK.out.ok.ss HOK.out.ok.snums HOK.out.ok.onums)
                    subst hpl
                    obtain ⟨dd, hdd⟩ : ∃ dd, dd = upK d A.keep A.sizes A.cuts := ⟨_, rfl⟩
                    rw [← hdd] at hc
                    unfold kval at hc
                    have HC := Lib.hid hc
                    have HDD := Lib.hid hdd
                    clear hc hdd HP hk0 hk1 hk2 hk3 hk4 hk5 hk6 hk7 hk8
                    go_wp2_with (go_at_call 28; refine HC.out.mono ?_; rintro e w3 ⟨nv, sv, ov, fv, av, D', rfl, hRK3, hf3, hD3⟩; unfold kval; obtain ⟨e0, f0, e1, f1, e2, f2, e3, f3, e4, f4, rfl, rfl, rfl, rfl, rfl⟩ := hRK3.slices; replace HB := Lib.hid (HB.out.below hf3); have HR3 := Lib.hid hRK3; have HD3 := Lib.hid hD3; clear u0 u1 u2 u3 u4 u5 u6 u7 hf3 hRK3 hD3; obtain ⟨z0, z1, z2, z3, z4, z5, z6, z7⟩ := HB.out.free1; obtain ⟨r0, r1, r2, r3, r4, r5, r6, r7, hr1⟩ := HB.out.b1; obtain ⟨t0, t1, t2, t3, t4, t5, t6, t7⟩ := eight_of_heap hr1; clear hr1)
                    have hr := HB.out.result (.slice e0 dd.dn.length f0) (.slice e1 dd.ds.length f1) (.slice e2 dd.ops.length f2) (.slice e3 dd.files.length f3) (.int .i64 dd.room) (.int .i64 dd.steps) (.bool dd.down) (.slice e4 dd.armed.length f4)
                    refine bodyPost_ret (results_cell2 rfl _ _ q1 34 _ _ rfl hr.1 Tryz.underlying34 rfl sizeK (.int .i64 0) rfl) rfl ?_
                    show Dskd (upK d A.keep A.sizes A.cuts) _ D w _ _
                    rw [← HDD.out]
                    exact plain_end HB.out HR3.out HD3.out hq12 hww HDL.out
                  · have hb8 : (A.kind == 8) = false := by simp [hk8]
                    have hpl : P = ((flipK d A.a A.n).1, if (flipK d A.a A.n).2 then 1 else 0) := by rw [HP.out]; unfold plainK; rw [if_neg hk0]; rw [if_neg hk1]; rw [if_neg hk2]; rw [if_neg hk3]; rw [if_neg hk4]; rw [if_neg hk5]; rw [if_neg hk6]; rw [if_neg hk7]; rw [if_neg hk8]
                    have hc := kflip_any _ _ _ _ _ d D A.a A.n k w2 (HRK.out.below HB.out.fr) HOK.out.ok HOK.out.kinds (by omega)
                    obtain ⟨dd, pc⟩ := P
                    have hpd : dd = (flipK d A.a A.n).1 := congrArg Prod.fst hpl
                    have hpc : pc = if (flipK d A.a A.n).2 then 1 else 0 := congrArg Prod.snd hpl
                    obtain ⟨fl, hfl⟩ : ∃ fl, fl = flipK d A.a A.n := ⟨_, rfl⟩
                    rw [← hfl] at hc hpd hpc
                    obtain ⟨d2, bb⟩ := fl
                    simp only at hc hpd hpc
                    subst hpd
                    unfold kval at hc
                    have HC := Lib.hid hc
                    have HPC := Lib.hid hpc
                    clear hc hfl hpl hpc HP hk0 hk1 hk2 hk3 hk4 hk5 hk6 hk7 hk8
                    go_upto_region 21 with (go_at_call 29; refine HC.out.mono ?_; rintro e w3 ⟨nv, sv, ov, fv, av, D', rfl, hRK3, hf3, hD3⟩; unfold kval; obtain ⟨e0, f0, e1, f1, e2, f2, e3, f3, e4, f4, rfl, rfl, rfl, rfl, rfl⟩ := hRK3.slices; replace HB := Lib.hid (HB.out.below hf3); have HR3 := Lib.hid hRK3; have HD3 := Lib.hid hD3; clear u0 u1 u2 u3 u4 u5 u6 u7 hf3 hRK3 hD3; obtain ⟨z0, z1, z2, z3, z4, z5, z6, z7⟩ := HB.out.free1; obtain ⟨r0, r1, r2, r3, r4, r5, r6, r7, hr1⟩ := HB.out.b1; obtain ⟨t0, t1, t2, t3, t4, t5, t6, t7⟩ := eight_of_heap hr1; clear hr1)
                    have hfa := Fr.alloc w3 (.cells #[.slice e0 dd.dn.length f0, .slice e1 dd.ds.length f1, .slice e2 dd.ops.length f2, .slice e3 dd.files.length f3, .int .i64 dd.room, .int .i64 dd.steps, .bool dd.down, .slice e4 dd.armed.length f4] 34)
                    have hba := heap_alloc_new w3 (.cells #[.slice e0 dd.dn.length f0, .slice e1 dd.ds.length f1, .slice e2 dd.ops.length f2, .slice e3 dd.files.length f3, .int .i64 dd.room, .int .i64 dd.steps, .bool dd.down, .slice e4 dd.armed.length f4] 34)
                    have HB9 := Lib.hid (HB.out.below hfa)
                    have HR9 := Lib.hid (HR3.out.below hfa)
                    generalize hw9 : w3.alloc (.cells #[.slice e0 dd.dn.length f0, .slice e1 dd.ds.length f1, .slice e2 dd.ops.length f2, .slice e3 dd.files.length f3, .int .i64 dd.room, .int .i64 dd.steps, .bool dd.down, .slice e4 dd.armed.length f4] 34) = w9 at hfa hba HB9 HR9 ⊢
                    generalize hq6 : w3.heap.size = q6 at hba ⊢
                    clear hw9 hq6 hfa z0 z1 z2 z3 z4 z5 z6 z7 t0 t1 t2 t3 t4 t5 t6 t7 HB
                    obtain ⟨u0, u1, u2, u3, u4, u5, u6, u7⟩ := eight_of_heap hba
                    obtain ⟨z0, z1, z2, z3, z4, z5, z6, z7⟩ := HB9.out.free1
                    obtain ⟨r0', r1', r2', r3', r4', r5', r6', r7', hr1⟩ := HB9.out.b1
                    obtain ⟨t0, t1, t2, t3, t4, t5, t6, t7⟩ := eight_of_heap hr1
                    clear hr1 hba
                    have hr := HB9.out.result (.slice e0 dd.dn.length f0) (.slice e1 dd.ds.length f1) (.slice e2 dd.ops.length f2) (.slice e3 dd.files.length f3) (.int .i64 dd.room) (.int .i64 dd.steps) (.bool dd.down) (.slice e4 dd.armed.length f4)
                    have HRR := Lib.hid hr
                    clear hr
                    cases bb with
                    | true =>
                      go_wp2_with fail
                      refine bodyPost_ret (results_cell2 rfl _ _ q1 34 _ _ rfl HRR.out.1 Tryz.underlying34 rfl sizeK (.int .i64 1) rfl) rfl ?_
                      have hpc := HPC.out
                      simp only [if_true, if_false, Bool.false_eq_true] at hpc
                      subst hpc
                      exact plain_end HB9.out HR9.out HD3.out hq12 hww HDL.out
                    | false =>
                      go_wp2_with fail
                      refine bodyPost_ret (results_cell2 rfl _ _ q1 34 _ _ rfl HRR.out.1 Tryz.underlying34 rfl sizeK (.int .i64 0) rfl) rfl ?_
                      have hpc := HPC.out
                      simp only [if_true, if_false, Bool.false_eq_true] at hpc
                      subst hpc
                      exact plain_end HB9.out HR9.out HD3.out hq12 hww HDL.out
end Go.Proofs.YtmchnaojlnjmjaaGreat
