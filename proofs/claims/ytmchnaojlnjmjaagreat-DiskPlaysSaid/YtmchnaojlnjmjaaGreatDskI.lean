/- The document's disk (layer 11): New, Flip. Written by wip/tools/gen_dskI.py. -/
import Derived.Test.YtmchnaojlnjmjaaGreatDskH
namespace Go.Proofs.YtmchnaojlnjmjaaGreat
open Go.RowKit Go.Maps

theorem dskd_same {w w' : World} {nv sv ov fv av v : Value} {d d' : DskD} {D : List Nat} (h : RK w nv sv ov fv av d D) (hf : Fr [] w w') (hd : d' = d) : Dskd d' v D w (.returned (.tuple #[.agg #[nv, sv, ov, fv, .int .i64 d.room, .int .i64 d.steps, .bool d.down, av], v])) w' := by
  subst hd
  exact ⟨_, _, _, _, _, D, rfl, h.below hf, hf, fun k hk => .inl hk⟩
theorem dskd_put0 {w w' : World} {nv sv ov fv av v fv' : Value} {d : DskD} {D D' : List Nat} {i : Nat} {f : FileD} (h : RK w nv sv ov fv av d D) (hfl : filesR w' fv' (d.files.set i f) D') (hD : ∀ k ∈ D', k ∈ D ∨ w.heap.size ≤ k) (hlt : ∀ k ∈ D', k < w'.heap.size) (hf : Fr [] w w') :
    Dskd (putK d (i : Int) f) v D w (.returned (.tuple #[.agg #[nv, sv, ov, fv', .int .i64 d.room, .int .i64 d.steps, .bool d.down, av], v])) w' :=
  ⟨_, _, _, _, _, D', rfl, ⟨(h.below hf).dir, by show filesR w' fv' (d.files.set ((i : Int).toNat) f) D'; rw [Int.toNat_natCast]; exact hfl, (h.below hf).armed, hlt⟩, hf, hD⟩
theorem putK_files (d : DskD) (n : Int) (f : FileD) : (putK d n f).files = d.files.set n.toNat f := rfl
set_option maxRecDepth 100000 in
theorem knew_any (room : Int) (w : World) : Calls Tryz.prog 7 #[.int .i64 room] w fun e w' => e = .returned (kval (.slice none 0 0) (.slice none 0 0) (.slice none 0 0) (.slice none 0 0) (.slice none 0 0) ⟨[], [], [], [], room, 0, false, []⟩) ∧ Fr [] w w' := by
  have hfa := Fr.alloc w (.cells #[.slice none 0 0, .slice none 0 0, .slice none 0 0, .slice none 0 0, .int .i64 room, .int .i64 0, .bool false, .slice none 0 0] 34)
  have hba := heap_alloc_new w (.cells #[.slice none 0 0, .slice none 0 0, .slice none 0 0, .slice none 0 0, .int .i64 room, .int .i64 0, .bool false, .slice none 0 0] 34)
  go_enter Tryz.func7, Tryz.ntmps7
  go_wp2_with fail
  exact bodyPost_ret (results_cell_row rfl _ _ w.heap.size 34 _ (0, 0) _ rfl hba Tryz.underlying34 rfl sizeK) rfl ⟨rfl, hfa⟩

set_option maxRecDepth 100000 in
set_option maxHeartbeats 2000000 in
theorem kflip_any (nv sv ov fv av : Value) (d : DskD) (D : List Nat) (m : List UInt8) (bit : Int) (k : Nat) (w : World) (h : RK w nv sv ov fv av d D) (hk : OkK d k) (hkk : kindsOk d.armed) (hk6 : k ≤ 900) :
    Calls Tryz.prog 29 #[kval nv sv ov fv av d, encStr m, .int .i64 bit] w (Dskd (flipK d m bit).1 (.bool (flipK d m bit).2) D w) := by
  have hst : 0 ≤ d.steps ∧ d.steps ≤ 1000000 := ⟨hk.st0, by have := hk.st; omega⟩
  have HRK := Lib.hid h
  have HOK := Lib.hid hk
  have HKK := Lib.hid hkk
  obtain ⟨a0, c0, a1, c1, a2, c2, a3, c3, a4, c4, rfl, rfl, rfl, rfl, rfl⟩ := h.slices
  have hB := boxes_at w #[.slice a0 d.dn.length c0, .slice a1 d.ds.length c1, .slice a2 d.ops.length c2, .slice a3 d.files.length c3, .int .i64 d.room, .int .i64 d.steps, .bool d.down, .slice a4 d.armed.length c4]
  unfold kval
  clear h hk hkk hst
  go_enter Tryz.func29, Tryz.ntmps29
  go_upto_region 1 with fail
  unfold zeroK at hB
  obtain ⟨w2, hw2⟩ : ∃ w2, w2 = (w.alloc (.cells #[.slice a0 d.dn.length c0, .slice a1 d.ds.length c1, .slice a2 d.ops.length c2, .slice a3 d.files.length c3, .int .i64 d.room, .int .i64 d.steps, .bool d.down, .slice a4 d.armed.length c4] 34)).alloc (.cells #[.slice none 0 0, .slice none 0 0, .slice none 0 0, .slice none 0 0, .int .i64 0, .int .i64 0, .bool false, .slice none 0 0] 34) := ⟨_, rfl⟩
  rw [← hw2] at hB ⊢
  obtain ⟨q0, hq0⟩ : ∃ q, q = w.heap.size := ⟨_, rfl⟩
  obtain ⟨q1, hq1⟩ : ∃ q, q = w.heap.size + 1 := ⟨_, rfl⟩
  rw [← hq1, ← hq0] at hB
  rw [← hq1, ← hq0]
  clear hw2 hq0 hq1
  have HB := Lib.hid hB
  obtain ⟨y0, y1, y2, y3, y4, y5, y6, y7⟩ := eight_of_heap hB.b0
  obtain ⟨z0, z1, z2, z3, z4, z5, z6, z7⟩ := hB.free1
  obtain ⟨r0, r1, r2, r3, r4, r5, r6, r7, hr1⟩ := hB.b1
  obtain ⟨t0, t1, t2, t3, t4, t5, t6, t7⟩ := eight_of_heap hr1
  clear hr1 hB
  have HFI := Lib.hid (fun wx (hx : Fr [] w wx) => kfile_any _ _ _ _ _ d D m wx (HRK.out.below hx))
  unfold kval at HFI
  cases hl : lookL d.dn m with
  | none =>
    have hno : noK d m = -1 := by unfold noK; rw [hl]; rfl
    have hkd : flipK d m bit = (d, false) := by unfold flipK; rw [hl]
    rw [hno] at HFI
    have HKD := Lib.hid hkd
    clear hkd hl hno
    go_wp2_with (go_at_call 58; refine (HFI.out _ HB.out.fr).mono ?_; rintro e w5 ⟨rfl, hf5⟩; replace HB := Lib.hid (HB.out.below hf5); clear y0 y1 y2 y3 y4 y5 y6 y7 z0 z1 z2 z3 z4 z5 z6 z7 t0 t1 t2 t3 t4 t5 t6 t7 hf5; obtain ⟨y0, y1, y2, y3, y4, y5, y6, y7⟩ := eight_of_heap HB.out.b0; obtain ⟨z0, z1, z2, z3, z4, z5, z6, z7⟩ := HB.out.free1; obtain ⟨r0', r1', r2', r3', r4', r5', r6', r7', hr1⟩ := HB.out.b1; obtain ⟨t0, t1, t2, t3, t4, t5, t6, t7⟩ := eight_of_heap hr1; clear hr1)
    have hr := HB.out.result (.slice a0 d.dn.length c0) (.slice a1 d.ds.length c1) (.slice a2 d.ops.length c2) (.slice a3 d.files.length c3) (.int .i64 d.room) (.int .i64 d.steps) (.bool d.down) (.slice a4 d.armed.length c4)
    refine bodyPost_ret (results_cell2 rfl _ _ q1 34 _ _ rfl hr.1 Tryz.underlying34 rfl sizeK (.bool false) rfl) rfl ?_
    rw [HKD.out]
    exact dskd_same HRK.out hr.2 rfl
  | some n =>
    have hno : noK d m = n := by unfold noK; rw [hl]; rfl
    have hkd : flipK d m bit = if bit < 0 ∨ 8 * ((fileK d n).now.length : Int) ≤ bit then (d, false) else (putK d n ⟨flipC (fileK d n).now bit, (flipC (fileK d n).now bit).take (fileK d n).safe.length⟩, true) := by unfold flipK; rw [hl]
    rw [hno] at HFI
    have hnf := file_lo HOK.out hl
    obtain ⟨i, hi⟩ : ∃ i : Nat, n = (i : Int) := ⟨n.toNat, by omega⟩
    subst hi
    have hil : i < d.files.length := by simpa using hnf.2
    have hfk : fileK d (i : Int) = d.files[i]'hil := by unfold fileK; rw [Int.toNat_natCast]; simp only [List.getD, List.getElem?_eq_getElem hil, Option.getD_some]
    rw [hfk] at hkd
    obtain ⟨f, hfe⟩ : ∃ f, f = d.files[i]'hil := ⟨_, rfl⟩
    rw [← hfe] at hkd
    have hdn : decide ((i : Int) < 0) = false := decide_eq_false (by omega)
    have hfl : d.files.length ≤ 1000 := by have := HOK.out.fl; omega
    have hnl : f.now.length ≤ 1000000 := by have h1 := HOK.out.len f (by rw [hfe]; exact List.getElem_mem hil); omega
    have hpf : f.safe = f.now.take f.safe.length := HOK.out.pre f (by rw [hfe]; exact List.getElem_mem hil)
    have hsl : f.safe.length ≤ f.now.length := by have := congrArg List.length hpf; simp at this; omega
    have HFE := Lib.hid hfe
    clear hl hno hfk hnf hfe hpf
    by_cases hb0 : bit < 0
    · have hdb : decide (bit < 0) = true := decide_eq_true hb0
      rw [if_pos (.inl hb0)] at hkd
      have HKD := Lib.hid hkd
      clear hkd hb0
      go_wp2_with (go_at_call 58; refine (HFI.out _ HB.out.fr).mono ?_; rintro e w5 ⟨rfl, hf5⟩; replace HB := Lib.hid (HB.out.below hf5); clear y0 y1 y2 y3 y4 y5 y6 y7 z0 z1 z2 z3 z4 z5 z6 z7 t0 t1 t2 t3 t4 t5 t6 t7 hf5; obtain ⟨y0, y1, y2, y3, y4, y5, y6, y7⟩ := eight_of_heap HB.out.b0; obtain ⟨z0, z1, z2, z3, z4, z5, z6, z7⟩ := HB.out.free1; obtain ⟨r0', r1', r2', r3', r4', r5', r6', r7', hr1⟩ := HB.out.b1; obtain ⟨t0, t1, t2, t3, t4, t5, t6, t7⟩ := eight_of_heap hr1; clear hr1)
      have hr := HB.out.result (.slice a0 d.dn.length c0) (.slice a1 d.ds.length c1) (.slice a2 d.ops.length c2) (.slice a3 d.files.length c3) (.int .i64 d.room) (.int .i64 d.steps) (.bool d.down) (.slice a4 d.armed.length c4)
      refine bodyPost_ret (results_cell2 rfl _ _ q1 34 _ _ rfl hr.1 Tryz.underlying34 rfl sizeK (.bool false) rfl) rfl ?_
      rw [HKD.out]
      exact dskd_same HRK.out hr.2 rfl
    · have hdb : decide (bit < 0) = false := decide_eq_false hb0
      go_upto_region 2 with (go_at_call 58; refine (HFI.out _ HB.out.fr).mono ?_; rintro e w5 ⟨rfl, hf5⟩; replace HB := Lib.hid (HB.out.below hf5); clear y0 y1 y2 y3 y4 y5 y6 y7 z0 z1 z2 z3 z4 z5 z6 z7 t0 t1 t2 t3 t4 t5 t6 t7 hf5; obtain ⟨y0, y1, y2, y3, y4, y5, y6, y7⟩ := eight_of_heap HB.out.b0; obtain ⟨z0, z1, z2, z3, z4, z5, z6, z7⟩ := HB.out.free1; obtain ⟨r0', r1', r2', r3', r4', r5', r6', r7', hr1⟩ := HB.out.b1; obtain ⟨t0, t1, t2, t3, t4, t5, t6, t7⟩ := eight_of_heap hr1; clear hr1)
      obtain ⟨b0, off, p, rfl, -, -, hp0, hp1, hpr⟩ := (HRK.out.below HB.out.fr).files.get i hil
      rw [← HFE.out] at hpr
      obtain ⟨p0, p1⟩ := p
      obtain ⟨ax, cx, hax, hlx, hmx⟩ := hpr.1.form
      obtain ⟨ay, cy, hay, hly, hmy⟩ := hpr.2.1.form
      simp only at hax hay hp0 hp1
      subst hax
      subst hay
      have HPR := Lib.hid hpr
      have HFI2 := Lib.hid (HRK.out.below HB.out.fr).files
      clear hpr
      by_cases hlo : 8 * (f.now.length : Int) ≤ bit
      · have hdl : decide (8 * (f.now.length : Int) ≤ bit) = true := decide_eq_true hlo
        rw [if_pos (.inr hlo)] at hkd
        have HKD := Lib.hid hkd
        clear hkd hlo hb0
        go_wp2_with fail
        have hr := HB.out.result (.slice a0 d.dn.length c0) (.slice a1 d.ds.length c1) (.slice a2 d.ops.length c2) (.slice (some ⟨b0, off, none⟩) d.files.length c3) (.int .i64 d.room) (.int .i64 d.steps) (.bool d.down) (.slice a4 d.armed.length c4)
        refine bodyPost_ret (results_cell2 rfl _ _ q1 34 _ _ rfl hr.1 Tryz.underlying34 rfl sizeK (.bool false) rfl) rfl ?_
        rw [HKD.out]
        exact dskd_same HRK.out hr.2 rfl
      · have hdl : decide (8 * (f.now.length : Int) ≤ bit) = false := decide_eq_false hlo
        rw [if_neg (show ¬ (bit < 0 ∨ 8 * (f.now.length : Int) ≤ bit) from by omega)] at hkd
        have HKD := Lib.hid hkd
        have hnp : 0 < f.now.length := by omega
        clear hkd hlo hb0
        have HFL0 := Lib.hid (ref_flip_any f.now bit _ w5 HPR.out.1 hnl)
        go_upto_region 5 with (go_at_call 65; refine HFL0.out.mono ?_; rintro e w6 ⟨v6, rfl, hb6, hn6, hf6⟩; obtain ⟨a7, c7, hv7, hl7, hm7⟩ := hb6.form; rw [flipC_length] at hv7 hl7; subst hv7)
        have HB6' := Lib.hid (HB.out.below hf6)
        have HBY := Lib.hid hb6
        have HN6 := Lib.hid hn6
        have hq05 : q0 < w5.heap.size := (Array.getElem?_eq_some_iff.1 HB.out.b0).1
        have hq15 : q1 < w5.heap.size := by obtain ⟨_, _, _, _, _, _, _, _, hh⟩ := HB.out.b1; exact (Array.getElem?_eq_some_iff.1 hh).1
        have hn0 := HB.out.n0
        have hn1 := HB.out.n1
        have HFR6 := Lib.hid (HFI2.out.below hf6)
        have HPR6 := Lib.hid (HPR.out.kept hf6 (by simp))
        have hp16 := hf6.cell hp1 (by simp)
        have HP16 := Lib.hid hp16
        have HF6 := Lib.hid hf6
        clear hb6 hn6 hf6 hp16 hp0 hp1 y0 y1 y2 y3 y4 y5 y6 y7 z0 z1 z2 z3 z4 z5 z6 z7 t0 t1 t2 t3 t4 t5 t6 t7
        refine wp_region_Z [] 16 [(0, false), (1, false), (2, false), (3, false), (4, false), (5, false), (6, false), (7, false), (8, false), (9, false), (10, false), (11, false), (12, false), (13, false), (14, true), (15, true), (16, true)] 57 rfl (by kernel_rfl) (by kernel_rfl) (by kernel_rfl) (fun c a d v w h => by cases d <;> exact h) (fun wd hfd => ?_)
        simp only [List.map_cons, List.map_nil, List.getElem?_toArray, List.getElem?_cons_succ, List.getElem?_cons_zero, Option.getD_some]
        have HBD := Lib.hid (HB6'.out.below hfd)
        have LB : Hid (Later [] wd (fun w' => w'.heap[q0]? = some (.cells #[.slice a0 d.dn.length c0, .slice a1 d.ds.length c1, .slice a2 d.ops.length c2, .slice (some ⟨b0, off, none⟩) d.files.length c3, .int .i64 d.room, .int .i64 d.steps, .bool d.down, .slice a4 d.armed.length c4] 34 (0, 0)))) := Lib.hid (fun w' hf' => hf'.heap HBD.out.b0 (by simp))
        have LC : Hid (Later [] wd (fun w' => w'.cell? ⟨b0, off + i * 2 + 1, none⟩ = some (.slice ay f.safe.length cy))) := Lib.hid (fun w' hf' => hf'.cell (hfd.cell HP16.out (by simp)) (by simp))
        have HFD := Lib.hid hfd
        clear hfd
        repeat (apply walkZ_t; · (intro w' hf'; obtain ⟨y0, y1, y2, y3, y4, y5, y6, y7⟩ := eight_of_heap (LB.out w' hf'); have k1 := LC.out w' hf'; go_wp2_with fail; exact ⟨rfl, rfl⟩))
        obtain ⟨D9, hD9⟩ : ∃ D9, D9 = D ++ (Value.slice a7 f.now.length c7).ownBlock.toList := ⟨_, rfl⟩
        have hDD : ∀ j ∈ D, j ∈ D9 := fun j hj => by rw [hD9]; simp [hj]
        have hw5 := HB.out.fr.size
        have hw6 := HF6.out.size
        have hDn : ∀ j ∈ D9, (j ∈ D ∨ w.heap.size ≤ j) ∧ j < wd.heap.size := fun j hj => by
          rw [hD9, List.mem_append] at hj
          rcases hj with q | q
          · have h1 := HRK.out.lt j q; have h2 := HBD.out.fr.size; exact ⟨.inl q, by omega⟩
          · have h1 := HN6.out j (Option.mem_toList.1 q)
            have h2 := HFD.out.size
            refine ⟨.inr (by omega), ?_⟩
            have h3 := HBY.out.lt (List.length_pos_iff.1 (by rw [flipC_length]; omega)) j (Option.mem_toList.1 q)
            omega
        have hbt : bytesAt wd (.slice a7 f.safe.length c7) ((flipC f.now bit).take f.safe.length) := bytesAt.take (a := a7) (cap := c7) (by rw [flipC_length]; exact HBY.out.below HFD.out) (by rw [flipC_length]; exact hsl)
        have hown : (Value.slice a7 f.safe.length c7).ownBlock = (Value.slice a7 f.now.length c7).ownBlock := by cases a7 <;> rfl
        have hfr : fileR wd (.slice a7 f.now.length c7, .slice a7 f.safe.length c7) ⟨flipC f.now bit, (flipC f.now bit).take f.safe.length⟩ D9 :=
          ⟨HBY.out.below HFD.out, hbt, fun j hj _ => by rw [hD9]; simp [hj], fun j hj _ => by
            have hj' : (Value.slice a7 f.safe.length c7).ownBlock = some j := hj
            rw [hown] at hj'
            rw [hD9]; simp [hj']⟩
        have hset := kset_any d.files D9 _ i _ _ ⟨flipC f.now bit, (flipC f.now bit).take f.safe.length⟩ wd ((HFR6.out.below HFD.out).mono hDD) hil hfl hfr
        have HQN : Hid (∀ j ∈ D9, j ≠ q0 ∧ j ≠ q1) := Lib.hid (fun j hj => by
          rw [hD9, List.mem_append] at hj
          rcases hj with q | q
          · have h1 := HRK.out.lt j q; omega
          · have h1 := HN6.out j (Option.mem_toList.1 q); omega)
        have HSET := Lib.hid hset
        have HDN := Lib.hid hDn
        clear hset hfr hbt hown hDn hDD hD9
        refine walkZ_x ?_
        go_wp2_with (go_at_call 60; refine HSET.out.mono ?_; rintro e w7 ⟨v7, rfl, hfl7, hf7⟩; obtain ⟨a6, c6, hv6⟩ := hfl7.slice; rw [List.length_set] at hv6; subst hv6)
        refine ⟨.inr hf7, rfl, ?_⟩
        have HB6 := Lib.hid (HBD.out.below hf7)
        have HFL6 := Lib.hid hfl7
        have h77 := hf7.size
        clear hfl7 hf7
        obtain ⟨y0, y1, y2, y3, y4, y5, y6, y7⟩ := eight_of_heap HB6.out.b0
        obtain ⟨g0, g1, g2, g3, g4, g5, g6, g7⟩ := eight_free HB6.out.b0
        refine walkZ_x ?_
        go_wp2_with fail
        refine ⟨Fr.refl _ _, rfl, ?_⟩
        refine walkZ_x ?_
        go_wp2_with fail
        refine ⟨rfl, walkZ_end ?_⟩
        have HDB : Hid (∀ k ∈ D9, k ≠ q0 ∧ k ≠ q1) := Lib.hid (fun k hk => by
          have h2 := HB6.out.n0
          have h3 := HB6.out.n1
          have h4 := HQN.out k hk
          exact h4)
        have hDq0 : ∀ k ∈ D9, k ≠ q0 := fun k hk => by have h1 := HDB.out k hk; omega
        have hDq1 : ∀ k ∈ D9, k ≠ q1 := fun k hk => by have h1 := HDB.out k hk; omega
        have hf90 := Fr.set0 w7 q0 3 (.slice a6 d.files.length c6)
        have hB10 : Boxes w q0 q1 #[.slice a0 d.dn.length c0, .slice a1 d.ds.length c1, .slice a2 d.ops.length c2, .slice a6 d.files.length c6, .int .i64 d.room, .int .i64 d.steps, .bool d.down, .slice a4 d.armed.length c4] _ := HB6.out.write hf90 (heap_setCell_same HB6.out.b0 _)
        have hfl10 := HFL6.out.box HB6.out.b0 hDq0 hf90
        generalize hw10 : w7.setCell ⟨q0, 3, none⟩ (.slice a6 d.files.length c6) = wq10 at hB10 hf90 hfl10 ⊢
        have HS90 := Lib.hid hf90.size
        have HFL := Lib.hid hfl10
        have HDQ := Lib.hid hDq1
        clear hw10 hf90 hfl10 hDq0 hDq1 g0 g1 g2 g3 g4 g5 g6 g7
        clear HB
        have HB := Lib.hid hB10
        clear hB10 y0 y1 y2 y3 y4 y5 y6 y7
        obtain ⟨y0, y1, y2, y3, y4, y5, y6, y7⟩ := eight_of_heap HB.out.b0
        obtain ⟨z0, z1, z2, z3, z4, z5, z6, z7⟩ := HB.out.free1
        obtain ⟨r0', r1', r2', r3', r4', r5', r6', r7', hr1⟩ := HB.out.b1
        obtain ⟨t0, t1, t2, t3, t4, t5, t6, t7⟩ := eight_of_heap hr1
        clear hr1
        go_wp2_with fail
        have hr := HB.out.result (.slice a0 d.dn.length c0) (.slice a1 d.ds.length c1) (.slice a2 d.ops.length c2) (.slice a6 d.files.length c6) (.int .i64 d.room) (.int .i64 d.steps) (.bool d.down) (.slice a4 d.armed.length c4)
        refine bodyPost_ret (results_cell2 rfl _ _ q1 34 _ _ rfl hr.1 Tryz.underlying34 rfl sizeK (.bool true) rfl) rfl ?_
        rw [HKD.out]
        exact dskd_put0 HRK.out (HFL.out.result HB.out HDQ.out _ _ _ _ _ _ _ _) (fun k hk => (HDN.out k hk).1) (fun k hk => by have h1 := (HDN.out k hk).2; have h2 := HS90.out; have h3 := (Fr.set8 wq10 q1 (.slice a0 d.dn.length c0) (.slice a1 d.ds.length c1) (.slice a2 d.ops.length c2) (.slice a6 d.files.length c6) (.int .i64 d.room) (.int .i64 d.steps) (.bool d.down) (.slice a4 d.armed.length c4)).size; omega) hr.2
end Go.Proofs.YtmchnaojlnjmjaaGreat
