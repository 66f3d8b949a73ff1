/- The document's disk (layer 11): Arm (three orders of what it makes). Written by wip/tools/gen_dskJ.py. -/
import Derived.Test.YtmchnaojlnjmjaaGreatDskI
import Derived.Test.YtmchnaojlnjmjaaGreatBs
namespace Go.Proofs.YtmchnaojlnjmjaaGreat
open Go.RowKit Go.Maps

/-- Behind a function of the document's that gives the disk alone. -/
def Dsk1 (d : DskD) (D : List Nat) (w : World) (e : Ending) (w' : World) : Prop :=
  ∃ nv sv ov fv av D', e = .returned (kval nv sv ov fv av d) ∧ RK w' nv sv ov fv av d D' ∧ Fr [] w w' ∧ ∀ k ∈ D', k ∈ D ∨ w.heap.size ≤ k
theorem infoFt : (Tryz.prog.info? 107).map (fun i => (i.zero, i.size, i.bytes)) = some (some (.agg #[.int .i64 0, .int .i64 0]), 2, 16) := by kernel_rfl
theorem one_faults (l : List FltD) : ∀ u ∈ fcells l, u.oneCell' = true := by
  intro u hu
  obtain ⟨x, hx, hu⟩ := List.mem_flatten.1 hu
  obtain ⟨f, -, rfl⟩ := List.mem_map.1 hx
  simp only [FltD.cells, List.mem_cons, List.not_mem_nil, or_false] at hu
  rcases hu with rfl | rfl <;> rfl
theorem pair_src {w : World} {x : Nat} {a b : Value} {t : TypeId} (h : w.heap[x]? = some (.cells #[a, b] t (0, 0))) : ∀ j u, [a, b][j]? = some u → w.cell? ((⟨x, 0, none⟩ : Addr).add j) = some u := by
  intro j u hj
  have hadd : (⟨x, 0, none⟩ : Addr).add j = ⟨x, j, none⟩ := by unfold Addr.add; split <;> simp_all
  rw [hadd, cell_of_heap h]
  simpa using hj

set_option maxRecDepth 100000 in
set_option maxHeartbeats 2000000 in
theorem karm_any (nv sv ov fv av : Value) (d : DskD) (D : List Nat) (at_ kind : Int) (k : Nat) (w : World) (h : RK w nv sv ov fv av d D) (hk : OkK d k) (hkk : kindsOk d.armed) (hk6 : k ≤ 900) (hal : d.armed.length ≤ 1000) :
    Calls Tryz.prog 27 #[kval nv sv ov fv av d, .int .i64 at_, .int .i64 kind] w (Dsk1 (armK d at_ kind) D w) := by
  obtain ⟨ti, hti, hz0, hz1, hz2⟩ := info_parts infoFt
  have hst0 := hk.st0
  have hst1 := hk.st
  have hst : 0 ≤ d.steps ∧ d.steps ≤ 1000000 := ⟨hk.st0, by have := hk.st; omega⟩
  have HRK := Lib.hid h
  have HOK := Lib.hid hk
  have HKK := Lib.hid hkk
  obtain ⟨a0, c0, a1, c1, a2, c2, a3, c3, a4, c4, rfl, rfl, rfl, rfl, rfl⟩ := h.slices
  have hB := boxes_at w #[.slice a0 d.dn.length c0, .slice a1 d.ds.length c1, .slice a2 d.ops.length c2, .slice a3 d.files.length c3, .int .i64 d.room, .int .i64 d.steps, .bool d.down, .slice a4 d.armed.length c4]
  unfold kval
  clear h hk hkk hst
  go_enter Tryz.func27, Tryz.ntmps27
  go_upto_region 1 with fail
  unfold zeroK at hB
  obtain ⟨w2, hw2⟩ : ∃ w2, w2 = (w.alloc (.cells #[.slice a0 d.dn.length c0, .slice a1 d.ds.length c1, .slice a2 d.ops.length c2, .slice a3 d.files.length c3, .int .i64 d.room, .int .i64 d.steps, .bool d.down, .slice a4 d.armed.length c4] 34)).alloc (.cells #[.slice none 0 0, .slice none 0 0, .slice none 0 0, .slice none 0 0, .int .i64 0, .int .i64 0, .bool false, .slice none 0 0] 34) := ⟨_, rfl⟩
  rw [← hw2] at hB ⊢
  obtain ⟨q0, hq0⟩ : ∃ q, q = w.heap.size := ⟨_, rfl⟩
  obtain ⟨q1, hq1⟩ : ∃ q, q = w.heap.size + 1 := ⟨_, rfl⟩
  rw [← hq1, ← hq0] at hB
  rw [← hq1, ← hq0]
  clear hw2 hq0 hq1
  have HB := Lib.hid hB
  obtain ⟨y0, y1, y2, y3, y4, y5, y6, y7⟩ := eight_of_heap hB.b0
  obtain ⟨z0, z1, z2, z3, z4, z5, z6, z7⟩ := hB.free1
  obtain ⟨r0, r1, r2, r3, r4, r5, r6, r7, hr1⟩ := hB.b1
  obtain ⟨t0, t1, t2, t3, t4, t5, t6, t7⟩ := eight_of_heap hr1
  clear hr1 hB
  by_cases hc : 1 ≤ at_ ∧ at_ ≤ 1099511627776 ∧ 1 ≤ kind ∧ kind ≤ 3
  · have hkd : armK d at_ kind = { d with armed := d.armed ++ [⟨d.steps + at_, kind⟩] } := by unfold armK; rw [if_pos hc]
    obtain ⟨h1, h2, h3, h4⟩ := hc
    have e1 : decide (1 ≤ at_) = true := decide_eq_true h1
    have e2 : decide (at_ ≤ 1099511627776) = true := decide_eq_true h2
    have e3 : decide (1 ≤ kind) = true := decide_eq_true h3
    have e4 : decide (kind ≤ 3) = true := decide_eq_true h4
    have HKD := Lib.hid hkd
    clear hkd
    clear h3 h4
    go_upto_region 2 with fail
    have hfl : (fcells d.armed).length = d.armed.length * 2 := fcells_length _
    have HFLN := Lib.hid hfl
    have HONE := Lib.hid (one_faults d.armed)
    have hq0 : q0 < w2.heap.size := (Array.getElem?_eq_some_iff.1 HB.out.b0).1
    clear hfl y0 y1 y2 y3 y4 y5 y6 y7 z0 z1 z2 z3 z4 z5 z6 z7 t0 t1 t2 t3 t4 t5 t6 t7
    refine wp_region_VN (FrB w2.heap.size []) (FrB.refl _ _) 13 [1, 2, 4, 5, 6, 7, 8, 9] 6 35 rfl (by kernel_rfl) (by kernel_rfl) (by kernel_rfl) (fun c a d v w h => by cases d <;> exact h) (fun wd hfd hsd => ?_)
    simp only [List.map_cons, List.map_nil, List.getElem?_toArray, List.getElem?_cons_succ, List.getElem?_cons_zero, Option.getD_some]
    have LB : Hid (∀ w', FrB w2.heap.size [] wd w' → w'.heap[q0]? = some (.cells #[.slice a0 d.dn.length c0, .slice a1 d.ds.length c1, .slice a2 d.ops.length c2, .slice a3 d.files.length c3, .int .i64 d.room, .int .i64 d.steps, .bool d.down, .slice a4 d.armed.length c4] 34 (0, 0))) := Lib.hid (fun w' hf' => hf'.heap (hfd.heap HB.out.b0 (by simp)) hq0 (by simp))
    have FF0 := Lib.hid hfd
    have hs0 : w2.heap.size ≤ wd.heap.size := by omega
    clear hfd hsd
    repeat (apply walkVK_t; · (intro w' hf'; obtain ⟨y0, y1, y2, y3, y4, y5, y6, y7⟩ := eight_of_heap (LB.out w' hf'); go_wp2_with fail; exact ⟨rfl, rfl⟩))
    refine walkVK_end ?_
    refine anyZ_step (T := FrB w2.heap.size []) (z := 13) (fun _ _ _ => FrB.trans) [0, 10] (by kernel_rfl) (by simp) (fun ix hmi => ?_)
    simp only [List.mem_cons, List.not_mem_nil, or_false] at hmi
    rcases hmi with rfl | rfl
    · skip
      simp only [List.getElem?_toArray, List.getElem?_cons_succ, List.getElem?_cons_zero, Option.getD_some]
      go_wp2_with fail
      have he := owns_empty wd w2.heap.size 107 2 hs0
      have hf := Fr.alloc wd (.cells #[] 107)
      refine ⟨FrB.of hf hs0 (by simp), ?_⟩
      obtain ⟨wk1, hw⟩ : ∃ wk1, wk1 = wd.alloc (.cells #[] 107) := ⟨_, rfl⟩
      obtain ⟨e0, hee⟩ : ∃ e0, e0 = wd.heap.size := ⟨_, rfl⟩
      rw [← hw, ← hee]
      rw [← hw, ← hee] at he
      rw [← hw] at hf
      have hs1 : w2.heap.size ≤ wk1.heap.size := by have := hf.size; omega
      have hew : w2.heap.size ≤ e0 := by omega
      have EE := Lib.hid he
      have FF1 := Lib.hid (FF0.out.trans hf (by simp) (n := []) (by simp))
      clear he hf hw hee
      refine anyZ_step (T := FrB w2.heap.size []) (z := 13) (fun _ _ _ => FrB.trans) [3, 10] (by kernel_rfl) (by simp) (fun ix hmi => ?_)
      simp only [List.mem_cons, List.not_mem_nil, or_false] at hmi
      rcases hmi with rfl | rfl
      · skip
        simp only [List.getElem?_toArray, List.getElem?_cons_succ, List.getElem?_cons_zero, Option.getD_some]
        have HSRC := Lib.hid (owns_src (HRK.out.below (HB.out.fr.trans FF1.out (by simp) (n := []) (by simp))).armed)
        go_wp2_with (at_builtin; refine wpL_appendE rfl (.tmp 21) (.tmp 23) 32 rfl w2.heap.size 107 ti _ 2 16 Tryz.underlying32 hti hz0 hz1 hz2 (by rfl) (by decide) (.slice (some ⟨e0, 0, none⟩) 0 0) 0 [] rfl EE.out _ d.armed.length (fcells d.armed) rfl HFLN.out HONE.out HSRC.out (by omega) (by simp [maxLen]; omega) hs1 ?_; intro v5 wk2 ho hf; rw [Nat.zero_add, List.nil_append] at ho; obtain ⟨aR, cR, rfl, -, -⟩ := owns_slice ho)
        refine ⟨FrB.of hf hs1 (by simp [Value.ownBlock]; omega), ?_⟩
        have hs2 : w2.heap.size ≤ wk2.heap.size := by have := hf.size; omega
        have RR := Lib.hid ho
        have FF2 : Hid (Fr [] w2 wk2) := Lib.hid (FF1.out.trans hf (by simp) (by simp [Value.ownBlock]; omega))
        clear ho hf HSRC
        refine anyZ_step (T := FrB w2.heap.size []) (z := 13) (fun _ _ _ => FrB.trans) [10] (by kernel_rfl) (by simp) (fun ix hmi => ?_)
        simp only [List.mem_cons, List.not_mem_nil, or_false] at hmi
        rcases hmi with rfl
        simp only [List.getElem?_toArray, List.getElem?_cons_succ, List.getElem?_cons_zero, Option.getD_some]
        go_wp2_with fail
        have hx := heap_alloc_new wk2 (.cells #[.int .i64 (d.steps + at_), .int .i64 kind] 107)
        have hf := Fr.alloc wk2 (.cells #[.int .i64 (d.steps + at_), .int .i64 kind] 107)
        refine ⟨FrB.of hf hs2 (by simp), ?_⟩
        obtain ⟨wk3, hw⟩ : ∃ wk3, wk3 = wk2.alloc (.cells #[.int .i64 (d.steps + at_), .int .i64 kind] 107) := ⟨_, rfl⟩
        obtain ⟨x0, hee⟩ : ∃ x0, x0 = wk2.heap.size := ⟨_, rfl⟩
        rw [← hw, ← hee]
        rw [← hw, ← hee] at hx
        rw [← hw] at hf
        have hs3 : w2.heap.size ≤ wk3.heap.size := by have := hf.size; omega
        have XX := Lib.hid hx
        have FF3 := Lib.hid (FF2.out.trans hf (by simp) (n := []) (by simp))
        replace RR := Lib.hid (owns_kept RR.out hf (by simp))
        clear hx hf hw hee
        refine anyZ_step (T := FrB w2.heap.size []) (z := 13) (fun _ _ _ => FrB.trans) [11] (by kernel_rfl) (by simp) (fun ix hmi => ?_)
        simp only [List.mem_cons, List.not_mem_nil, or_false] at hmi
        rcases hmi with rfl
        simp only [List.getElem?_toArray, List.getElem?_cons_succ, List.getElem?_cons_zero, Option.getD_some]
        go_wp2_with (at_builtin; refine wpL_appendE rfl (.tmp 24) (.tmp 31) 32 rfl w2.heap.size 107 ti _ 2 16 Tryz.underlying32 hti hz0 hz1 hz2 (by rfl) (by decide) (.slice aR d.armed.length cR) d.armed.length _ rfl RR.out _ 1 [.int .i64 (d.steps + at_), .int .i64 kind] rfl rfl (by intro u hu; simp at hu; rcases hu with rfl | rfl <;> rfl) (.inr ⟨⟨x0, 0, none⟩, 1, rfl, pair_src XX.out⟩) (by omega) (by simp [maxLen]; omega) hs3 ?_; intro v6 wk4 ho hf; obtain ⟨a5, c5, rfl, -, -⟩ := owns_slice ho)
        have hRl : ∀ j ∈ (Value.slice aR d.armed.length cR).ownBlock.toList, w2.heap.size ≤ j := fun j hj => (RR.out.lt j (Option.mem_toList.1 hj)).1
        refine ⟨FrB.of hf hs3 (fun j hj hlt => by have := hRl j hj; omega), ?_⟩
        have hs4 : w2.heap.size ≤ wk4.heap.size := by have := hf.size; omega
        have FF4 : Hid (Fr [] w2 wk4) := Lib.hid (FF3.out.trans hf (by simp) (fun j hj hlt => by have := hRl j hj; omega))
        replace RR := Lib.hid ho
        clear ho hf hRl XX
        refine anyZ_step (T := FrB w2.heap.size []) (z := 13) (fun _ _ _ => FrB.trans) [12] (by kernel_rfl) (by simp) (fun ix hmi => ?_)
        simp only [List.mem_cons, List.not_mem_nil, or_false] at hmi
        rcases hmi with rfl
        simp only [List.getElem?_toArray, List.getElem?_cons_succ, List.getElem?_cons_zero, Option.getD_some]
        go_wp2_with fail
        refine ⟨FrB.refl _ _ _, ?_⟩
        have HBK := Lib.hid (HB.out.below FF4.out)
        obtain ⟨y0, y1, y2, y3, y4, y5, y6, y7⟩ := eight_of_heap HBK.out.b0
        obtain ⟨g0, g1, g2, g3, g4, g5, g6, g7⟩ := eight_free HBK.out.b0
        refine anyZ_last (by kernel_rfl) (by kernel_rfl) ?_
        simp only [List.getElem?_toArray, List.getElem?_cons_succ, List.getElem?_cons_zero, Option.getD_some]
        go_wp2_with fail
        dsimp only [GQ]
        have hf90 := Fr.set0 wk4 q0 7 (.slice a5 (d.armed.length + 1) c5)
        have hB10 : Boxes w q0 q1 #[.slice a0 d.dn.length c0, .slice a1 d.ds.length c1, .slice a2 d.ops.length c2, .slice a3 d.files.length c3, .int .i64 d.room, .int .i64 d.steps, .bool d.down, .slice a5 (d.armed.length + 1) c5] _ := HBK.out.write hf90 (heap_setCell_same HBK.out.b0 _)
        have har : armedR wk4 (.slice a5 (d.armed.length + 1) c5) (d.armed ++ [⟨d.steps + at_, kind⟩]) := by
          unfold armedR
          rw [List.length_append, fcells_append]
          exact owns_base RR.out (fun _ _ => Nat.zero_le _)
        have har10 := armed_box har HBK.out.b0 hf90
        generalize hw10 : wk4.setCell ⟨q0, 7, none⟩ (.slice a5 (d.armed.length + 1) c5) = wq10 at hB10 hf90 har10 ⊢
        have HAR := Lib.hid har10
        clear hw10 hf90 har har10 g0 g1 g2 g3 g4 g5 g6 g7 y0 y1 y2 y3 y4 y5 y6 y7
        have HBL := Lib.hid hB10
        clear hB10
        obtain ⟨y0, y1, y2, y3, y4, y5, y6, y7⟩ := eight_of_heap HBL.out.b0
        obtain ⟨z0, z1, z2, z3, z4, z5, z6, z7⟩ := HBL.out.free1
        obtain ⟨r0', r1', r2', r3', r4', r5', r6', r7', hr1⟩ := HBL.out.b1
        have HR1 := Lib.hid hr1
        obtain ⟨t0, t1, t2, t3, t4, t5, t6, t7⟩ := eight_of_heap hr1
        clear hr1
        go_wp2_with fail
        have hr := HBL.out.result (.slice a0 d.dn.length c0) (.slice a1 d.ds.length c1) (.slice a2 d.ops.length c2) (.slice a3 d.files.length c3) (.int .i64 d.room) (.int .i64 d.steps) (.bool d.down) (.slice a5 (d.armed.length + 1) c5)
        refine bodyPost_ret (results_cell_row rfl _ _ q1 34 _ (0, 0) _ rfl hr.1 Tryz.underlying34 rfl sizeK) rfl ?_
        rw [HKD.out]
        exact ⟨_, _, _, _, _, D, rfl, ⟨(HRK.out.below hr.2).dir, (HRK.out.below hr.2).files, armed_box HAR.out HR1.out (Fr.set8 wq10 q1 _ _ _ _ _ _ _ _), (HRK.out.below hr.2).lt⟩, hr.2, fun k hk => .inl hk⟩
      · skip
        simp only [List.getElem?_toArray, List.getElem?_cons_succ, List.getElem?_cons_zero, Option.getD_some]
        go_wp2_with fail
        have hx := heap_alloc_new wk1 (.cells #[.int .i64 (d.steps + at_), .int .i64 kind] 107)
        have hf := Fr.alloc wk1 (.cells #[.int .i64 (d.steps + at_), .int .i64 kind] 107)
        refine ⟨FrB.of hf hs1 (by simp), ?_⟩
        obtain ⟨wk2, hw⟩ : ∃ wk2, wk2 = wk1.alloc (.cells #[.int .i64 (d.steps + at_), .int .i64 kind] 107) := ⟨_, rfl⟩
        obtain ⟨x0, hee⟩ : ∃ x0, x0 = wk1.heap.size := ⟨_, rfl⟩
        rw [← hw, ← hee]
        rw [← hw, ← hee] at hx
        rw [← hw] at hf
        have hs2 : w2.heap.size ≤ wk2.heap.size := by have := hf.size; omega
        have XX := Lib.hid hx
        have FF2 := Lib.hid (FF1.out.trans hf (by simp) (n := []) (by simp))
        have hxe : x0 ≠ e0 := by have := (EE.out.lt e0 rfl).2; omega
        replace EE := Lib.hid (owns_kept EE.out hf (by simp))
        clear hx hf hw hee
        refine anyZ_step (T := FrB w2.heap.size []) (z := 13) (fun _ _ _ => FrB.trans) [3] (by kernel_rfl) (by simp) (fun ix hmi => ?_)
        simp only [List.mem_cons, List.not_mem_nil, or_false] at hmi
        rcases hmi with rfl
        simp only [List.getElem?_toArray, List.getElem?_cons_succ, List.getElem?_cons_zero, Option.getD_some]
        have HSRC := Lib.hid (owns_src (HRK.out.below (HB.out.fr.trans FF2.out (by simp) (n := []) (by simp))).armed)
        go_wp2_with (at_builtin; refine wpL_appendE rfl (.tmp 21) (.tmp 23) 32 rfl w2.heap.size 107 ti _ 2 16 Tryz.underlying32 hti hz0 hz1 hz2 (by rfl) (by decide) (.slice (some ⟨e0, 0, none⟩) 0 0) 0 [] rfl EE.out _ d.armed.length (fcells d.armed) rfl HFLN.out HONE.out HSRC.out (by omega) (by simp [maxLen]; omega) hs2 ?_; intro v5 wk3 ho hf; rw [Nat.zero_add, List.nil_append] at ho; obtain ⟨aR, cR, rfl, -, -⟩ := owns_slice ho)
        refine ⟨FrB.of hf hs2 (by simp [Value.ownBlock]; omega), ?_⟩
        have hs3 : w2.heap.size ≤ wk3.heap.size := by have := hf.size; omega
        have RR := Lib.hid ho
        have FF3 : Hid (Fr [] w2 wk3) := Lib.hid (FF2.out.trans hf (by simp) (by simp [Value.ownBlock]; omega))
        replace XX := Lib.hid (hf.heap XX.out (by simpa [Value.ownBlock] using hxe))
        clear ho hf HSRC
        refine anyZ_step (T := FrB w2.heap.size []) (z := 13) (fun _ _ _ => FrB.trans) [11] (by kernel_rfl) (by simp) (fun ix hmi => ?_)
        simp only [List.mem_cons, List.not_mem_nil, or_false] at hmi
        rcases hmi with rfl
        simp only [List.getElem?_toArray, List.getElem?_cons_succ, List.getElem?_cons_zero, Option.getD_some]
        go_wp2_with (at_builtin; refine wpL_appendE rfl (.tmp 24) (.tmp 31) 32 rfl w2.heap.size 107 ti _ 2 16 Tryz.underlying32 hti hz0 hz1 hz2 (by rfl) (by decide) (.slice aR d.armed.length cR) d.armed.length _ rfl RR.out _ 1 [.int .i64 (d.steps + at_), .int .i64 kind] rfl rfl (by intro u hu; simp at hu; rcases hu with rfl | rfl <;> rfl) (.inr ⟨⟨x0, 0, none⟩, 1, rfl, pair_src XX.out⟩) (by omega) (by simp [maxLen]; omega) hs3 ?_; intro v6 wk4 ho hf; obtain ⟨a5, c5, rfl, -, -⟩ := owns_slice ho)
        have hRl : ∀ j ∈ (Value.slice aR d.armed.length cR).ownBlock.toList, w2.heap.size ≤ j := fun j hj => (RR.out.lt j (Option.mem_toList.1 hj)).1
        refine ⟨FrB.of hf hs3 (fun j hj hlt => by have := hRl j hj; omega), ?_⟩
        have hs4 : w2.heap.size ≤ wk4.heap.size := by have := hf.size; omega
        have FF4 : Hid (Fr [] w2 wk4) := Lib.hid (FF3.out.trans hf (by simp) (fun j hj hlt => by have := hRl j hj; omega))
        replace RR := Lib.hid ho
        clear ho hf hRl XX
        refine anyZ_step (T := FrB w2.heap.size []) (z := 13) (fun _ _ _ => FrB.trans) [12] (by kernel_rfl) (by simp) (fun ix hmi => ?_)
        simp only [List.mem_cons, List.not_mem_nil, or_false] at hmi
        rcases hmi with rfl
        simp only [List.getElem?_toArray, List.getElem?_cons_succ, List.getElem?_cons_zero, Option.getD_some]
        go_wp2_with fail
        refine ⟨FrB.refl _ _ _, ?_⟩
        have HBK := Lib.hid (HB.out.below FF4.out)
        obtain ⟨y0, y1, y2, y3, y4, y5, y6, y7⟩ := eight_of_heap HBK.out.b0
        obtain ⟨g0, g1, g2, g3, g4, g5, g6, g7⟩ := eight_free HBK.out.b0
        refine anyZ_last (by kernel_rfl) (by kernel_rfl) ?_
        simp only [List.getElem?_toArray, List.getElem?_cons_succ, List.getElem?_cons_zero, Option.getD_some]
        go_wp2_with fail
        dsimp only [GQ]
        have hf90 := Fr.set0 wk4 q0 7 (.slice a5 (d.armed.length + 1) c5)
        have hB10 : Boxes w q0 q1 #[.slice a0 d.dn.length c0, .slice a1 d.ds.length c1, .slice a2 d.ops.length c2, .slice a3 d.files.length c3, .int .i64 d.room, .int .i64 d.steps, .bool d.down, .slice a5 (d.armed.length + 1) c5] _ := HBK.out.write hf90 (heap_setCell_same HBK.out.b0 _)
        have har : armedR wk4 (.slice a5 (d.armed.length + 1) c5) (d.armed ++ [⟨d.steps + at_, kind⟩]) := by
          unfold armedR
          rw [List.length_append, fcells_append]
          exact owns_base RR.out (fun _ _ => Nat.zero_le _)
        have har10 := armed_box har HBK.out.b0 hf90
        generalize hw10 : wk4.setCell ⟨q0, 7, none⟩ (.slice a5 (d.armed.length + 1) c5) = wq10 at hB10 hf90 har10 ⊢
        have HAR := Lib.hid har10
        clear hw10 hf90 har har10 g0 g1 g2 g3 g4 g5 g6 g7 y0 y1 y2 y3 y4 y5 y6 y7
        have HBL := Lib.hid hB10
        clear hB10
        obtain ⟨y0, y1, y2, y3, y4, y5, y6, y7⟩ := eight_of_heap HBL.out.b0
        obtain ⟨z0, z1, z2, z3, z4, z5, z6, z7⟩ := HBL.out.free1
        obtain ⟨r0', r1', r2', r3', r4', r5', r6', r7', hr1⟩ := HBL.out.b1
        have HR1 := Lib.hid hr1
        obtain ⟨t0, t1, t2, t3, t4, t5, t6, t7⟩ := eight_of_heap hr1
        clear hr1
        go_wp2_with fail
        have hr := HBL.out.result (.slice a0 d.dn.length c0) (.slice a1 d.ds.length c1) (.slice a2 d.ops.length c2) (.slice a3 d.files.length c3) (.int .i64 d.room) (.int .i64 d.steps) (.bool d.down) (.slice a5 (d.armed.length + 1) c5)
        refine bodyPost_ret (results_cell_row rfl _ _ q1 34 _ (0, 0) _ rfl hr.1 Tryz.underlying34 rfl sizeK) rfl ?_
        rw [HKD.out]
        exact ⟨_, _, _, _, _, D, rfl, ⟨(HRK.out.below hr.2).dir, (HRK.out.below hr.2).files, armed_box HAR.out HR1.out (Fr.set8 wq10 q1 _ _ _ _ _ _ _ _), (HRK.out.below hr.2).lt⟩, hr.2, fun k hk => .inl hk⟩
    · skip
      simp only [List.getElem?_toArray, List.getElem?_cons_succ, List.getElem?_cons_zero, Option.getD_some]
      go_wp2_with fail
      have hx := heap_alloc_new wd (.cells #[.int .i64 (d.steps + at_), .int .i64 kind] 107)
      have hf := Fr.alloc wd (.cells #[.int .i64 (d.steps + at_), .int .i64 kind] 107)
      refine ⟨FrB.of hf hs0 (by simp), ?_⟩
      obtain ⟨wk1, hw⟩ : ∃ wk1, wk1 = wd.alloc (.cells #[.int .i64 (d.steps + at_), .int .i64 kind] 107) := ⟨_, rfl⟩
      obtain ⟨x0, hee⟩ : ∃ x0, x0 = wd.heap.size := ⟨_, rfl⟩
      rw [← hw, ← hee]
      rw [← hw, ← hee] at hx
      rw [← hw] at hf
      have hs1 : w2.heap.size ≤ wk1.heap.size := by have := hf.size; omega
      have XX := Lib.hid hx
      have FF1 := Lib.hid (FF0.out.trans hf (by simp) (n := []) (by simp))
      clear hx hf hw hee
      refine anyZ_step (T := FrB w2.heap.size []) (z := 13) (fun _ _ _ => FrB.trans) [0] (by kernel_rfl) (by simp) (fun ix hmi => ?_)
      simp only [List.mem_cons, List.not_mem_nil, or_false] at hmi
      rcases hmi with rfl
      simp only [List.getElem?_toArray, List.getElem?_cons_succ, List.getElem?_cons_zero, Option.getD_some]
      go_wp2_with fail
      have he := owns_empty wk1 w2.heap.size 107 2 hs1
      have hf := Fr.alloc wk1 (.cells #[] 107)
      refine ⟨FrB.of hf hs1 (by simp), ?_⟩
      obtain ⟨wk2, hw⟩ : ∃ wk2, wk2 = wk1.alloc (.cells #[] 107) := ⟨_, rfl⟩
      obtain ⟨e0, hee⟩ : ∃ e0, e0 = wk1.heap.size := ⟨_, rfl⟩
      rw [← hw, ← hee]
      rw [← hw, ← hee] at he
      rw [← hw] at hf
      have hs2 : w2.heap.size ≤ wk2.heap.size := by have := hf.size; omega
      have hew : w2.heap.size ≤ e0 := by omega
      have EE := Lib.hid he
      have FF2 := Lib.hid (FF1.out.trans hf (by simp) (n := []) (by simp))
      have hxe : x0 ≠ e0 := by have := (Array.getElem?_eq_some_iff.1 XX.out).1; omega
      replace XX := Lib.hid (hf.heap XX.out (by simp))
      clear he hf hw hee
      refine anyZ_step (T := FrB w2.heap.size []) (z := 13) (fun _ _ _ => FrB.trans) [3] (by kernel_rfl) (by simp) (fun ix hmi => ?_)
      simp only [List.mem_cons, List.not_mem_nil, or_false] at hmi
      rcases hmi with rfl
      simp only [List.getElem?_toArray, List.getElem?_cons_succ, List.getElem?_cons_zero, Option.getD_some]
      have HSRC := Lib.hid (owns_src (HRK.out.below (HB.out.fr.trans FF2.out (by simp) (n := []) (by simp))).armed)
      go_wp2_with (at_builtin; refine wpL_appendE rfl (.tmp 21) (.tmp 23) 32 rfl w2.heap.size 107 ti _ 2 16 Tryz.underlying32 hti hz0 hz1 hz2 (by rfl) (by decide) (.slice (some ⟨e0, 0, none⟩) 0 0) 0 [] rfl EE.out _ d.armed.length (fcells d.armed) rfl HFLN.out HONE.out HSRC.out (by omega) (by simp [maxLen]; omega) hs2 ?_; intro v5 wk3 ho hf; rw [Nat.zero_add, List.nil_append] at ho; obtain ⟨aR, cR, rfl, -, -⟩ := owns_slice ho)
      refine ⟨FrB.of hf hs2 (by simp [Value.ownBlock]; omega), ?_⟩
      have hs3 : w2.heap.size ≤ wk3.heap.size := by have := hf.size; omega
      have RR := Lib.hid ho
      have FF3 : Hid (Fr [] w2 wk3) := Lib.hid (FF2.out.trans hf (by simp) (by simp [Value.ownBlock]; omega))
      replace XX := Lib.hid (hf.heap XX.out (by simpa [Value.ownBlock] using hxe))
      clear ho hf HSRC
      refine anyZ_step (T := FrB w2.heap.size []) (z := 13) (fun _ _ _ => FrB.trans) [11] (by kernel_rfl) (by simp) (fun ix hmi => ?_)
      simp only [List.mem_cons, List.not_mem_nil, or_false] at hmi
      rcases hmi with rfl
      simp only [List.getElem?_toArray, List.getElem?_cons_succ, List.getElem?_cons_zero, Option.getD_some]
      go_wp2_with (at_builtin; refine wpL_appendE rfl (.tmp 24) (.tmp 31) 32 rfl w2.heap.size 107 ti _ 2 16 Tryz.underlying32 hti hz0 hz1 hz2 (by rfl) (by decide) (.slice aR d.armed.length cR) d.armed.length _ rfl RR.out _ 1 [.int .i64 (d.steps + at_), .int .i64 kind] rfl rfl (by intro u hu; simp at hu; rcases hu with rfl | rfl <;> rfl) (.inr ⟨⟨x0, 0, none⟩, 1, rfl, pair_src XX.out⟩) (by omega) (by simp [maxLen]; omega) hs3 ?_; intro v6 wk4 ho hf; obtain ⟨a5, c5, rfl, -, -⟩ := owns_slice ho)
      have hRl : ∀ j ∈ (Value.slice aR d.armed.length cR).ownBlock.toList, w2.heap.size ≤ j := fun j hj => (RR.out.lt j (Option.mem_toList.1 hj)).1
      refine ⟨FrB.of hf hs3 (fun j hj hlt => by have := hRl j hj; omega), ?_⟩
      have hs4 : w2.heap.size ≤ wk4.heap.size := by have := hf.size; omega
      have FF4 : Hid (Fr [] w2 wk4) := Lib.hid (FF3.out.trans hf (by simp) (fun j hj hlt => by have := hRl j hj; omega))
      replace RR := Lib.hid ho
      clear ho hf hRl XX
      refine anyZ_step (T := FrB w2.heap.size []) (z := 13) (fun _ _ _ => FrB.trans) [12] (by kernel_rfl) (by simp) (fun ix hmi => ?_)
      simp only [List.mem_cons, List.not_mem_nil, or_false] at hmi
      rcases hmi with rfl
      simp only [List.getElem?_toArray, List.getElem?_cons_succ, List.getElem?_cons_zero, Option.getD_some]
      go_wp2_with fail
      refine ⟨FrB.refl _ _ _, ?_⟩
      have HBK := Lib.hid (HB.out.below FF4.out)
      obtain ⟨y0, y1, y2, y3, y4, y5, y6, y7⟩ := eight_of_heap HBK.out.b0
      obtain ⟨g0, g1, g2, g3, g4, g5, g6, g7⟩ := eight_free HBK.out.b0
      refine anyZ_last (by kernel_rfl) (by kernel_rfl) ?_
      simp only [List.getElem?_toArray, List.getElem?_cons_succ, List.getElem?_cons_zero, Option.getD_some]
      go_wp2_with fail
      dsimp only [GQ]
      have hf90 := Fr.set0 wk4 q0 7 (.slice a5 (d.armed.length + 1) c5)
      have hB10 : Boxes w q0 q1 #[.slice a0 d.dn.length c0, .slice a1 d.ds.length c1, .slice a2 d.ops.length c2, .slice a3 d.files.length c3, .int .i64 d.room, .int .i64 d.steps, .bool d.down, .slice a5 (d.armed.length + 1) c5] _ := HBK.out.write hf90 (heap_setCell_same HBK.out.b0 _)
      have har : armedR wk4 (.slice a5 (d.armed.length + 1) c5) (d.armed ++ [⟨d.steps + at_, kind⟩]) := by
        unfold armedR
        rw [List.length_append, fcells_append]
        exact owns_base RR.out (fun _ _ => Nat.zero_le _)
      have har10 := armed_box har HBK.out.b0 hf90
      generalize hw10 : wk4.setCell ⟨q0, 7, none⟩ (.slice a5 (d.armed.length + 1) c5) = wq10 at hB10 hf90 har10 ⊢
      have HAR := Lib.hid har10
      clear hw10 hf90 har har10 g0 g1 g2 g3 g4 g5 g6 g7 y0 y1 y2 y3 y4 y5 y6 y7
      have HBL := Lib.hid hB10
      clear hB10
      obtain ⟨y0, y1, y2, y3, y4, y5, y6, y7⟩ := eight_of_heap HBL.out.b0
      obtain ⟨z0, z1, z2, z3, z4, z5, z6, z7⟩ := HBL.out.free1
      obtain ⟨r0', r1', r2', r3', r4', r5', r6', r7', hr1⟩ := HBL.out.b1
      have HR1 := Lib.hid hr1
      obtain ⟨t0, t1, t2, t3, t4, t5, t6, t7⟩ := eight_of_heap hr1
      clear hr1
      go_wp2_with fail
      have hr := HBL.out.result (.slice a0 d.dn.length c0) (.slice a1 d.ds.length c1) (.slice a2 d.ops.length c2) (.slice a3 d.files.length c3) (.int .i64 d.room) (.int .i64 d.steps) (.bool d.down) (.slice a5 (d.armed.length + 1) c5)
      refine bodyPost_ret (results_cell_row rfl _ _ q1 34 _ (0, 0) _ rfl hr.1 Tryz.underlying34 rfl sizeK) rfl ?_
      rw [HKD.out]
      exact ⟨_, _, _, _, _, D, rfl, ⟨(HRK.out.below hr.2).dir, (HRK.out.below hr.2).files, armed_box HAR.out HR1.out (Fr.set8 wq10 q1 _ _ _ _ _ _ _ _), (HRK.out.below hr.2).lt⟩, hr.2, fun k hk => .inl hk⟩
  · have hkd : armK d at_ kind = d := by unfold armK; rw [if_neg hc]
    have HKD := Lib.hid hkd
    clear hkd
    by_cases h0 : 1 ≤ at_
    · have e0 : decide (1 ≤ at_) = true := decide_eq_true h0
      by_cases h1 : at_ ≤ 1099511627776
      · have e1 : decide (at_ ≤ 1099511627776) = true := decide_eq_true h1
        by_cases h2 : 1 ≤ kind
        · have e2 : decide (1 ≤ kind) = true := decide_eq_true h2
          have h3' : ¬ kind ≤ 3 := fun q => hc ⟨h0, h1, h2, q⟩
          have e3 : decide (kind ≤ 3) = false := decide_eq_false h3'
          clear hc h0 h1 h2 h3'
          go_wp2_with fail
          have hr := HB.out.result (.slice a0 d.dn.length c0) (.slice a1 d.ds.length c1) (.slice a2 d.ops.length c2) (.slice a3 d.files.length c3) (.int .i64 d.room) (.int .i64 d.steps) (.bool d.down) (.slice a4 d.armed.length c4)
          refine bodyPost_ret (results_cell_row rfl _ _ q1 34 _ (0, 0) _ rfl hr.1 Tryz.underlying34 rfl sizeK) rfl ?_
          rw [HKD.out]
          exact ⟨_, _, _, _, _, D, rfl, HRK.out.below hr.2, hr.2, fun k hk => .inl hk⟩
        · have e2 : decide (1 ≤ kind) = false := decide_eq_false h2
          clear hc h2
          go_wp2_with fail
          have hr := HB.out.result (.slice a0 d.dn.length c0) (.slice a1 d.ds.length c1) (.slice a2 d.ops.length c2) (.slice a3 d.files.length c3) (.int .i64 d.room) (.int .i64 d.steps) (.bool d.down) (.slice a4 d.armed.length c4)
          refine bodyPost_ret (results_cell_row rfl _ _ q1 34 _ (0, 0) _ rfl hr.1 Tryz.underlying34 rfl sizeK) rfl ?_
          rw [HKD.out]
          exact ⟨_, _, _, _, _, D, rfl, HRK.out.below hr.2, hr.2, fun k hk => .inl hk⟩
      · have e1 : decide (at_ ≤ 1099511627776) = false := decide_eq_false h1
        clear hc h1
        go_wp2_with fail
        have hr := HB.out.result (.slice a0 d.dn.length c0) (.slice a1 d.ds.length c1) (.slice a2 d.ops.length c2) (.slice a3 d.files.length c3) (.int .i64 d.room) (.int .i64 d.steps) (.bool d.down) (.slice a4 d.armed.length c4)
        refine bodyPost_ret (results_cell_row rfl _ _ q1 34 _ (0, 0) _ rfl hr.1 Tryz.underlying34 rfl sizeK) rfl ?_
        rw [HKD.out]
        exact ⟨_, _, _, _, _, D, rfl, HRK.out.below hr.2, hr.2, fun k hk => .inl hk⟩
    · have e0 : decide (1 ≤ at_) = false := decide_eq_false h0
      clear hc h0
      go_wp2_with fail
      have hr := HB.out.result (.slice a0 d.dn.length c0) (.slice a1 d.ds.length c1) (.slice a2 d.ops.length c2) (.slice a3 d.files.length c3) (.int .i64 d.room) (.int .i64 d.steps) (.bool d.down) (.slice a4 d.armed.length c4)
      refine bodyPost_ret (results_cell_row rfl _ _ q1 34 _ (0, 0) _ rfl hr.1 Tryz.underlying34 rfl sizeK) rfl ?_
      rw [HKD.out]
      exact ⟨_, _, _, _, _, D, rfl, HRK.out.below hr.2, hr.2, fun k hk => .inl hk⟩
end Go.Proofs.YtmchnaojlnjmjaaGreat
