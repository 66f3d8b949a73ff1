/- The document's parser (layer 13): rule. Written by wip/tools/gen_pra.py. -/
import Derived.Test.YtgfpkmnmdehkpaaGreatDt
import Derived.Test.YtgfpkmnmdehkpaaGreatLs
import Derived.Test.YtgfpkmnmdehkpaaGreatPs
set_option linter.unusedVariables false
set_option linter.unusedSimpArgs false
namespace Go.Proofs.YtgfpkmnmdehkpaaGreat
open Go.RowKit

theorem infoItem : (Tryz.prog.info? 76).map (fun i => (i.zero, i.size, i.bytes)) = some (some (.agg #[.bool false, .string ⟨#[]⟩]), 2, 24) := by kernel_rfl
theorem infoAlt : (Tryz.prog.info? 74).map (fun i => (i.zero, i.size, i.bytes)) = some (some (.slice none 0 0), 1, 24) := by kernel_rfl
theorem sizeLine : (Tryz.prog.info? 69).map (·.size) = some 2 := by kernel_rfl
/-- What rule gives. -/
def RRule (ts : List TokD) (base : Nat) (R : RuleD) (w : World) (e : Ending) (w' : World) : Prop :=
  ∃ nv av, e = .returned (.tuple #[.agg #[nv, av], .int .i64 ((ts.length - R.left.length : Nat) : Int), .bool R.ok]) ∧ (R.ok = true → nv = encStr R.line.name ∧ altsR 76 74 w' base av R.line.alts) ∧ (∃ n x y z, nv = encStr n ∧ av = .slice x y z) ∧ Fr [] w w'
/-- In rule's loop. -/
def RRuleRel (w : World) (q7 q4 : Nat) (ts : List TokD) (name : List UInt8) (R : BodyD) (a0 : Nat) (kv cv : Value) (wx : World) : Prop :=
  ∃ (k : Nat) (cur : List ItemD) (done : List (List ItemD)) (dv : Value) (wb : World), a0 ≤ k ∧ k ≤ ts.length ∧ cur.length + done.length ≤ k ∧ kv = .int .i64 (k : Int) ∧ bodyD (fromK ts k) cur done = R ∧
    wb.heap[q7]? = some (.cells #[encStr name, dv] 69 (0, 0)) ∧ (∃ x y, wb.heap[q4]? = some (.cells #[x, y] 69 (0, 0))) ∧ altsR 76 74 wb w.heap.size dv done ∧ wx.ownsRow wb.heap.size 76 2 cv cur.length (cur.map ItemD.cells).flatten ∧ Fr [] w wb ∧ Fr [] wb wx
/-- The alternative is put behind the others, and the line's cell is written. -/
theorem bar_step {w wr w5 : World} {q7 q4 : Nat} {nv dv cv v' x y : Value} {done : List (List ItemD)} {cur : List ItemD} {vs : List Value} (hq7 : w.heap.size ≤ q7) (hq74 : q4 ≠ q7)
    (hb7 : wr.heap[q7]? = some (.cells #[nv, dv] 69 (0, 0))) (hb4 : wr.heap[q4]? = some (.cells #[x, y] 69 (0, 0))) (e : vs.length = done.length) (hr : wr.ownsRow w.heap.size 74 1 dv done.length vs) (hi : ∀ i (h : i < vs.length) (h' : i < done.length), itemsR 76 wr w.heap.size (vs[i]'h) (done[i]'h'))
    (hc : itemsR 76 wr w.heap.size cv cur) (h5 : w5.ownsRow w.heap.size 74 1 v' (done.length + 1) (vs ++ [cv])) (hf5 : Fr dv.ownBlock.toList wr w5) (hf : Fr [] w wr) :
    (w5.setCell ⟨q7, 1, none⟩ v').heap[q7]? = some (.cells #[nv, v'] 69 (0, 0)) ∧ (w5.setCell ⟨q7, 1, none⟩ v').heap[q4]? = some (.cells #[x, y] 69 (0, 0)) ∧ altsR 76 74 (w5.setCell ⟨q7, 1, none⟩ v') w.heap.size v' (done ++ [cur]) ∧ Fr [] w (w5.setCell ⟨q7, 1, none⟩ v') := by
  have n7 : q7 ∉ dv.ownBlock.toList := fun hm => notT_row hr (t := 69) (by decide) q7 hm _ _ _ hb7 rfl
  have n4 : q4 ∉ dv.ownBlock.toList := fun hm => notT_row hr (t := 69) (by decide) q4 hm _ _ _ hb4 rfl
  have h7 := hf5.heap hb7 n7
  have h4 := hf5.heap hb4 n4
  have hs := Fr.set0 w5 q7 1 v'
  have tI := notT_row hr (t := 76) (by decide)
  have bI : notT w5 [q7] 76 := notT_box h7 (by decide)
  have bA : notT w5 [q7] 74 := notT_box h7 (by decide)
  refine ⟨?_, hs.heap h4 (by simpa using hq74), (altsR_snoc e h5 (fun i a b => (hi i a b).kept tI hf5) (hc.kept tI hf5)).kept bI bA hs, ?_⟩
  · exact heap_setCell_same h7 (i := 1) v'
  · have hown : ∀ i ∈ dv.ownBlock.toList, w.heap.size ≤ i := fun i hi => (hr.lt i (Option.mem_toList.1 hi)).1
    exact (hf.new hf5 hown).new hs (fun i hi => by have : i = q7 := (by simpa using hi); omega)
set_option maxRecDepth 100000 in
set_option maxHeartbeats 4000000 in
theorem rrule_any (ts : List TokD) (tv : Value) (w : World) (h : toksAt w tv ts) (hl : ts.length ≤ 1000000) (a : Nat) (ha : a < ts.length) (R : RuleD) (hR : R = ruleD (fromK ts a)) : Calls Tryz.prog 44 #[tv, .int .i64 (a : Int)] w (RRule ts w.heap.size R w) := by
  obtain ⟨i0, hi0, hz0, hz1, hz2⟩ := info_parts infoItem
  obtain ⟨i1, hi1, hy0, hy1, hy2⟩ := info_parts infoAlt
  obtain ⟨av0, cap0, rfl, hcl, hcm⟩ := h.form
  have HT := Lib.hid h
  obtain ⟨b, off, rfl, k0, k1, -⟩ := tok_cells h a ha
  have hf4 := Fr.alloc w (.cells #[.string { data := #[] }, .slice none 0 0] 69)
  have hb4 := heap_alloc_new w (.cells #[.string { data := #[] }, .slice none 0 0] 69)
  obtain ⟨w1, hw1⟩ : ∃ w1, w1 = w.alloc (.cells #[.string { data := #[] }, .slice none 0 0] 69) := ⟨_, rfl⟩
  obtain ⟨q4, hq4⟩ : ∃ q4, q4 = w.heap.size := ⟨_, rfl⟩
  have hs1 : w1.heap.size = q4 + 1 := by rw [hw1, hq4, World.size_alloc]
  rw [← hw1] at hf4 hb4
  rw [← hq4] at hb4
  have hf7 := Fr.alloc w1 (.cells #[.string { data := #[] }, .slice none 0 0] 69)
  have hb7 := heap_alloc_new w1 (.cells #[.string { data := #[] }, .slice none 0 0] 69)
  obtain ⟨w2, hw2⟩ : ∃ w2, w2 = w1.alloc (.cells #[.string { data := #[] }, .slice none 0 0] 69) := ⟨_, rfl⟩
  obtain ⟨q7, hq7⟩ : ∃ q7, q7 = w1.heap.size := ⟨_, rfl⟩
  rw [← hw2] at hf7 hb7
  rw [← hq7] at hb7
  have hn74 : q4 ≠ q7 := by omega
  have hw7 : w.heap.size ≤ q7 := by omega
  have hw4 : w.heap.size ≤ q4 := by omega
  have hb4' := hf7.heap hb4 (by simp)
  have hf2 := hf4.trans hf7 (by simp) (n := []) (by simp)
  obtain ⟨t0, ht0⟩ : ∃ t0, t0 = ts[a]'ha := ⟨_, rfl⟩
  rw [← ht0] at k0 k1
  obtain ⟨K, TX, AX⟩ := t0
  simp only at k0 k1
  have hkk : fromK ts a = (K, TX) :: fromK ts (a + 1) := by rw [fromK_cons ha, ← ht0]; rfl
  have HKK := Lib.hid hkk
  have HR := Lib.hid hR
  have HB4 := Lib.hid hb4'
  have HB7 := Lib.hid hb7
  have HF2 := Lib.hid hf2
  have HW1 := Lib.hid hw1
  have HW2 := Lib.hid hw2
  have HQ4 := Lib.hid hq4
  have HQ7 := Lib.hid hq7
  have j0 := hf2.cell k0 (by simp)
  have j1 := hf2.cell k1 (by simp)
  obtain ⟨x0, x1, x2, x3⟩ := two_of_box hb7
  obtain ⟨y0, y1, y2, y3⟩ := two_of_box hb4'
  clear h hf4 hb4 hf7 hb7 hb4' hf2 k0 k1 ht0 hkk hR hw1 hw2 hq4 hq7 hs1
  go_enter Tryz.func44, Tryz.ntmps44
  go_upto_region 1 with fail
  rw [← HW1.out, ← HQ4.out]
  go_upto_region 2 with fail
  rw [← HW2.out, ← HQ7.out]
  clear HW1 HW2 HQ4 HQ7
  by_cases hK : K = 1
  · have e1 : (K == 1) = true := by rw [hK]; rfl
    have n1 : (K != 1) = false := by rw [hK]; rfl
    have HRN := Lib.hid (show R = nameD TX (fromK ts (a + 1)) by rw [HR.out, HKK.out]; exact rule_yes hK)
    clear hK
    go_upto_region 5 with fail
    have hs3 := Fr.set0 w2 q7 0 (encStr TX)
    have hb73 : (w2.setCell ⟨q7, 0, none⟩ (encStr TX)).heap[q7]? = some (.cells #[encStr TX, .slice none 0 0] 69 (0, 0)) := heap_setCell_same HB7.out (i := 0) (encStr TX)
    have hb43 := hs3.heap HB4.out (by simpa using hn74)
    have hf3 := HF2.out.new hs3 (fun i hi => by have : i = q7 := (by simpa using hi); omega)
    generalize hw3 : w2.setCell ⟨q7, 0, none⟩ (encStr TX) = w3 at hs3 hb73 hb43 hf3 ⊢
    clear hw3 hs3 x0 x1 x2 x3 y0 y1 y2 y3 j0 j1 HB7 HB4
    obtain ⟨x0, x1, x2, x3⟩ := two_of_box hb73
    obtain ⟨y0, y1, y2, y3⟩ := two_of_box hb43
    have HB7 := Lib.hid hb73
    have HB4 := Lib.hid hb43
    have HF3 := Lib.hid hf3
    clear hb73 hb43 hf3
    by_cases hend : a + 1 < ts.length
    · have hd1 : decide ((ts.length : Int) ≤ (a : Int) + 1) = false := decide_eq_false (by omega)
      obtain ⟨b2, off2, hbe, l0, l1, -⟩ := tok_cells (HT.out.below HF3.out) (a + 1) hend
      cases hbe
      obtain ⟨t1, ht1⟩ : ∃ t1, t1 = ts[a + 1]'hend := ⟨_, rfl⟩
      rw [← ht1] at l0 l1
      obtain ⟨K1, TX1, AX1⟩ := t1
      simp only at l0 l1
      have l0' : w3.cell? ⟨b, off + (a * 3 + 3), none⟩ = some (.int .i64 K1) := by rw [show a * 3 + 3 = (a + 1) * 3 from by omega]; exact l0
      have hkk1 : fromK ts (a + 1) = (K1, TX1) :: fromK ts (a + 2) := by rw [fromK_cons hend, ← ht1]; rfl
      have HK1 := Lib.hid hkk1
      clear hkk1 ht1 l1
      by_cases hK1 : K1 = 3
      · have e3 : (K1 == 3) = true := by rw [hK1]; rfl
        have n3 : (K1 != 3) = false := by rw [hK1]; rfl
        obtain ⟨Y, hY⟩ : ∃ Y, Y = bodyD (fromK ts (a + 2)) [] [] := ⟨_, rfl⟩
        have HRB := Lib.hid (show R = ⟨Y.ok, ⟨TX, Y.alts⟩, Y.left⟩ by rw [HRN.out, HK1.out, hY]; exact name_yes hK1)
        have HY := Lib.hid hY
        clear hK1 hY
        go_upto_region 10 with fail
        have hal : altsR 76 74 w3 w.heap.size (.slice none 0 0) [] := altsR.nil _ _ _ _
        have HTS := Lib.hid (fun wx (hx : Fr [] w wx) => HT.out.below hx)
        clear x0 x1 x2 x3 y0 y1 y2 y3 l0 l0'
        go_loopw [1, 8] (RRuleRel w q7 q4 ts TX Y (a + 2)) (fun kv _ _ => ts.length - (intOf kv).toNat)
        case atStart => exact ⟨a + 2, [], [], .slice none 0 0, w3, Nat.le_refl _, by omega, by simp, by go_num, HY.out.symm, HB7.out, ⟨_, _, HB4.out⟩, hal, World.ownsRow_nil _ _ _ _, HF3.out, Fr.refl _ _⟩
        case round =>
          clear hal
          obtain ⟨k, cur, done, dv, wb, hk0, hk, hcd, rfl, hbd, hx7, ⟨ex, ey, hx4⟩, hda, hcu, hfb, hfx⟩ := hrel
          obtain ⟨ad, cd, rfl, hd1', hd2'⟩ := hda.slice
          have hd63 : cd ≤ 9223372036854775807 := by simpa [maxLen] using hd2'
          obtain ⟨ac, cc, rfl, hc1', hc2'⟩ := owns_slice hcu
          have hc63 : cc ≤ 9223372036854775807 := by simpa [maxLen] using hc2'
          have hf := hfb.trans hfx (by simp) (n := []) (by simp)
          have hr7 := hfx.heap hx7 (by simp)
          have hr4 := hfx.heap hx4 (by simp)
          have hdr := hda.below hfx
          obtain ⟨x0, x1, x2, x3⟩ := two_of_box hr7
          obtain ⟨y0, y1, y2, y3⟩ := two_of_box hr4
          have hws := hf.size
          have hwb := hfb.size
          have hwx := hfx.size
          have HBD := Lib.hid hbd
          have HX7 := Lib.hid hx7
          have HX4 := Lib.hid hx4
          have HDA := Lib.hid hda
          have HCU := Lib.hid hcu
          have HFB := Lib.hid hfb
          have HFX := Lib.hid hfx
          have HF := Lib.hid hf
          have HR7 := Lib.hid hr7
          have HR4 := Lib.hid hr4
          have HDR := Lib.hid hdr
          have HCR : Hid (itemsR 76 wr w.heap.size (.slice ac cur.length cc) cur) := Lib.hid (owns_base hcu (fun j hj => by have := (hcu.lt j hj).1; omega))
          clear hbd hx7 hx4 hda hcu hfb hfx hf hr7 hr4 hdr
          by_cases hkn : k < ts.length
          · have hd5 : decide (k < ts.length) = true := decide_eq_true hkn
            obtain ⟨b3, off3, hbe, k0, k1, -⟩ := tok_cells (HTS.out wr HF.out) k hkn
            cases hbe
            obtain ⟨t2, ht2⟩ : ∃ t2, t2 = ts[k]'hkn := ⟨_, rfl⟩
            rw [← ht2] at k0 k1
            obtain ⟨K2, TX2, AX2⟩ := t2
            simp only at k0 k1
            have hkk2 : fromK ts k = (K2, TX2) :: fromK ts (k + 1) := by rw [fromK_cons hkn, ← ht2]; rfl
            have HBD2 := Lib.hid (show bodyD ((K2, TX2) :: fromK ts (k + 1)) cur done = Y by rw [← hkk2]; exact HBD.out)
            have HKK2 := Lib.hid hkk2
            clear ht2 hkk2
            by_cases h12 : K2 = 1 ∨ K2 = 2
            · have HBI := Lib.hid (show bodyD (fromK ts (k + 1)) (cur ++ [⟨decide (K2 = 2), TX2⟩]) done = Y by rw [← HBD2.out]; exact (body_item (t := (K2, TX2)) h12).symm)
              rcases h12 with h1 | h1
              · have q1 : (K2 == 1) = true := by rw [h1]; rfl
                have q2 : (K2 == 2) = false := by rw [h1]; rfl
                have q3 : decide (K2 = 2) = false := decide_eq_false (by omega)
                rw [q3] at HBI
                clear h1 q3
                go_wp2_with (at_builtin; refine wpL_appendS rfl _ _ 74 rfl wb.heap.size 76 i0 _ 2 24 Tryz.underlying74 hi0 hz0 hz1 hz2 (by rfl) (by decide) (.slice ac cur.length cc) cur.length _ rfl HCU.out (ItemD.cells ⟨false, TX2⟩) rfl (by intro u hu; simp [ItemD.cells] at hu; rcases hu with rfl | rfl <;> rfl) rfl (by omega) (by simp [maxLen]; omega) hwx ?_; intro v5 w5 hown5 hf5 hb5)
                have hf3 := (Fr.alloc wr (.cells (ItemD.cells ⟨false, TX2⟩).toArray 76)).trans hf5 (by simp) (fun _ hk _ => hk)
                have hf6 : Fr [] wb w5 := HFX.out.own HCU.out hf3
                exact ⟨⟨k + 1, cur ++ [⟨false, TX2⟩], done, _, wb, by omega, by omega, by simp; omega, by go_num, HBI.out, HX7.out, ⟨_, _, HX4.out⟩, HDA.out, by simpa using hown5, HFB.out, hf6⟩, by simp [intOf]; omega⟩
              · have q1 : (K2 == 1) = false := by rw [h1]; rfl
                have q2 : (K2 == 2) = true := by rw [h1]; rfl
                have q3 : decide (K2 = 2) = true := decide_eq_true h1
                rw [q3] at HBI
                clear h1 q3
                go_wp2_with (at_builtin; refine wpL_appendS rfl _ _ 74 rfl wb.heap.size 76 i0 _ 2 24 Tryz.underlying74 hi0 hz0 hz1 hz2 (by rfl) (by decide) (.slice ac cur.length cc) cur.length _ rfl HCU.out (ItemD.cells ⟨true, TX2⟩) rfl (by intro u hu; simp [ItemD.cells] at hu; rcases hu with rfl | rfl <;> rfl) rfl (by omega) (by simp [maxLen]; omega) hwx ?_; intro v5 w5 hown5 hf5 hb5)
                have hf3 := (Fr.alloc wr (.cells (ItemD.cells ⟨true, TX2⟩).toArray 76)).trans hf5 (by simp) (fun _ hk _ => hk)
                have hf6 : Fr [] wb w5 := HFX.out.own HCU.out hf3
                exact ⟨⟨k + 1, cur ++ [⟨true, TX2⟩], done, _, wb, by omega, by omega, by simp; omega, by go_num, HBI.out, HX7.out, ⟨_, _, HX4.out⟩, HDA.out, by simpa using hown5, HFB.out, hf6⟩, by simp [intOf]; omega⟩
            · have q1 : (K2 == 1) = false := by rw [beq_eq_false_iff_ne]; omega
              have q2 : (K2 == 2) = false := by rw [beq_eq_false_iff_ne]; omega
              by_cases h4 : K2 = 4
              · have q4' : (K2 == 4) = true := by rw [h4]; rfl
                have HBR := Lib.hid (show bodyD (fromK ts (k + 1)) [] (done ++ [cur]) = Y by rw [← HBD2.out]; exact (body_bar (t := (K2, TX2)) h4).symm)
                clear h12 h4
                obtain ⟨vs, hve, hvr, hvi⟩ := HDR.out
                have HVR := Lib.hid hvr
                have HVI := Lib.hid hvi
                clear hvr hvi
                go_wp2_with (at_builtin; refine wpL_append1 rfl _ _ 67 rfl w.heap.size 74 i1 _ 24 Tryz.underlying67 hi1 hy0 hy1 hy2 rfl _ done.length vs rfl HVR.out (.slice ac cur.length cc) rfl rfl (by omega) (by simp [maxLen]; omega) hws ?_; intro v5 w5 hown5 hf5 hb5; have n7 : q7 ∉ (Value.slice ad done.length cd).ownBlock.toList := fun hm => notT_row HVR.out (t := 69) (by decide) q7 hm _ _ _ HR7.out rfl; obtain ⟨z0, z1, z2, z3⟩ := two_of_box (hf5.heap HR7.out n7); obtain ⟨a5, c5, rfl, -, -⟩ := owns_slice hown5)
                obtain ⟨g7, g4, gA, gF⟩ := bar_step (w := w) (q7 := q7) (q4 := q4) hw7 hn74 HR7.out HR4.out hve HVR.out HVI.out HCR.out hown5 hf5 HF.out
                exact ⟨⟨k + 1, [], done ++ [cur], _, _, by omega, by omega, by simp; omega, by go_num, HBR.out, g7, ⟨_, _, g4⟩, gA, World.ownsRow_nil _ _ _ _, gF, Fr.refl _ _⟩, by simp [intOf]; omega⟩
              · have q4' : (K2 == 4) = false := by rw [beq_eq_false_iff_ne]; exact h4
                by_cases h5 : K2 = 5
                · have q5 : (K2 == 5) = true := by rw [h5]; rfl
                  have HBS := Lib.hid (show Y = ⟨true, done ++ [cur], fromK ts (k + 1)⟩ by rw [← HBD2.out]; exact body_semi (t := (K2, TX2)) h5)
                  clear h12 h4 h5
                  obtain ⟨vs, hve, hvr, hvi⟩ := HDR.out
                  have HVR := Lib.hid hvr
                  have HVI := Lib.hid hvi
                  clear hvr hvi
                  go_wp2_with (at_builtin; refine wpL_append1 rfl _ _ 67 rfl w.heap.size 74 i1 _ 24 Tryz.underlying67 hi1 hy0 hy1 hy2 rfl _ done.length vs rfl HVR.out (.slice ac cur.length cc) rfl rfl (by omega) (by simp [maxLen]; omega) hws ?_; intro v5 w5 hown5 hf5 hb5; have n7 : q7 ∉ (Value.slice ad done.length cd).ownBlock.toList := fun hm => notT_row HVR.out (t := 69) (by decide) q7 hm _ _ _ HR7.out rfl; have n4 : q4 ∉ (Value.slice ad done.length cd).ownBlock.toList := fun hm => notT_row HVR.out (t := 69) (by decide) q4 hm _ _ _ HR4.out rfl; obtain ⟨zz0, zz1, zz2, zz3⟩ := two_of_box (hf5.heap HR4.out n4); obtain ⟨z0, z1, z2, z3⟩ := two_of_box (hf5.heap HR7.out n7); obtain ⟨a5, c5, rfl, -, -⟩ := owns_slice hown5)
                  obtain ⟨g7, g4, gA, gF⟩ := bar_step (w := w) (q7 := q7) (q4 := q4) hw7 hn74 HR7.out HR4.out hve HVR.out HVI.out HCR.out hown5 hf5 HF.out
                  have HLL := Lib.hid (show ts.length - (fromK ts (k + 1)).length = k + 1 by rw [fromK_len]; omega)
                  have hRR : R = ⟨true, ⟨TX, done ++ [cur]⟩, fromK ts (k + 1)⟩ := by rw [HRB.out, HBS.out]
                  have hs0 := Fr.set0 (w5.setCell ⟨q7, 1, none⟩ (.slice a5 (done.length + 1) c5)) q4 0 (encStr TX)
                  have hs1 := Fr.set0 ((w5.setCell ⟨q7, 1, none⟩ (.slice a5 (done.length + 1) c5)).setCell ⟨q4, 0, none⟩ (encStr TX)) q4 1 (.slice a5 (done.length + 1) c5)
                  have hss := hs0.trans hs1 (fun _ z _ => z) (fun _ z _ => z)
                  refine bodyPost_ret (results_cell3 rfl _ _ q4 69 _ _ rfl (line_set g4) Tryz.underlying69 rfl sizeLine (.int .i64 ((k : Int) + 1)) (.bool true) rfl rfl) rfl ⟨encStr TX, .slice a5 (done.length + 1) c5, ?_, fun hh => ⟨?_, ?_⟩, ⟨_, _, _, _, rfl, rfl⟩, gF.new hss (fun i hi => by have : i = q4 := (by simpa using hi); omega)⟩
                  · rw [hRR]; simp only [HLL.out]; rfl
                  · rw [hRR]
                  · rw [hRR]
                    exact gA.kept (notT_box g4 (by decide)) (notT_box g4 (by decide)) hss
                · have q5 : (K2 == 5) = false := by rw [beq_eq_false_iff_ne]; exact h5
                  have HRR := Lib.hid (show R = ⟨false, ⟨TX, []⟩, fromK ts k⟩ by rw [HRB.out, ← HBD2.out, body_bad (t := (K2, TX2)) (fun e => h12 (.inl e)) (fun e => h12 (.inr e)) h4 h5, HKK2.out])
                  have HLL := Lib.hid (show ts.length - (fromK ts k).length = k by rw [fromK_len]; omega)
                  clear h12 h4 h5
                  go_wp2_with fail
                  refine bodyPost_ret (results_cell3 rfl _ _ q4 69 _ _ rfl (line_set HR4.out) Tryz.underlying69 rfl sizeLine (.int .i64 (k : Int)) (.bool false) rfl rfl) rfl ⟨encStr TX, .slice ad done.length cd, ?_, fun hh => ?_, ⟨_, _, _, _, rfl, rfl⟩, HF.out.new ((Fr.set0 _ q4 0 _).trans (Fr.set0 _ q4 1 _) (fun _ z _ => z) (fun _ z _ => z)) (fun i hi => by have : i = q4 := (by simpa using hi); omega)⟩
                  · rw [HRR.out]; simp only [HLL.out]
                  · rw [HRR.out] at hh; cases hh
          · have hd5 : decide (k < ts.length) = false := decide_eq_false hkn
            obtain rfl : k = ts.length := by omega
            have HRR := Lib.hid (show R = ⟨false, ⟨TX, []⟩, []⟩ by rw [HRB.out, ← HBD.out, fromK_end]; rfl)
            have HLL := Lib.hid (show ts.length - ([] : List Tk).length = ts.length by simp)
            go_wp2_with fail
            refine bodyPost_ret (results_cell3 rfl _ _ q4 69 _ _ rfl (line_set HR4.out) Tryz.underlying69 rfl sizeLine (.int .i64 (ts.length : Int)) (.bool false) rfl rfl) rfl ⟨encStr TX, .slice ad done.length cd, ?_, fun hh => ?_, ⟨_, _, _, _, rfl, rfl⟩, HF.out.new ((Fr.set0 _ q4 0 _).trans (Fr.set0 _ q4 1 _) (fun _ z _ => z) (fun _ z _ => z)) (fun i hi => by have : i = q4 := (by simpa using hi); omega)⟩
            · rw [HRR.out]; simp only [HLL.out]
            · rw [HRR.out] at hh; cases hh
      · have e3 : (K1 == 3) = false := by rw [beq_eq_false_iff_ne]; exact hK1
        have n3 : (K1 != 3) = true := by rw [bne_iff_ne]; exact hK1
        have HRR := Lib.hid (show R = ⟨false, ⟨[], []⟩, fromK ts (a + 1)⟩ by rw [HRN.out, HK1.out]; exact name_no hK1)
        have HLL := Lib.hid (show ts.length - (fromK ts (a + 1)).length = a + 1 by rw [fromK_len]; omega)
        clear hK1
        go_wp2_with fail
        refine bodyPost_ret (results_cell3 rfl _ _ q4 69 _ _ rfl (line_set HB4.out) Tryz.underlying69 rfl sizeLine (.int .i64 ((a : Int) + 1)) (.bool false) rfl rfl) rfl ⟨encStr TX, .slice none 0 0, ?_, fun hh => ?_, ⟨_, _, _, _, rfl, rfl⟩, HF3.out.new ((Fr.set0 _ q4 0 _).trans (Fr.set0 _ q4 1 _) (fun _ z _ => z) (fun _ z _ => z)) (fun i hi => by have : i = q4 := (by simpa using hi); omega)⟩
        · rw [HRR.out]; simp only [HLL.out]; rfl
        · rw [HRR.out] at hh; cases hh
    · have hd1 : decide ((ts.length : Int) ≤ (a : Int) + 1) = true := decide_eq_true (by omega)
      have hnil : fromK ts (a + 1) = [] := by rw [show a + 1 = ts.length from by omega]; exact fromK_end ts
      have HRR := Lib.hid (show R = ⟨false, ⟨[], []⟩, []⟩ by rw [HRN.out, hnil]; rfl)
      have HLL := Lib.hid (show ts.length - ([] : List Tk).length = a + 1 by simp; omega)
      clear hend hnil
      go_wp2_with fail
      refine bodyPost_ret (results_cell3 rfl _ _ q4 69 _ _ rfl (line_set HB4.out) Tryz.underlying69 rfl sizeLine (.int .i64 ((a : Int) + 1)) (.bool false) rfl rfl) rfl ⟨encStr TX, .slice none 0 0, ?_, fun hh => ?_, ⟨_, _, _, _, rfl, rfl⟩, HF3.out.new ((Fr.set0 _ q4 0 _).trans (Fr.set0 _ q4 1 _) (fun _ z _ => z) (fun _ z _ => z)) (fun i hi => by have : i = q4 := (by simpa using hi); omega)⟩
      · rw [HRR.out]; simp only [HLL.out]; rfl
      · rw [HRR.out] at hh; cases hh
  · have e1 : (K == 1) = false := by rw [beq_eq_false_iff_ne]; exact hK
    have n1 : (K != 1) = true := by rw [bne_iff_ne]; exact hK
    have HRR := Lib.hid (show R = ⟨false, ⟨[], []⟩, fromK ts a⟩ by rw [HR.out, HKK.out]; exact rule_no hK)
    have HLL := Lib.hid (show ts.length - (fromK ts a).length = a by rw [fromK_len]; omega)
    clear hK
    go_wp2_with fail
    refine bodyPost_ret (results_cell3 rfl _ _ q4 69 _ _ rfl (line_set HB4.out) Tryz.underlying69 rfl sizeLine (.int .i64 (a : Int)) (.bool false) rfl rfl) rfl ⟨.string { data := #[] }, .slice none 0 0, ?_, fun hh => ?_, ⟨[], none, 0, 0, rfl, rfl⟩, HF2.out.new ((Fr.set0 _ q4 0 _).trans (Fr.set0 _ q4 1 _) (fun _ z _ => z) (fun _ z _ => z)) (fun i hi => by have : i = q4 := (by simpa using hi); omega)⟩
    · rw [HRR.out]; simp only [HLL.out]
    · rw [HRR.out] at hh; cases hh
end Go.Proofs.YtgfpkmnmdehkpaaGreat
