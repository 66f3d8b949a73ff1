/- The document's parser (layer 13): All. Written by wip/tools/gen_prb.py. -/
import Derived.Test.YtgfpkmnmdehkpaaGreatParA
import Derived.Test.YtgfpkmnmdehkpaaGreatDt
import Derived.Test.YtgfpkmnmdehkpaaGreatLexE
import Derived.BigQuiet
import Derived.Test.YtgfpkmnmdehkpaaGreatPs
set_option linter.unusedVariables false
set_option linter.unusedSimpArgs false
namespace Go.Proofs.YtgfpkmnmdehkpaaGreat
open Go.RowKit
theorem infoLine : (Tryz.prog.info? 69).map (fun i => (i.zero, i.size, i.bytes)) = some (some (.agg #[.string ⟨#[]⟩, .slice none 0 0]), 2, 40) := by kernel_rfl
def RParRel (w : World) (ts : List TokD) (X : LinesD) (ov kv : Value) (wx : World) : Prop :=
  ∃ (k : Nat) (acc : List LineD), k ≤ ts.length ∧ acc.length ≤ k ∧ kv = .int .i64 (k : Int) ∧ linesR 76 74 69 wx w.heap.size ov acc ∧ linesB acc (linesD (fromK ts k)) = X ∧ Fr [] w wx
set_option maxRecDepth 100000 in
set_option maxHeartbeats 4000000 in
theorem rpar_any (m : List UInt8) (hm : m.length ≤ 1000000) (w : World) : Calls Tryz.prog 18 #[encStr m] w (RPar (parD m) w) := by
  obtain ⟨i0, hi0, hz0, hz1, hz2⟩ := info_parts infoLine
  have HAL := Lib.hid (fun wx => rall_any m hm wx)
  have hlen : (allD m).toks.length ≤ 1000000 := by
    unfold allD
    split
    · simp
    · have := (lex_len (r := m) (p := 0)).1; omega
  obtain ⟨P, hP⟩ : ∃ P, P = parD m := ⟨_, rfl⟩
  rw [← hP]
  unfold parD at hP
  obtain ⟨L, hL⟩ : ∃ L, L = allD m := ⟨_, rfl⟩
  rw [← hL] at HAL hP hlen
  clear hL
  obtain ⟨ts, at0, er⟩ := L
  simp only at hP hlen
  obtain ⟨X, hX⟩ : ∃ X, X = linesD (ts.map TokD.tk) := ⟨_, rfl⟩
  rw [← hX] at hP
  by_cases her : er = 0
  · have q1 : (er == 0) = true := by rw [her]; rfl
    have q2 : (er != 0) = false := by rw [her]; rfl
    rw [if_neg (by simp [her])] at hP
    have hst : linesB [] (linesD (fromK ts 0)) = X := by
      have : fromK ts 0 = ts.map TokD.tk := rfl
      rw [this, ← hX]
      unfold linesB
      split
      · next h => 
        rw [List.nil_append]
        have hl0 : X.left = 0 := by
          rw [hX] at h ⊢
          cases hts : ts.map TokD.tk with
          | nil => rw [lines_nil]
          | cons t q =>
            rw [hts] at h
            cases hk : (ruleD (t :: q)).ok with
            | true =>
              rw [lines_ok (by simp) hk] at h ⊢
              split
              · rfl
              · next hq => rw [if_neg hq] at h; exact absurd h hq
            | false => rw [lines_no (by simp) hk] at h; cases h
        cases X
        simp only at h hl0
        rw [h, hl0]
      · rfl
    have HP := Lib.hid hP
    have HST := Lib.hid hst
    clear hP hX hst her
    go_enter Tryz.func18, Tryz.ntmps18
    go_upto_region 2 with (go_at_call 43; refine (HAL.out _).mono ?_; rintro e w1 ⟨v1, rfl, ht1, hf1⟩)
    obtain ⟨a1, c1, rfl, hc1, hm1⟩ := ht1.form
    have HT := Lib.hid ht1
    have HF1 := Lib.hid hf1
    clear ht1 hf1
    go_wp2_with fail
    go_loopw [8, 9] (RParRel w1 ts X) (fun _ kv _ => ts.length - (intOf kv).toNat)
    case atStart => exact ⟨0, [], Nat.zero_le _, Nat.le_refl _, rfl, linesR.nil _ _ _ _ _, HST.out, Fr.refl _ _⟩
    case round =>
      obtain ⟨k, acc, hk, hac, rfl, hln, hbd, hf⟩ := hrel
      obtain ⟨vs, hve, hvr, hvi⟩ := hln
      obtain ⟨a2, c2, rfl, hc2, hm2⟩ := owns_slice hvr
      have hm2' : c2 ≤ 9223372036854775807 := by simpa [maxLen] using hm2
      have hws := hf.size
      have HVR := Lib.hid hvr
      have HVI := Lib.hid hvi
      have HBD := Lib.hid hbd
      have HF := Lib.hid hf
      clear hvr hvi hbd hf hm2
      by_cases hkn : k < ts.length
      · have hd3 : decide (k < ts.length) = true := decide_eq_true hkn
        have hne : fromK ts k ≠ [] := by rw [fromK_cons hkn]; simp
        obtain ⟨Y, hY⟩ : ∃ Y, Y = ruleD (fromK ts k) := ⟨_, rfl⟩
        have hrl := (rule_left (fromK ts k))
        have hrf := rule_from (ts := ts) (k := k) hk
        have hru := rrule_any ts _ wr (HT.out.below HF.out) hlen k hkn Y hY
        rw [← hY, fromK_len] at hrl
        rw [← hY] at hrf
        obtain ⟨p, hp⟩ : ∃ p, p = ts.length - Y.left.length := ⟨_, rfl⟩
        unfold RRule at hru
        rw [← hp] at hru
        have HY := Lib.hid hY
        have HP0 := Lib.hid hp
        cases hok : Y.ok with
        | true =>
          have hlt := hrl.2 hok
          have hstep := linesB_step (acc := acc) hne (by rw [← hY]; exact hok)
          rw [← hY, HBD.out, hrf, ← hp] at hstep
          have HSTEP := Lib.hid hstep
          have HOK := Lib.hid hok
          have hpk : k < p := by omega
          have hpl : p ≤ ts.length := by omega
          rw [hok] at hru
          have HRU := Lib.hid hru
          clear hY hrl hrf hlt hstep hok hne hp hru
          go_upto_region 8 with (go_at_call 44; refine HRU.out.mono ?_; rintro e w3 ⟨nv, av, rfl, hal, -, hf3⟩; have hal2 := hal (by rfl); clear hal; obtain ⟨hnv, hal⟩ := hal2; subst hnv; obtain ⟨a3, c3, hav, hc3, hm3⟩ := hal.slice; subst hav)
          have hfa := Fr.alloc w3 (.cells #[encStr Y.line.name, .slice a3 Y.line.alts.length c3] 69)
          have hba := heap_alloc_new w3 (.cells #[encStr Y.line.name, .slice a3 Y.line.alts.length c3] 69)
          obtain ⟨w4, hw4⟩ : ∃ w4, w4 = w3.alloc (.cells #[encStr Y.line.name, .slice a3 Y.line.alts.length c3] 69) := ⟨_, rfl⟩
          obtain ⟨q, hq⟩ : ∃ q, q = w3.heap.size := ⟨_, rfl⟩
          rw [← hw4] at hfa hba ⊢
          rw [← hq] at hba ⊢
          have hf34 := hf3.trans hfa (by simp) (n := []) (by simp)
          have HF4 := Lib.hid (HF.out.trans hf34 (by simp) (n := []) (by simp))
          have HV4 := Lib.hid (owns_kept HVR.out hf34 (by simp))
          have HI4 := Lib.hid (fun i h h' => (HVI.out i h h').below hf34)
          have HA4 := Lib.hid ((hal.below hfa).lower hws)
          obtain ⟨x0, x1, x2, x3⟩ := two_of_box hba
          have hws4 := HF4.out.size
          obtain ⟨nm, hnm⟩ : ∃ nm, nm = Y.line.name := ⟨_, rfl⟩
          obtain ⟨na, hna⟩ : ∃ na, na = Y.line.alts.length := ⟨_, rfl⟩
          rw [← hnm] at x0
          rw [← hna] at x1
          rw [← hnm, ← hna]
          have HNM := Lib.hid hnm
          have HNA := Lib.hid hna
          clear hw4 hq hfa hba hf3 hf34 hal hnm hna
          go_wp2_with (at_builtin; refine wpL_appendS rfl _ _ 35 rfl w1.heap.size 69 i0 _ 2 40 Tryz.underlying35 hi0 hz0 hz1 hz2 (by rfl) (by decide) (.slice a2 acc.length c2) acc.length _ rfl HV4.out [encStr nm, .slice a3 na c3] rfl (by intro u hu; simp at hu; rcases hu with rfl | rfl <;> rfl) rfl (by omega) (by simp [maxLen]; omega) hws4 ?_; intro v5 w5 hown5 hf5 hb5)
          have hfb := Fr.alloc w4 (.cells [encStr nm, .slice a3 na c3].toArray 69)
          have hf3 := hfb.trans hf5 (by simp) (fun _ hk _ => hk)
          have hf6 : Fr [] w1 w5 := HF4.out.own HV4.out hf3
          have hV6 := owns_kept HV4.out hfb (by simp)
          have tI := notT_row hV6 (t := 76) (by decide)
          have tA := notT_row hV6 (t := 74) (by decide)
          have hl : linesR 76 74 69 w5 w1.heap.size v5 (acc ++ [Y.line]) := linesR_snoc hve (by rw [← HNM.out]; exact hown5) (fun i h h' => ((HI4.out i h h').below hfb).kept tI tA hf5) (by rw [← HNA.out] at HA4; exact (HA4.out.below hfb).kept tI tA hf5)
          exact ⟨⟨p, acc ++ [Y.line], hpl, by simp; omega, rfl, hl, HSTEP.out.symm, hf6⟩, by simp [intOf]; omega⟩
        | false =>
          have hno := lines_no hne (by rw [← hY]; exact hok)
          have hXe : X = ⟨false, [], Y.left.length⟩ := by
            rw [← HBD.out, hno, ← hY]; rfl
          have hPe : P = ⟨[], offT m ts Y.left.length, 14⟩ := by rw [HP.out, hXe]; rfl
          have HPE := Lib.hid hPe
          rw [hok] at hru
          have HRU := Lib.hid hru
          have hpl : p ≤ ts.length := by omega
          obtain ⟨j, hj⟩ : ∃ j, j = Y.left.length := ⟨_, rfl⟩
          rw [← hj] at HPE hp hrl
          have hjl : j ≤ ts.length - k := hrl.1
          clear hY hrl hrf hno hXe hPe hok hne hru hj HP0
          by_cases hin : p < ts.length
          · have hd4 : decide (p < ts.length) = true := decide_eq_true hin
            have HOF := Lib.hid (show offT m ts j = (ts[p]'hin).at_ by unfold offT; rw [← hp, List.getElem?_eq_getElem hin])
            clear hp
            go_upto_region 9 with (go_at_call 44; refine HRU.out.mono ?_; rintro e w3 ⟨nv, av, rfl, -, ⟨nn, x, y, z, rfl, rfl⟩, hf3⟩)
            have HF3 := Lib.hid ((HF.out.trans hf3 (by simp) (n := []) (by simp)).trans (Fr.alloc w3 (.cells #[encStr nn, .slice x y z] 69)) (by simp) (n := []) (by simp))
            obtain ⟨b4, off4, hbe, -, -, k2⟩ := tok_cells (HT.out.below HF3.out) p hin
            cases hbe
            rw [← HOF.out] at k2
            obtain ⟨w4, hw4⟩ : ∃ w4, w4 = w3.alloc (.cells #[encStr nn, .slice x y z] 69) := ⟨_, rfl⟩
            rw [← hw4] at k2 HF3 ⊢
            clear hw4 hf3
            go_quiet (fail)
            go_wp2_with fail
            go_ret3
            refine ⟨.slice none 0 0, by rw [HPE.out]; rfl, ?_, HF1.out.trans (HF3.out.andDrewN _) (by simp) (by simp)⟩
            rw [HPE.out]; exact linesAt.nil _
          · have hd4 : decide (p < ts.length) = false := decide_eq_false hin
            have HOF := Lib.hid (show offT m ts j = m.length by unfold offT; rw [← hp, List.getElem?_eq_none (by omega)])
            clear hp
            go_wp2_with (go_at_call 44; refine HRU.out.mono ?_; rintro e w3 ⟨nv, av, rfl, -, ⟨nn, x, y, z, rfl, rfl⟩, hf3⟩)
            go_ret3
            refine ⟨.slice none 0 0, by rw [HPE.out, HOF.out]; rfl, ?_, HF1.out.trans ((HF.out.trans hf3 (by simp) (n := []) (by simp)).trans (Fr.alloc _ _) (by simp) (n := []) (by simp)) (by simp) (by simp)⟩
            rw [HPE.out]; exact linesAt.nil _
      · have hd3 : decide (k < ts.length) = false := decide_eq_false hkn
        obtain rfl : k = ts.length := by omega
        have hXe : X = ⟨true, acc, 0⟩ := by rw [← HBD.out, fromK_end, lines_nil]; simp [linesB]
        by_cases h0 : acc.length = 0
        · have e0 : ((acc.length : Int) == 0) = true := by rw [h0]; rfl
          have hnil : acc = [] := List.length_eq_zero_iff.1 h0
          have HPE := Lib.hid (show P = ⟨[], m.length, 14⟩ by rw [HP.out, hXe, hnil]; rfl)
          clear hXe hnil h0
          go_wp2_with fail
          go_ret3
          refine ⟨.slice none 0 0, by rw [HPE.out]; rfl, ?_, HF1.out.trans HF.out (by simp) (by simp)⟩
          rw [HPE.out]; exact linesAt.nil _
        · have e0 : ((acc.length : Int) == 0) = false := by rw [beq_eq_false_iff_ne]; omega
          have hnn : acc ≠ [] := fun e => h0 (by rw [e]; rfl)
          have HPE := Lib.hid (show P = ⟨acc, 0, 0⟩ by rw [HP.out, hXe]; simp [hnn])
          clear hXe hnn h0
          go_wp2_with fail
          go_ret3
          refine ⟨.slice a2 acc.length c2, by rw [HPE.out]; rfl, ?_, HF1.out.trans HF.out (by simp) (by simp)⟩
          rw [HPE.out]
          exact linesR.at_ ⟨vs, hve, HVR.out, HVI.out⟩
  · have q1 : (er == 0) = false := by rw [beq_eq_false_iff_ne]; exact her
    have q2 : (er != 0) = true := by rw [bne_iff_ne]; exact her
    rw [if_pos her] at hP
    have HP := Lib.hid hP
    clear hP hX her
    go_enter Tryz.func18, Tryz.ntmps18
    go_wp2_with (go_at_call 43; refine (HAL.out _).mono ?_; rintro e w1 ⟨v1, rfl, ht1, hf1⟩)
    go_ret3
    refine ⟨.slice none 0 0, by rw [HP.out]; rfl, ?_, hf1⟩
    rw [HP.out]; exact linesAt.nil _
end Go.Proofs.YtgfpkmnmdehkpaaGreat
