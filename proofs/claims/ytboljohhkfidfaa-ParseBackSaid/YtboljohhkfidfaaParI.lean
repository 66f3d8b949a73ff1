/- ParseBack (layer 13), whatever the program's parser is, so long as it does what the document's does. -/
import Derived.Test.YtboljohhkfidfaaParF
import Derived.BigQuiet
namespace Go.Proofs.Ytboljohhkfidfaa
open Go.RowKit

theorem par_err {m : List UInt8} (h : (parD m).err ≠ 0) : (parD m).lines = [] := by
  unfold parD at h ⊢
  by_cases h1 : (allD m).err ≠ 0
  · rw [if_pos h1]
  · rw [if_neg h1] at h ⊢
    by_cases h2 : (linesD ((allD m).toks.map TokD.tk)).ok = false
    · rw [if_pos h2]
    · rw [if_neg h2] at h ⊢
      by_cases h3 : (linesD ((allD m).toks.map TokD.tk)).lines = []
      · rw [if_pos h3]
      · rw [if_neg h3] at h
        exact absurd rfl h
set_option maxRecDepth 100000 in
set_option maxHeartbeats 1000000 in
theorem parseback_any (hA : ProgPar) (hT : ProgTxt) (m : List UInt8) (hm : m.length ≤ maxLen) (w : World) : Calls Try.prog 5 #[encStr m] w fun e w' => e = .returned (.bool true) ∧ Fr [] w w' := by
  have HAW := Lib.hid (fun wx => parawake_any hA wx)
  have hm' : m.length ≤ 9223372036854775807 := by simpa [maxLen] using hm
  by_cases hl : m.length ≤ 2000
  · have hd : decide (2000 < (m.length : Int)) = false := decide_eq_false (by omega)
    have HP := Lib.hid (fun wx => hA m wx (by omega))
    by_cases he : (parD m).err = 0
    · obtain ⟨hb0, hb1, hb2⟩ := par_back (m := m) (by omega) he
      obtain ⟨R, hR⟩ : ∃ R, R = parD m := ⟨_, rfl⟩
      rw [← hR] at HP he hb0 hb1 hb2
      clear hR hm
      obtain ⟨l, p, er⟩ := R
      simp only at he hb0 hb1 hb2
      subst he hb0
      have HP2 := Lib.hid (fun wx => hA (textD l) wx (by omega))
      rw [hb2] at HP2
      have HTX := Lib.hid (fun v wx (h : linesAt wx v l) => hT l v wx h (by omega))
      have HTL := Lib.hid (fun v wx (h : linesAt wx v l) => text_any l v wx h (by omega))
      obtain ⟨T, hT1⟩ : ∃ T, T = (textD l).toArray := ⟨_, rfl⟩
      have hTe : encStr (textD l) = .string ⟨T⟩ := by rw [hT1]
      rw [hTe] at HP2
      simp only [hTe] at HTX HTL
      clear hTe hT1 hb1 hb2 hA hT
      have x3 : ((l.length : Int) == (l.length : Int)) = true := by simp
      go_enter Try.func5, Try.ntmps5
      go_upto_region 4 with (go_at_call 7; refine (HP.out _).mono ?_; rintro e w1 ⟨v1, rfl, ht1, hf1⟩)
      obtain ⟨a1, c1, rfl, hc1, hm1⟩ := ht1.form
      have HT1 := Lib.hid ht1
      have HX1 := Lib.hid (HTX.out _ _ ht1)
      clear ht1
      go_upto_region 6 with fail
      go_upto_region 7 with (go_at_call 10; refine HX1.out.mono ?_; rintro e w2 ⟨rfl, hf2⟩)
      have HF2 := Lib.hid (hf1.trans hf2 (by simp) (n := []) (by simp))
      have HT2 := Lib.hid (HT1.out.below hf2)
      clear hf1 hf2 HX1 HT1
      go_upto_region 8 with (go_at_call 7; refine (HP2.out _).mono ?_; rintro e w3 ⟨v3, rfl, ht3, hf3⟩)
      obtain ⟨a3, c3, rfl, hc3, hm3⟩ := ht3.form
      have HF3 := Lib.hid (HF2.out.trans hf3 (by simp) (n := []) (by simp))
      have HT3 := Lib.hid (HT2.out.below hf3)
      have HM3 := Lib.hid ht3
      clear hf3 ht3 HF2 HT2
      go_wp2_with (first
        | (go_at_call 6; refine (HAW.out _).mono ?_; rintro e w7 ⟨rfl, hf7⟩)
        | (go_at_call 10; refine (HTX.out _ _ ((HM3.out.below hf4).below hf5)).mono ?_; rintro e w6 ⟨rfl, hf6⟩)
        | (go_at_call 11; refine (HTL.out _ _ (HT3.out.below hf4)).mono ?_; rintro e w5 ⟨rfl, hf5⟩)
        | (go_at_call 11; refine (HTL.out _ _ HM3.out).mono ?_; rintro e w4 ⟨rfl, hf4⟩))
      go_ret
      exact ⟨rfl, (((HF3.out.trans hf4 (by simp) (n := []) (by simp)).trans hf5 (by simp) (n := []) (by simp)).trans hf6 (by simp) (n := []) (by simp)).trans hf7 (by simp) (by simp)⟩
    · have hn := par_err he
      obtain ⟨R, hR⟩ : ∃ R, R = parD m := ⟨_, rfl⟩
      rw [← hR] at HP he hn
      clear hR hm hA hT
      obtain ⟨l, p, er⟩ := R
      simp only at he hn
      subst hn
      have q1 : (er == 0) = false := by rw [beq_eq_false_iff_ne]; exact he
      have q2 : (er != 0) = true := by rw [bne_iff_ne]; exact he
      clear he
      go_enter Try.func5, Try.ntmps5
      go_upto_region 4 with (go_at_call 7; refine (HP.out _).mono ?_; rintro e w1 ⟨v1, rfl, ht1, hf1⟩)
      obtain ⟨a1, c1, rfl, hc1, hm1⟩ := ht1.form
      simp only [List.length_nil] at hc1 hm1 ⊢
      clear ht1
      go_wp2_with (go_at_call 6; refine (HAW.out _).mono ?_; rintro e w4 ⟨rfl, hf4⟩)
      go_ret
      exact ⟨rfl, hf1.trans hf4 (by simp) (by simp)⟩
  · have hd : decide (2000 < (m.length : Int)) = true := decide_eq_true (by omega)
    clear hA hT hm
    go_enter Try.func5, Try.ntmps5
    go_wp2_with (go_at_call 6; refine (HAW.out _).mono ?_; rintro e w4 ⟨rfl, hf4⟩)
    go_ret
    exact ⟨rfl, hf4⟩
end Go.Proofs.Ytboljohhkfidfaa
