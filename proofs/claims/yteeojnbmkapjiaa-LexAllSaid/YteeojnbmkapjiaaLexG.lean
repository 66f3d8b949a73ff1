/- LexAll (layer 12), whatever the program's lexer is, so long as it does what the document's does. -/
import Derived.Test.YteeojnbmkapjiaaLexF
import Derived.BigQuiet
namespace Go.Proofs.Yteeojnbmkapjiaa
open Go.RowKit

def LxRel (w : World) (n : Nat) (iv : Value) (wx : World) : Prop := ∃ k : Nat, k ≤ n ∧ iv = .int .i64 (k : Int) ∧ Fr [] w wx
set_option maxRecDepth 100000 in
set_option maxHeartbeats 1000000 in
theorem lexall_any (hA : ProgAll) (m : List UInt8) (hm : m.length ≤ maxLen) (w : World) : Calls Try.prog 3 #[encStr m] w fun e w' => e = .returned (.bool true) ∧ Fr [] w w' := by
  have HAW := Lib.hid (fun wx => lexawake_any hA wx)
  have hm' : m.length ≤ 9223372036854775807 := by simpa [maxLen] using hm
  by_cases hl : m.length ≤ 2000
  · have hd : decide (2000 < (m.length : Int)) = false := decide_eq_false (by omega)
    have HP := Lib.hid (fun wx => hA m wx (by omega))
    have HR := Lib.hid (fun wx => rall_any m (by omega) wx)
    obtain ⟨R, hR⟩ : ∃ R, R = allD m := ⟨_, rfl⟩
    rw [← hR] at HP HR
    clear hA hR hm
    obtain ⟨l, p, er⟩ := R
    have x1 : ((p : Int) != (p : Int)) = false := by simp
    have x2 : ((er : Int) != er) = false := by simp
    have x3 : ((l.length : Int) != (l.length : Int)) = false := by simp
    go_enter Try.func3, Try.ntmps3
    go_upto_region 4 with (go_at_call 7; refine (HP.out _).mono ?_; rintro e w1 ⟨v1, rfl, ht1, hf1⟩)
    obtain ⟨a1, c1, rfl, hc1, hm1⟩ := ht1.form
    have HT1 := Lib.hid ht1
    clear ht1
    go_upto_region 5 with (go_at_call 8; refine (HR.out _).mono ?_; rintro e w2 ⟨v2, rfl, ht2, hf2⟩)
    obtain ⟨a2, c2, rfl, hc2, hm2⟩ := ht2.form
    have HT2 := Lib.hid ht2
    have HT12 := Lib.hid (HT1.out.below hf2)
    have HF2 := Lib.hid (hf1.trans hf2 (by simp) (n := []) (by simp))
    clear ht2 hf1 hf2
    go_wp2_with fail
    go_loopw [9] (LxRel w2 l.length) (fun iv _ => l.length - (intOf iv).toNat)
    case atStart => exact ⟨0, Nat.zero_le _, rfl, Fr.refl _ _⟩
    case round =>
      obtain ⟨k, hk, rfl, hf⟩ := hrel
      have HF := Lib.hid hf
      by_cases hkn : k < l.length
      · have hd2 : decide (k < l.length) = true := decide_eq_true hkn
        obtain ⟨b1, off1, rfl, k0, k1, k2⟩ := tok_cells (HT12.out.below hf) k hkn
        obtain ⟨b2, off2, rfl, l0, l1, l2⟩ := tok_cells (HT2.out.below hf) k hkn
        obtain ⟨⟨tk, tt, ta⟩, htk⟩ : ∃ t, t = l[k]'hkn := ⟨_, rfl⟩
        rw [← htk] at k0 k1 k2 l0 l1 l2
        simp only at k0 k1 k2 l0 l1 l2
        have y1 : ((tk : Int) != tk) = false := by simp
        have y2 : ((ta : Int) != (ta : Int)) = false := by simp
        clear htk hf
        go_wp2_with fail
        go_quiet (fail)
        go_wp2_with fail
        refine ⟨⟨k + 1, by omega, by go_num, HF.out.andDrewN _⟩, by simp [intOf]; omega⟩
      · have hd2 : decide (k < l.length) = false := decide_eq_false hkn
        clear hf
        go_wp2_with (go_at_call 6; refine (HAW.out _).mono ?_; rintro e w4 ⟨rfl, hf4⟩)
        go_ret
        exact ⟨rfl, (HF2.out.trans HF.out (by simp) (n := []) (by simp)).trans hf4 (by simp) (by simp)⟩
  · have hd : decide (2000 < (m.length : Int)) = true := decide_eq_true (by omega)
    clear hA hm
    go_enter Try.func3, Try.ntmps3
    go_wp2_with (go_at_call 6; refine (HAW.out _).mono ?_; rintro e w4 ⟨rfl, hf4⟩)
    go_ret
    exact ⟨rfl, hf4⟩
end Go.Proofs.Yteeojnbmkapjiaa
