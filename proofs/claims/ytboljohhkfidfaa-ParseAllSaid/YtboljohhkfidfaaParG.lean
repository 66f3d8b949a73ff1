/- ParseAll (layer 13), whatever the program's parser is, so long as it does what the document's does. -/
import Derived.Test.YtboljohhkfidfaaParF
import Derived.BigQuiet
namespace Go.Proofs.Ytboljohhkfidfaa
open Go.RowKit

set_option maxRecDepth 100000 in
set_option maxHeartbeats 1000000 in
theorem parseall_any (hA : ProgPar) (m : List UInt8) (hm : m.length ≤ maxLen) (w : World) : Calls Try.prog 3 #[encStr m] w fun e w' => e = .returned (.bool true) ∧ Fr [] w w' := by
  have HAW := Lib.hid (fun wx => parawake_any hA wx)
  have hm' : m.length ≤ 9223372036854775807 := by simpa [maxLen] using hm
  by_cases hl : m.length ≤ 2000
  · have hd : decide (2000 < (m.length : Int)) = false := decide_eq_false (by omega)
    have HP := Lib.hid (fun wx => hA m wx (by omega))
    have HR := Lib.hid (fun wx => rpar_any m (by omega) wx)
    obtain ⟨R, hR⟩ : ∃ R, R = parD m := ⟨_, rfl⟩
    rw [← hR] at HP HR
    clear hA hR hm
    obtain ⟨l, p, er⟩ := R
    have x1 : ((p : Int) == (p : Int)) = true := by simp
    have x2 : ((er : Int) == er) = true := by simp
    go_enter Try.func3, Try.ntmps3
    go_upto_region 4 with (go_at_call 7; refine (HP.out _).mono ?_; rintro e w1 ⟨v1, rfl, ht1, hf1⟩)
    have HT1 := Lib.hid ht1
    clear ht1
    go_upto_region 5 with (go_at_call 8; refine (HR.out _).mono ?_; rintro e w2 ⟨v2, rfl, ht2, hf2⟩)
    have HK := Lib.hid (alike_any l v1 v2 w2 (HT1.out.below hf2) ht2)
    have HF2 := Lib.hid (hf1.trans hf2 (by simp) (n := []) (by simp))
    clear ht2 hf1 hf2
    go_wp2_with (first | (go_at_call 9; refine HK.out.mono ?_; rintro e w3 ⟨rfl, hf3⟩) | (go_at_call 6; refine (HAW.out _).mono ?_; rintro e w4 ⟨rfl, hf4⟩))
    go_ret
    exact ⟨rfl, (HF2.out.trans hf3 (by simp) (n := []) (by simp)).trans hf4 (by simp) (by simp)⟩
  · have hd : decide (2000 < (m.length : Int)) = true := decide_eq_true (by omega)
    clear hA hm
    go_enter Try.func3, Try.ntmps3
    go_wp2_with (go_at_call 6; refine (HAW.out _).mono ?_; rintro e w4 ⟨rfl, hf4⟩)
    go_ret
    exact ⟨rfl, hf4⟩
end Go.Proofs.Ytboljohhkfidfaa
