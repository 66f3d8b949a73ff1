/- DiskNames (layer 11), whatever the program's IsName is, so long as it tells what the document tells. -/
import Derived.Test.YtmchnaojlnjmjaaDskC
namespace Go.Proofs.Ytmchnaojlnjmjaa
open Go.RowKit Go.Maps

set_option maxRecDepth 100000 in
theorem disknames_any (hI : ∀ (m : List UInt8) (w : World), m.length ≤ maxLen → Calls Try.prog 6 #[encStr m] w fun e w' => e = .returned (.bool (rightB m)) ∧ Fr [] w w') (hA : ∀ w : World, Calls Try.prog 5 #[] w fun e w' => e = .returned (.bool true) ∧ Fr [] w w')
    (m : List UInt8) (hm : m.length ≤ maxLen) (w : World) : Calls Try.prog 3 #[encStr m] w fun e w' => e = .returned (.bool true) ∧ Fr [] w w' := by
  have HIN := Lib.hid (fun wx => hI m wx hm)
  have HRI := Lib.hid (fun wx => kright_any m hm wx)
  have HAW := Lib.hid hA
  have hmx : m.length ≤ 9223372036854775807 := by simpa [maxLen] using hm
  obtain ⟨r, hr⟩ : ∃ r, r = rightB m := ⟨_, rfl⟩
  rw [← hr] at HIN HRI
  clear hI hA hr
  by_cases hl : m.length ≤ 200
  · have hd : decide (200 < (m.length : Int)) = false := decide_eq_false (by omega)
    go_enter Try.func3, Try.ntmps3
    go_wp2_with (first
      | (go_at_call 6; refine (HIN.out _).mono ?_; rintro e w1 ⟨rfl, hf1⟩)
      | (go_at_call 7; refine (HRI.out _).mono ?_; rintro e w2 ⟨rfl, hf2⟩)
      | (go_at_call 5; refine (HAW.out _).mono ?_; rintro e w3 ⟨rfl, hf3⟩))
    go_ret
    exact ⟨rfl, (hf1.trans hf2 (by simp) (n := []) (by simp)).trans hf3 (by simp) (by simp)⟩
  · have hd : decide (200 < (m.length : Int)) = true := decide_eq_true (by omega)
    go_enter Try.func3, Try.ntmps3
    go_wp2_with (go_at_call 5; refine (HAW.out _).mono ?_; rintro e w3 ⟨rfl, hf3⟩)
    go_ret
    exact ⟨rfl, hf3⟩
end Go.Proofs.Ytmchnaojlnjmjaa
