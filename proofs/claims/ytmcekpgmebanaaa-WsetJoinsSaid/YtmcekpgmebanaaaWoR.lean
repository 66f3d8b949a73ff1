/- Layer 18, the document's Cut. -/
import Derived.Test.YtmcekpgmebanaaaMm
import Derived.Test.YtmcekpgmebanaaaKyS
import Derived.LoopTactic
import Derived.WalkMore
import Derived.Deep.DeepCutAuto
set_option linter.unusedVariables false
set_option linter.unusedSimpArgs false
namespace Go.Proofs.Ytmcekpgmebanaaa
open Go.RowKit


theorem cutW_neg {s : List UInt8} {k : Int} (h : k ≤ 0) : cutW s k = [] := by
  unfold cutW
  rw [show k.toNat = 0 by omega, List.take_zero]
theorem cutW_all {s : List UInt8} {k : Int} (h : (s.length : Int) ≤ k) : cutW s k = s := by
  unfold cutW
  exact List.take_of_length_le (by omega)
set_option maxRecDepth 100000 in
theorem rcut_any (s : List UInt8) (k : Int) (w : World) :
    Calls Try.prog 37 #[.string ⟨s.toArray⟩, .int .i64 k] w fun e w' => e = .returned (.string ⟨(cutW s k).toArray⟩) ∧ w = w' := by
  by_cases h1 : k < 0
  · have hd1 : decide (k < 0) = true := decide_eq_true h1
    rw [cutW_neg (by omega)]
    clear h1
    go_enter Try.func37, Try.ntmps37
    go_wp2_with fail
    go_ret
    exact ⟨rfl, rfl⟩
  · have hd1 : decide (k < 0) = false := decide_eq_false h1
    by_cases h2 : (s.length : Int) ≤ k
    · have hd2 : decide ((s.length : Int) ≤ k) = true := decide_eq_true h2
      rw [cutW_all h2]
      clear h1 h2
      go_enter Try.func37, Try.ntmps37
      go_wp2_with fail
      go_ret
      exact ⟨rfl, rfl⟩
    · obtain ⟨n, rfl⟩ := Int.eq_ofNat_of_zero_le (show 0 ≤ k by omega)
      have hd2 : decide ((s.length : Int) ≤ (n : Int)) = false := decide_eq_false h2
      have hd3 : decide (s.length ≤ n) = false := decide_eq_false (by omega)
      have ht := fun wx => take_k (P := Try.prog) wx 9 s n Try.underlying9 (by omega)
      have HE := Lib.hid (show cutW s (n : Int) = s.take n from rfl)
      clear h1 h2
      go_enter Try.func37, Try.ntmps37
      go_wp2_with fail
      go_ret
      exact ⟨rfl, rfl⟩
end Go.Proofs.Ytmcekpgmebanaaa
