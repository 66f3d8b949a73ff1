/- Layer 18, the program's: Cut. (Split out of WoA.) -/
import Derived.Test.YtmcekpgmebanaaaMm
import Derived.Test.YtmcekpgmebanaaaKyS
import Derived.Test.YtmcekpgmebanaaaCutN
set_option linter.unusedVariables false
set_option linter.unusedSimpArgs false
namespace Go.Proofs.Ytmcekpgmebanaaa
open Go.RowKit

set_option maxRecDepth 100000 in
theorem wcut_any (s : List UInt8) (k : Int) (w : World) :
    Calls Try.prog 45 #[.string ⟨s.toArray⟩, .int .i64 k] w fun e w' => e = .returned (.string ⟨(cutW s k).toArray⟩) ∧ w = w' := by
  go_enter Try.func45, Try.ntmps45
  go_wp2_with fail
  · rename_i h1
    go_ret
    rw [cutW_all (by omega), ext_k, List.take_length, List.drop_zero]
    exact ⟨rfl, rfl⟩
  · rename_i h1
    go_ret
    rw [ext_k, List.drop_zero]
    exact ⟨rfl, rfl⟩
  · rename_i h1
    go_ret
    rw [if_pos h] at h1
    obtain rfl : s = [] := List.eq_nil_of_length_eq_zero (by omega)
    rw [show cutW [] k = [] by simp [cutW]]
    exact ⟨rfl, rfl⟩
  · rename_i h1
    go_ret
    rw [cutW_neg (by split at h1 <;> omega)]
    exact ⟨rfl, rfl⟩
end Go.Proofs.Ytmcekpgmebanaaa
