/- Layer 18, the program's: Cut. (Split out of WoA.) -/
import Derived.Test.YtnaamjpiaekmeaaGreatMm
import Derived.Test.YtnaamjpiaekmeaaGreatKyS
import Derived.Test.YtnaamjpiaekmeaaGreatCutN
set_option linter.unusedVariables false
set_option linter.unusedSimpArgs false
namespace Go.Proofs.YtnaamjpiaekmeaaGreat
open Go.RowKit
set_option maxRecDepth 100000 in
theorem wcut_any (s : List UInt8) (k : Int) (w : World) :
  Calls Tryz.prog 107 #[.string ⟨s.toArray⟩, .int .i64 k] w fun e w' => e = .returned (.string ⟨(cutW s k).toArray⟩) ∧ w = w' := by
 go_enter Tryz.func107, Tryz.ntmps107
 go_wp2_with fail
 ·rename_i h1
  go_ret
  rw [cutW_all (by omega), ext_k, List.take_length, List.drop_zero]
  exact ⟨rfl, rfl⟩
 ·rename_i h1
  go_ret
  rw [ext_k, List.drop_zero]
  exact ⟨rfl, rfl⟩
 ·rename_i h1
  go_ret
  rw [if_pos h] at h1
  obtain rfl : s = [] := List.eq_nil_of_length_eq_zero (by omega)
  rw [show cutW [] k = [] by simp [cutW]]
  exact ⟨rfl, rfl⟩
 ·rename_i h1
  go_ret
  rw [cutW_neg (by split at h1 <;> omega)]
  exact ⟨rfl, rfl⟩
end Go.Proofs.YtnaamjpiaekmeaaGreat
