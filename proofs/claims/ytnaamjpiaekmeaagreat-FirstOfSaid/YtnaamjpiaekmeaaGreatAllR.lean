/- Layer 18, the document's All, whatever its arguments. -/
import Derived.Test.YtnaamjpiaekmeaaGreatWd
set_option linter.unusedVariables false
set_option linter.unusedSimpArgs false
namespace Go.Proofs.YtnaamjpiaekmeaaGreat
open Go.RowKit
theorem rall_any (t k : Int) (hk : k ≤ 1000000) (w : World) : Calls Tryz.prog 13 #[.int .i64 t, .int .i64 k] w (AllAt t k w) := by
 by_cases h : k < 0 ∨ t < 0 ∨ 256 < t
 ·exact rall_bad t k h w
 ·obtain ⟨T, rfl⟩ := Int.eq_ofNat_of_zero_le (show 0 ≤ t by omega)
  obtain ⟨K, rfl⟩ := Int.eq_ofNat_of_zero_le (show 0 ≤ k by omega)
  exact rall_good T K (by omega) (by omega) w
end Go.Proofs.YtnaamjpiaekmeaaGreat
