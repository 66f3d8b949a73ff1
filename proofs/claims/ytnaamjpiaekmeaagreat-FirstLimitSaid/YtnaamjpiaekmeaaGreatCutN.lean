/- Cutting a word to nothing or to itself (layer 18). Split out of WoR. -/
import Derived.Test.YtnaamjpiaekmeaaGreatMm
import Derived.Test.YtnaamjpiaekmeaaGreatKyS
import Derived.LoopTactic
import Derived.WalkMore
import Derived.Deep.DeepCutAuto
set_option linter.unusedVariables false
set_option linter.unusedSimpArgs false
namespace Go.Proofs.YtnaamjpiaekmeaaGreat
open Go.RowKit
theorem cutW_neg {s : List UInt8} {k : Int} (h : k ≤ 0) : cutW s k = [] := by
 unfold cutW
 rw [show k.toNat = 0 by omega, List.take_zero]
theorem cutW_all {s : List UInt8} {k : Int} (h : (s.length : Int) ≤ k) : cutW s k = s := by
 unfold cutW
 exact List.take_of_length_le (by omega)
end Go.Proofs.YtnaamjpiaekmeaaGreat
