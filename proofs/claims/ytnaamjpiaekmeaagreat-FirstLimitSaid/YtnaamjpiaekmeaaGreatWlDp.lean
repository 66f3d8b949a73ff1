/- The set of what was counted. (Split out of WlD.) -/
import Derived.Test.YtnaamjpiaekmeaaGreatWa
import Derived.Test.YtnaamjpiaekmeaaGreatWq
set_option linter.unusedVariables false
set_option linter.unusedSimpArgs false
namespace Go.Proofs.YtnaamjpiaekmeaaGreat
open Go.RowKit Go.Maps Go.Sort
theorem pdone {t : Nat} {ws : Words} {w0 w w' : World} {p mb : Nat} {fv : Value} (hT : TyAt w w0.heap.size p mb t ws fv) (hF : Fr [] w0 w) {e : Ending} {L : Words} (hL : sortW (fndW t ws) = L) (h : SetGot (sortW (fndW t ws)) (tyB p mb fv) w e w') : GotS L w0 e w' := by
 obtain ⟨v, he, hs, hf⟩ := h
 rw [hL] at hs
 exact ⟨v, he, hs, Fr.new hF hf (fun i hi => hT.ge i hi)⟩
end Go.Proofs.YtnaamjpiaekmeaaGreat
