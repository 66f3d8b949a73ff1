/- Strings compared by the model's order: the order of bytes. (Split out of KyK.) -/
import Derived.Test.YtmcekpgmebanaaaMm
import Derived.Test.YtmcekpgmebanaaaBs
set_option linter.unusedVariables false
set_option linter.unusedSimpArgs false
namespace Go.Proofs.Ytmcekpgmebanaaa
open Go.RowKit


theorem bytesLess_lessB : ∀ a b : List UInt8, Op.bytesLess a b = lessB a b
  | [], [] => rfl
  | [], _ :: _ => rfl
  | _ :: _, [] => rfl
  | x :: a, y :: b => by
    have ih := bytesLess_lessB a b
    unfold Op.bytesLess lessB
    by_cases e : x = y
    · subst e
      simp [ih]
    · have hn : x.toNat ≠ y.toNat := fun q => e (UInt8.toNat_inj.1 q)
      rw [if_neg e]
      by_cases h : x < y
      · have : x.toNat < y.toNat := h
        simp [h, this]
      · have : ¬ x.toNat < y.toNat := h
        simp [h, this, e]
theorem mk_toList (l : List UInt8) : (ByteArray.mk l.toArray).toList = l := by
  rw [ByteArray.toList_eq]
end Go.Proofs.Ytmcekpgmebanaaa
