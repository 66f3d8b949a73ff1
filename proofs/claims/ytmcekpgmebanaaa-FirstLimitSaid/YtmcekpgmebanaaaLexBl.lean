/- What a prefix of a text keeps, byte for byte (layer 12). -/
import Derived.Test.YtmcekpgmebanaaaMm
import Derived.Test.YtmcekpgmebanaaaDt
import Derived.LoopTactic
set_option linter.unusedVariables false
set_option linter.unusedSimpArgs false
namespace Go.Proofs.Ytmcekpgmebanaaa
open Go.RowKit

def AllRel (p : UInt8 → Bool) (w : World) (m : List UInt8) (iv : Value) (wx : World) : Prop := ∃ k : Nat, k ≤ m.length ∧ iv = .int .i64 (k : Int) ∧ (∀ j, j < k → ∀ h : j < m.length, p (m[j]'h) = true) ∧ w = wx
theorem all_next {p : UInt8 → Bool} {m : List UInt8} {k : Nat} (h : ∀ j, j < k → ∀ h : j < m.length, p (m[j]'h) = true) (hk : k < m.length) (ho : p (m[k]'hk) = true) : ∀ j, j < k + 1 → ∀ h : j < m.length, p (m[j]'h) = true := by
  intro j hj hl
  by_cases e : j = k
  · subst e; exact ho
  · exact h j (by omega) hl
theorem all_no {p : UInt8 → Bool} {m : List UInt8} {k : Nat} (hk : k < m.length) (ho : p (m[k]'hk) = false) : m.all p = false := by
  rw [List.all_eq_false]
  exact ⟨_, List.getElem_mem hk, by rw [ho]; simp⟩
theorem all_yes {p : UInt8 → Bool} {m : List UInt8} (h : ∀ j (h : j < m.length), p (m[j]'h) = true) : m.all p = true := by
  refine List.all_eq_true.2 (fun x hx => ?_)
  obtain ⟨j, hj, rfl⟩ := List.getElem_of_mem hx
  exact h j hj
end Go.Proofs.Ytmcekpgmebanaaa
