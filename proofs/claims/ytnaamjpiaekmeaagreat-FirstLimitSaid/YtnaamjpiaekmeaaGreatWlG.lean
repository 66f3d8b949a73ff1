/- The program's sets of words (layer 19): small things that its texts share. -/
import Derived.Test.YtnaamjpiaekmeaaGreatWa
import Derived.Test.YtnaamjpiaekmeaaGreatWoCt
import Derived.Test.YtnaamjpiaekmeaaGreatWd
import Derived.Test.YtnaamjpiaekmeaaGreatBs
set_option linter.unusedVariables false
set_option linter.unusedSimpArgs false
namespace Go.Proofs.YtnaamjpiaekmeaaGreat
open Go.RowKit Go.Maps Go.Sort
theorem Fr.set_newW {W w : World} {b i : Nat} {v : Value} (h : Fr [] W w) (hb : W.heap.size ≤ b) : Fr [] W (w.setCell ⟨b, i, none⟩ v) := h.trans (Fr.set0 w b i v) (by simp) (fun j hj hlt => by simp at hj; omega)
def FilRel (w : World) (b : Nat) (L : Words) (iv : Value) (wx : World) : Prop := ∃ k : Nat, k ≤ L.length ∧ iv = .int .i64 (k : Int) ∧ fillAt wx b 9 (.string ⟨#[]⟩) (L.map encStr) k ∧ Fr [] w wx
def NewL (L : Words) (w : World) (e : Ending) (w' : World) : Prop := ∃ b c, e = .returned (.slice (some ⟨b, 0, none⟩) L.length c) ∧ L.length ≤ c ∧ c ≤ maxLen ∧ w.heap.size ≤ b ∧ strsAt w' (.slice (some ⟨b, 0, none⟩) L.length c) L ∧ (∀ i, w'.frozen? ⟨b, i, none⟩ = false) ∧ b < w'.heap.size ∧ Fr [] w w'
end Go.Proofs.YtnaamjpiaekmeaaGreat
