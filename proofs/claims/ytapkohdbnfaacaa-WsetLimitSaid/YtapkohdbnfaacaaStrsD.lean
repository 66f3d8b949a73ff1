/- Slices of strings: what they read like. Nothing here names the program. -/
import Derived.Test.YtapkohdbnfaacaaRow
import Derived.Sort.EncStr
set_option linter.unusedVariables false
set_option linter.unusedSimpArgs false
namespace Go.Proofs.Ytapkohdbnfaacaa
open Go.RowKit


def strsAt (w : World) (v : Value) (l : List (List UInt8)) : Prop := cellsAt w v (l.map encStr)
theorem strsAt.below {w w' : World} {v : Value} {l : List (List UInt8)} (h : strsAt w v l) (hf : Fr [] w w') : strsAt w' v l := cellsAt.below h hf
theorem strsAt.form {w : World} {v : Value} {l : List (List UInt8)} (h : strsAt w v l) : ∃ a cap, v = .slice a l.length cap ∧ l.length ≤ cap ∧ cap ≤ 9223372036854775807 := by
  obtain ⟨a, c, rfl, h1, h2⟩ := cellsAt.form h
  rw [List.length_map] at h1 ⊢
  exact ⟨a, c, rfl, h1, by simpa [maxLen] using h2⟩
theorem str_cell {w : World} {a0 : Option Addr} {n cap : Nat} {l : List (List UInt8)} (h : strsAt w (.slice a0 n cap) l) (k : Nat) (hk : k < l.length) : ∃ b off, a0 = some ⟨b, off, none⟩ ∧ w.cell? ⟨b, off + k, none⟩ = some (encStr (l[k]'hk)) := by
  obtain ⟨b, off, rfl, -, hx⟩ := cellsAt.get h (i := k) (by rw [List.length_map]; exact hk)
  exact ⟨b, off, rfl, by have := hx k (by rw [List.length_map]; exact hk); rwa [List.getElem_map] at this⟩
end Go.Proofs.Ytapkohdbnfaacaa
