/- Slices of tokens: their form, their cells (layer 12). -/
import Derived.Test.YtcmgnhjffhaajaaLexEs
namespace Go.Proofs.Ytcmgnhjffhaajaa
open Go.RowKit

theorem toksAt.form {w : World} {v : Value} {l : List TokD} (h : toksAt w v l) : ∃ a cap, v = .slice a l.length cap ∧ l.length ≤ cap ∧ cap ≤ 9223372036854775807 := by
  obtain ⟨a, c, rfl, h1, h2⟩ := elemsAt.form h
  rw [List.length_map] at h1 ⊢
  exact ⟨a, c, rfl, h1, by simpa [maxLen] using h2⟩
/-- The cells of a token. -/
theorem tok_cells {w : World} {a0 : Option Addr} {n cap : Nat} {l : List TokD} (h : toksAt w (.slice a0 n cap) l) (k : Nat) (hk : k < l.length) : ∃ b off, a0 = some ⟨b, off, none⟩ ∧
    w.cell? ⟨b, off + k * 3, none⟩ = some (.int .i64 (l[k]'hk).kind) ∧ w.cell? ⟨b, off + k * 3 + 1, none⟩ = some (encStr (l[k]'hk).text) ∧ w.cell? ⟨b, off + k * 3 + 2, none⟩ = some (.int .i64 ((l[k]'hk).at_ : Int)) := by
  rcases h with ⟨_, _, _, _, e⟩ | ⟨b, off, cap', e, _, _, hb, hcell⟩
  · rw [List.map_eq_nil_iff] at e; subst e; simp at hk
  · simp only [Value.slice.injEq, List.length_map] at e
    obtain ⟨rfl, hn, rfl⟩ := e
    obtain ⟨-, h1⟩ := hcell k (by simpa using hk)
    rw [List.getElem_map] at h1
    exact ⟨b, off, rfl, by simpa using h1 0 _ rfl, h1 1 _ rfl, h1 2 _ rfl⟩
theorem toksAt.below {w w' : World} {v : Value} {l : List TokD} (h : toksAt w v l) (hf : Fr [] w w') : toksAt w' v l := elemsAt.below h hf
end Go.Proofs.Ytcmgnhjffhaajaa
