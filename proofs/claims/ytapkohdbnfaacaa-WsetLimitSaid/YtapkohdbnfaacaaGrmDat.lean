/- Grammars as Go data (layer 14): what they read like. Nothing here names the program. -/
import Derived.Test.YtapkohdbnfaacaaMm
import Derived.Test.YtapkohdbnfaacaaParDat
import Derived.Test.YtapkohdbnfaacaaStrsD
set_option linter.unusedVariables false
set_option linter.unusedSimpArgs false
namespace Go.Proofs.Ytapkohdbnfaacaa
open Go.RowKit
def intV (x : Int) : Value := .int .i64 x
def intsAt (w : World) (v : Value) (l : List Int) : Prop := cellsAt w v (l.map intV)
def rulesAt (w : World) (v : Value) (l : List RuleG) : Prop := ∃ vs : List Value, vs.length = l.length ∧ elemsAt w v 2 ((l.zip vs).map fun p => [intV p.1.left, p.2]) ∧ ∀ i (h : i < vs.length) (h' : i < l.length), intsAt w (vs[i]'h) (l[i]'h').right
def gramAt (w : World) (v : Value) (g : GramG) : Prop := ∃ a b c, v = .agg #[a, b, c] ∧ strsAt w a g.names ∧ strsAt w b g.terms ∧ rulesAt w c g.rules
theorem intsAt.below {w w' : World} {v : Value} {l : List Int} (h : intsAt w v l) (hf : Fr [] w w') : intsAt w' v l := cellsAt.below h hf
theorem rulesAt.below {w w' : World} {v : Value} {l : List RuleG} (h : rulesAt w v l) (hf : Fr [] w w') : rulesAt w' v l := by
  obtain ⟨vs, e, hc, hi⟩ := h
  exact ⟨vs, e, elemsAt.below hc hf, fun i a b => (hi i a b).below hf⟩
theorem gramAt.below {w w' : World} {v : Value} {g : GramG} (h : gramAt w v g) (hf : Fr [] w w') : gramAt w' v g := by
  obtain ⟨a, b, c, e, h1, h2, h3⟩ := h
  exact ⟨a, b, c, e, h1.below hf, h2.below hf, h3.below hf⟩
theorem intsAt.form {w : World} {v : Value} {l : List Int} (h : intsAt w v l) : ∃ a cap, v = .slice a l.length cap ∧ l.length ≤ cap ∧ cap ≤ 9223372036854775807 := by
  obtain ⟨a, c, rfl, h1, h2⟩ := cellsAt.form h
  rw [List.length_map] at h1 ⊢
  exact ⟨a, c, rfl, h1, by simpa [maxLen] using h2⟩
theorem rulesAt.form {w : World} {v : Value} {l : List RuleG} (h : rulesAt w v l) : ∃ a cap, v = .slice a l.length cap ∧ l.length ≤ cap ∧ cap ≤ 9223372036854775807 := by
  obtain ⟨vs, e, hc, -⟩ := h
  obtain ⟨a, c, rfl, h1, h2⟩ := elemsAt.form hc
  rw [List.length_map, List.length_zip, e, Nat.min_self] at h1 ⊢
  exact ⟨a, c, rfl, h1, by simpa [maxLen] using h2⟩
theorem int_cell {w : World} {a0 : Option Addr} {n cap : Nat} {l : List Int} (h : intsAt w (.slice a0 n cap) l) (k : Nat) (hk : k < l.length) : ∃ b off, a0 = some ⟨b, off, none⟩ ∧ w.cell? ⟨b, off + k, none⟩ = some (.int .i64 (l[k]'hk)) := by
  obtain ⟨b, off, rfl, -, hx⟩ := cellsAt.get h (i := k) (by rw [List.length_map]; exact hk)
  exact ⟨b, off, rfl, by have := hx k (by rw [List.length_map]; exact hk); rwa [List.getElem_map] at this⟩
theorem rule_cells {w : World} {a0 : Option Addr} {n cap : Nat} {l : List RuleG} (h : rulesAt w (.slice a0 n cap) l) (k : Nat) (hk : k < l.length) : ∃ b off v, a0 = some ⟨b, off, none⟩ ∧ w.cell? ⟨b, off + k * 2, none⟩ = some (.int .i64 (l[k]'hk).left) ∧ w.cell? ⟨b, off + k * 2 + 1, none⟩ = some v ∧ intsAt w v (l[k]'hk).right := by
  obtain ⟨vs, e, hc, hi⟩ := h
  have hlen : ((l.zip vs).map fun p => [intV p.1.left, p.2]).length = l.length := by rw [List.length_map, List.length_zip, e, Nat.min_self]
  rcases hc with ⟨_, _, _, _, e2⟩ | ⟨b, off, cap', e2, _, _, hb, hcell⟩
  · rw [e2] at hlen; simp at hlen; omega
  · simp only [Value.slice.injEq] at e2
    obtain ⟨rfl, hn, rfl⟩ := e2
    obtain ⟨-, h1⟩ := hcell k (by rw [hlen]; exact hk)
    rw [List.getElem_map, List.getElem_zip] at h1
    exact ⟨b, off, _, rfl, by have := h1 0 _ rfl; simp only [Nat.add_zero] at this; exact this, h1 1 _ rfl, hi k (by omega) hk⟩
theorem cells_lt {w : World} {a0 : Option Addr} {n cap : Nat} {l : List Int} (h : intsAt w (.slice a0 n cap) l) : l.length ≤ 9223372036854775807 := by
  obtain ⟨a, c, e, h1, h2⟩ := h.form
  omega
end Go.Proofs.Ytapkohdbnfaacaa
