/- Several texts in one: LexDs, LexEs, LexTk, LexPa. -/
import Derived.Test.YtgfpkmnmdehkpaaGreatLy
import Derived.Test.YtgfpkmnmdehkpaaGreatBs
import Derived.Test.YtgfpkmnmdehkpaaGreatMm
set_option linter.unusedVariables false
set_option linter.unusedSimpArgs false
/-! Lexing (layer 12): a small law. -/
namespace Go.Proofs.YtgfpkmnmdehkpaaGreat
open Go.RowKit


theorem head_drop (m : List UInt8) (k : Nat) : (m.drop k).head? = m[k]? := by rw [List.head?_drop]

end Go.Proofs.YtgfpkmnmdehkpaaGreat

/-! Lexing (layer 12): slices of tokens, what All gives. -/
namespace Go.Proofs.YtgfpkmnmdehkpaaGreat
open Go.RowKit


def TokD.cells (t : TokD) : List Value := [.int .i64 t.kind, encStr t.text, .int .i64 (t.at_ : Int)]
/-- A slice of tokens. -/
def toksAt (w : World) (v : Value) (l : List TokD) : Prop := elemsAt w v 3 (l.map TokD.cells)
/-- What All gives. -/
def RAll (R : LexD) (w : World) (e : Ending) (w' : World) : Prop := ∃ v, e = .returned (.tuple #[v, .int .i64 (R.at_ : Int), .int .i64 R.err]) ∧ toksAt w' v R.toks ∧ Fr [] w w'
theorem restC_at {m : List UInt8} {a j : Nat} (h1 : a ≤ j) (h2 : j ≤ m.length) (hall : ∀ i, a ≤ i → i < j → ∀ h : i < m.length, (!decide (m[i]'h = 10)) = true) (hend : ∀ h : j < m.length, (!decide (m[j]'h = 10)) = false) : restC (m.drop a) = m.drop j := by
  have hr := run_at (p := fun c => !decide (c = 10)) h1 h2 hall hend
  have hs := List.takeWhile_append_dropWhile (p := fun c : UInt8 => !decide (c = 10)) (l := m.drop a)
  have hl : ((m.take j).drop a).length = j - a := by rw [List.length_drop, List.length_take]; omega
  have h3 : m.drop a = (m.take j).drop a ++ m.drop j := by
    have : m.drop a = (m.take j ++ m.drop j).drop a := by rw [List.take_append_drop]
    rw [this, List.drop_append_of_le_length (by rw [List.length_take]; omega)]
  rw [hr] at hs
  unfold restC
  have := hs.trans h3
  exact List.append_cancel_left this
theorem behind_err {acc : List TokD} {p : Nat} {e : Int} (h : e ≠ 0) : behindD acc ⟨[], p, e⟩ = ⟨[], p, e⟩ := if_neg h
theorem nextV_ok {a : Nat} {N : NextD} (h : N.err = 0) : nextV a N = .tuple #[.agg #[.int .i64 N.kind, encStr N.text, .int .i64 (a : Int)], .int .i64 ((a + N.n : Nat) : Int), .int .i64 0] := by
  unfold nextV; rw [if_pos h, h]
theorem nextV_no {a : Nat} {N : NextD} (h : N.err ≠ 0) : nextV a N = .tuple #[.agg #[.int .i64 N.kind, encStr N.text, .int .i64 0], .int .i64 ((a + N.n : Nat) : Int), .int .i64 N.err] := by
  unfold nextV; rw [if_neg h]
end Go.Proofs.YtgfpkmnmdehkpaaGreat

/-! Slices of tokens: their form, their cells (layer 12). -/
namespace Go.Proofs.YtgfpkmnmdehkpaaGreat
open Go.RowKit

theorem toksAt.form {w : World} {v : Value} {l : List TokD} (h : toksAt w v l) : ∃ a cap, v = .slice a l.length cap ∧ l.length ≤ cap ∧ cap ≤ 9223372036854775807 := by
  obtain ⟨a, c, rfl, h1, h2⟩ := elemsAt.form h
  rw [List.length_map] at h1 ⊢
  exact ⟨a, c, rfl, h1, by simpa [maxLen] using h2⟩
/-- The cells of a token. -/
theorem tok_cells {w : World} {a0 : Option Addr} {n cap : Nat} {l : List TokD} (h : toksAt w (.slice a0 n cap) l) (k : Nat) (hk : k < l.length) : ∃ b off, a0 = some ⟨b, off, none⟩ ∧
    w.cell? ⟨b, off + k * 3, none⟩ = some (.int .i64 (l[k]'hk).kind) ∧ w.cell? ⟨b, off + k * 3 + 1, none⟩ = some (encStr (l[k]'hk).text) ∧ w.cell? ⟨b, off + k * 3 + 2, none⟩ = some (.int .i64 ((l[k]'hk).at_ : Int)) := by
  rcases h with ⟨_, _, _, _, e⟩ | ⟨b, off, cap', e, _, _, hb, hcell⟩
  · rw [List.map_eq_nil_iff] at e; subst e; simp at hk
  · simp only [Value.slice.injEq, List.length_map] at e
    obtain ⟨rfl, hn, rfl⟩ := e
    obtain ⟨-, h1⟩ := hcell k (by simpa using hk)
    rw [List.getElem_map] at h1
    exact ⟨b, off, rfl, by simpa using h1 0 _ rfl, h1 1 _ rfl, h1 2 _ rfl⟩
theorem toksAt.below {w w' : World} {v : Value} {l : List TokD} (h : toksAt w v l) (hf : Fr [] w w') : toksAt w' v l := elemsAt.below h hf
end Go.Proofs.YtgfpkmnmdehkpaaGreat

/-! What the lexer (layer 12) must give. -/
namespace Go.Proofs.YtgfpkmnmdehkpaaGreat
open Go.RowKit

/-- The program's All does what the document's does. -/
def ProgAll : Prop := ∀ (m : List UInt8) (w : World), m.length ≤ 1000000 → Calls Tryz.prog 46 #[encStr m] w (RAll (allD m) w)
end Go.Proofs.YtgfpkmnmdehkpaaGreat
