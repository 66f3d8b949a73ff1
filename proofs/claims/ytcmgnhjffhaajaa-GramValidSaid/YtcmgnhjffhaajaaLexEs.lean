/- Lexing (layer 12): slices of tokens, what All gives. -/
import Derived.Test.YtcmgnhjffhaajaaLexDs
import Derived.Test.YtcmgnhjffhaajaaBs
namespace Go.Proofs.Ytcmgnhjffhaajaa
open Go.RowKit


def TokD.cells (t : TokD) : List Value := [.int .i64 t.kind, encStr t.text, .int .i64 (t.at_ : Int)]
/-- A slice of tokens. -/
def toksAt (w : World) (v : Value) (l : List TokD) : Prop := elemsAt w v 3 (l.map TokD.cells)
/-- What All gives. -/
def RAll (R : LexD) (w : World) (e : Ending) (w' : World) : Prop := ∃ v, e = .returned (.tuple #[v, .int .i64 (R.at_ : Int), .int .i64 R.err]) ∧ toksAt w' v R.toks ∧ Fr [] w w'
theorem restC_at {m : List UInt8} {a j : Nat} (h1 : a ≤ j) (h2 : j ≤ m.length) (hall : ∀ i, a ≤ i → i < j → ∀ h : i < m.length, (!decide (m[i]'h = 10)) = true) (hend : ∀ h : j < m.length, (!decide (m[j]'h = 10)) = false) : restC (m.drop a) = m.drop j := by
  have hr := run_at (p := fun c => !decide (c = 10)) h1 h2 hall hend
  have hs := List.takeWhile_append_dropWhile (p := fun c : UInt8 => !decide (c = 10)) (l := m.drop a)
  have hl : ((m.take j).drop a).length = j - a := by rw [List.length_drop, List.length_take]; omega
  have h3 : m.drop a = (m.take j).drop a ++ m.drop j := by
    have : m.drop a = (m.take j ++ m.drop j).drop a := by rw [List.take_append_drop]
    rw [this, List.drop_append_of_le_length (by rw [List.length_take]; omega)]
  rw [hr] at hs
  unfold restC
  have := hs.trans h3
  exact List.append_cancel_left this
theorem behind_err {acc : List TokD} {p : Nat} {e : Int} (h : e ≠ 0) : behindD acc ⟨[], p, e⟩ = ⟨[], p, e⟩ := if_neg h
theorem nextV_ok {a : Nat} {N : NextD} (h : N.err = 0) : nextV a N = .tuple #[.agg #[.int .i64 N.kind, encStr N.text, .int .i64 (a : Int)], .int .i64 ((a + N.n : Nat) : Int), .int .i64 0] := by
  unfold nextV; rw [if_pos h, h]
theorem nextV_no {a : Nat} {N : NextD} (h : N.err ≠ 0) : nextV a N = .tuple #[.agg #[.int .i64 N.kind, encStr N.text, .int .i64 0], .int .i64 ((a + N.n : Nat) : Int), .int .i64 N.err] := by
  unfold nextV; rw [if_neg h]
end Go.Proofs.Ytcmgnhjffhaajaa
