/- The parser (layer 13): lines by counted steps, what All must do, and what it gives of the chapter's examples. -/
import Derived.Test.YtcmgnhjffhaajaaParDat
import Derived.Test.YtcmgnhjffhaajaaMm
namespace Go.Proofs.Ytcmgnhjffhaajaa
open Go.RowKit

theorem lines_ok {r : List Tk} (h : r ≠ []) (hk : (ruleD r).ok = true) : linesD r = if (linesD (ruleD r).left).ok then ⟨true, (ruleD r).line :: (linesD (ruleD r).left).lines, 0⟩ else linesD (ruleD r).left := by
  cases r with
  | nil => exact absurd rfl h
  | cons t q => rw [linesD, dif_pos hk]
theorem lines_no {r : List Tk} (h : r ≠ []) (hk : (ruleD r).ok = false) : linesD r = ⟨false, [], (ruleD r).left.length⟩ := by
  cases r with
  | nil => exact absurd rfl h
  | cons t q => rw [linesD, dif_neg (by rw [hk]; simp)]
theorem lines_nil : linesD [] = ⟨true, [], 0⟩ := by rw [linesD]
theorem linesAt.nil (w : World) : linesAt w (.slice none 0 0) [] := ⟨[], rfl, .inl ⟨_, _, rfl, by simp, rfl⟩, fun i h => by simp at h⟩
/-- What All gives. -/
def RPar (R : ParD) (w : World) (e : Ending) (w' : World) : Prop := ∃ v, e = .returned (.tuple #[v, .int .i64 (R.at_ : Int), .int .i64 R.err]) ∧ linesAt w' v R.lines ∧ Fr [] w w'
/-- The program's All does what the document's does. -/
def ProgPar : Prop := ∀ (m : List UInt8) (w : World), m.length ≤ 1000000 → Calls Try.prog 17 #[encStr m] w (RPar (parD m) w)
def linesF : Nat → List Tk → LinesD
  | _, [] => ⟨true, [], 0⟩
  | 0, _ => ⟨true, [], 0⟩
  | k + 1, t :: q => if (ruleD (t :: q)).ok = true then (if (linesF k (ruleD (t :: q)).left).ok then ⟨true, (ruleD (t :: q)).line :: (linesF k (ruleD (t :: q)).left).lines, 0⟩ else linesF k (ruleD (t :: q)).left) else ⟨false, [], (ruleD (t :: q)).left.length⟩
theorem lines_steps : ∀ (k : Nat) (r : List Tk), r.length ≤ k → linesD r = linesF k r
  | k, [], _ => by rw [lines_nil]; cases k <;> rfl
  | 0, _ :: _, h => by simp at h
  | k + 1, t :: q, h => by
    cases hk : (ruleD (t :: q)).ok with
    | true =>
      have hl := (rule_left (t :: q)).2 hk
      have ih := lines_steps k (ruleD (t :: q)).left (by simp at h hl; omega)
      rw [lines_ok (by simp) hk, ih]
      show _ = if (ruleD (t :: q)).ok = true then _ else _
      rw [if_pos hk]
    | false =>
      rw [lines_no (by simp) hk]
      unfold linesF
      rw [if_neg (by rw [hk]; simp)]
theorem pw_one : parD [83, 32, 58, 32, 39, 97, 39, 32, 83, 32, 124, 32, 59] = ⟨[⟨[83], [[⟨true, [97]⟩, ⟨false, [83]⟩], []]⟩], 0, 0⟩ := by
  unfold parD
  rw [aw_one]
  simp only
  rw [lines_steps 6 _ (by decide)]
  rfl
theorem pw_two : parD [83, 32, 58, 32, 58] = ⟨[], 4, 14⟩ := by
  have h : allD [83, 32, 58, 32, 58] = ⟨[⟨1, [83], 0⟩, ⟨3, [58], 2⟩, ⟨3, [58], 4⟩], 0, 0⟩ := by
    unfold allD
    rw [if_neg (by decide), lex_steps 5 _ _ (by decide)]
    rfl
  unfold parD
  rw [h]
  simp only
  rw [lines_steps 3 _ (by decide)]
  rfl
theorem pw_three : parD [83, 32, 58, 32, 39, 97, 39] = ⟨[], 7, 14⟩ := by
  have h : allD [83, 32, 58, 32, 39, 97, 39] = ⟨[⟨1, [83], 0⟩, ⟨3, [58], 2⟩, ⟨2, [97], 4⟩], 0, 0⟩ := by
    unfold allD
    rw [if_neg (by decide), lex_steps 7 _ _ (by decide)]
    rfl
  unfold parD
  rw [h]
  simp only
  rw [lines_steps 3 _ (by decide)]
  rfl
end Go.Proofs.Ytcmgnhjffhaajaa
