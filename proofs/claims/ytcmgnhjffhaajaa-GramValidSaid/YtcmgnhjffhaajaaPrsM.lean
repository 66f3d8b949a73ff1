/- The program's parser (layer 13), mathematics: what the rest of the tokens gives in each of its states. -/
import Derived.Test.YtcmgnhjffhaajaaParBs
namespace Go.Proofs.Ytcmgnhjffhaajaa
open Go.RowKit

def contC (n : List UInt8) (r : List Tk) : LinesD := if (nameD n r).ok then linesB [(nameD n r).line] (linesD (nameD n r).left) else ⟨false, [], (nameD n r).left.length⟩
def contB (n : List UInt8) (done : List (List ItemD)) (cur : List ItemD) (r : List Tk) : LinesD := if (bodyD r cur done).ok then linesB [⟨n, (bodyD r cur done).alts⟩] (linesD (bodyD r cur done).left) else ⟨false, [], (bodyD r cur done).left.length⟩
theorem linesB_two (acc : List LineD) (x : LineD) (Y : LinesD) : linesB acc (linesB [x] Y) = linesB (acc ++ [x]) Y := by
  unfold linesB
  cases hx : Y.ok with
  | true => simp
  | false => simp [hx]
theorem linesB_no (acc l : List LineD) (n : Nat) : linesB acc ⟨false, l, n⟩ = ⟨false, l, n⟩ := rfl
theorem linesB_end (acc : List LineD) : linesB acc (linesD []) = ⟨true, acc, 0⟩ := by rw [lines_nil]; simp [linesB]
theorem n_yes {t : Tk} {r : List Tk} (h : t.1 = 1) : linesD (t :: r) = contC t.2 r := by
  unfold contC
  cases hk : (ruleD (t :: r)).ok with
  | true =>
    rw [lines_ok (by simp) hk]
    rw [rule_yes h] at hk ⊢
    rw [if_pos hk]
    unfold linesB
    split
    · rfl
    · rfl
  | false =>
    rw [lines_no (by simp) hk]
    rw [rule_yes h] at hk ⊢
    rw [if_neg (by rw [hk]; simp)]
theorem n_no {t : Tk} {r : List Tk} (h : t.1 ≠ 1) : linesD (t :: r) = ⟨false, [], r.length + 1⟩ := by
  rw [lines_no (by simp) (by rw [rule_no h]), rule_no h]; rfl
theorem c_yes {n : List UInt8} {t : Tk} {r : List Tk} (h : t.1 = 3) : contC n (t :: r) = contB n [] [] r := by
  unfold contC contB
  rw [name_yes h]
theorem c_no {n : List UInt8} {t : Tk} {r : List Tk} (h : t.1 ≠ 3) : contC n (t :: r) = ⟨false, [], r.length + 1⟩ := by
  unfold contC
  rw [name_no h]
  simp
theorem c_nil {n : List UInt8} : contC n [] = ⟨false, [], 0⟩ := rfl
theorem b_item {n : List UInt8} {done : List (List ItemD)} {cur : List ItemD} {t : Tk} {r : List Tk} (h : t.1 = 1 ∨ t.1 = 2) : contB n done cur (t :: r) = contB n done (cur ++ [⟨decide (t.1 = 2), t.2⟩]) r := by
  unfold contB
  rw [body_item h]
theorem b_bar {n : List UInt8} {done : List (List ItemD)} {cur : List ItemD} {t : Tk} {r : List Tk} (h : t.1 = 4) : contB n done cur (t :: r) = contB n (done ++ [cur]) [] r := by
  unfold contB
  rw [body_bar h]
theorem b_semi {n : List UInt8} {done : List (List ItemD)} {cur : List ItemD} {t : Tk} {r : List Tk} (h : t.1 = 5) : contB n done cur (t :: r) = linesB [⟨n, done ++ [cur]⟩] (linesD r) := by
  unfold contB
  rw [body_semi h]
  simp
theorem b_bad {n : List UInt8} {done : List (List ItemD)} {cur : List ItemD} {t : Tk} {r : List Tk} (h1 : t.1 ≠ 1) (h2 : t.1 ≠ 2) (h4 : t.1 ≠ 4) (h5 : t.1 ≠ 5) : contB n done cur (t :: r) = ⟨false, [], r.length + 1⟩ := by
  unfold contB
  rw [body_bad h1 h2 h4 h5]
  simp
theorem b_nil {n : List UInt8} {done : List (List ItemD)} {cur : List ItemD} : contB n done cur [] = ⟨false, [], 0⟩ := rfl
/-- What the parser waits for. -/
inductive PSt where
  | nm
  | co (n : List UInt8)
  | bo (n : List UInt8) (done : List (List ItemD)) (cur : List ItemD)
def contP : PSt → List Tk → LinesD
  | .nm, r => linesD r
  | .co n, r => contC n r
  | .bo n done cur, r => contB n done cur r
/-- The state behind a token, or none where it cannot continue; and the lines that are whole. -/
def stepP (acc : List LineD) : PSt → Tk → Option (List LineD × PSt)
  | .nm, t => if t.1 = 1 then some (acc, .co t.2) else none
  | .co n, t => if t.1 = 3 then some (acc, .bo n [] []) else none
  | .bo n done cur, t => if t.1 = 1 ∨ t.1 = 2 then some (acc, .bo n done (cur ++ [⟨decide (t.1 = 2), t.2⟩])) else if t.1 = 4 then some (acc, .bo n (done ++ [cur]) []) else if t.1 = 5 then some (acc ++ [⟨n, done ++ [cur]⟩], .nm) else none
theorem step_yes {acc acc' : List LineD} {st st' : PSt} {t : Tk} {r : List Tk} (h : stepP acc st t = some (acc', st')) : linesB acc (contP st (t :: r)) = linesB acc' (contP st' r) := by
  cases st with
  | nm =>
    simp only [stepP] at h
    split at h
    · next h1 => cases h; show linesB acc (linesD _) = _; rw [n_yes h1]; rfl
    · cases h
  | co n =>
    simp only [stepP] at h
    split at h
    · next h1 => cases h; show linesB acc (contC n _) = _; rw [c_yes h1]; rfl
    · cases h
  | bo n done cur =>
    simp only [stepP] at h
    split at h
    · next h1 => cases h; show linesB acc (contB n done cur _) = _; rw [b_item h1]; rfl
    · split at h
      · next h4 => cases h; show linesB acc (contB n done cur _) = _; rw [b_bar h4]; rfl
      · split at h
        · next h5 => cases h; show linesB acc (contB n done cur _) = _; rw [b_semi h5, linesB_two]; rfl
        · cases h
theorem step_no {acc : List LineD} {st : PSt} {t : Tk} {r : List Tk} (h : stepP acc st t = none) : linesB acc (contP st (t :: r)) = ⟨false, [], r.length + 1⟩ := by
  cases st with
  | nm =>
    simp only [stepP] at h
    split at h
    · cases h
    · next h1 => show linesB acc (linesD _) = _; rw [n_no h1]; rfl
  | co n =>
    simp only [stepP] at h
    split at h
    · cases h
    · next h1 => show linesB acc (contC n _) = _; rw [c_no h1]; rfl
  | bo n done cur =>
    simp only [stepP] at h
    split at h
    · cases h
    · split at h
      · cases h
      · split at h
        · cases h
        · next h1 h4 h5 => show linesB acc (contB n done cur _) = _; rw [b_bad (fun e => h1 (.inl e)) (fun e => h1 (.inr e)) h4 h5]; rfl
end Go.Proofs.Ytcmgnhjffhaajaa
