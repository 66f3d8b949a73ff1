/- Lookahead words (layer 18): plain mathematics. Nothing here names the program. -/
import Derived.Test.YtapkohdbnfaacaaBase
set_option linter.unusedVariables false
set_option linter.unusedSimpArgs false
namespace Go.Proofs.Ytapkohdbnfaacaa

def cutW (w : List UInt8) (k : Int) : List UInt8 := w.take k.toNat
def belowW (w : List UInt8) (n : Int) : Bool := w.all fun b => decide ((b.toNat : Int) < n)
def validW (w : List UInt8) (t k : Int) : Bool := decide ((w.length : Int) ≤ k) && belowW w t
def extW (t : Nat) (w : List UInt8) : List (List UInt8) := (List.range t).map fun i => w ++ [UInt8.ofNat i]
/-- The words when so many of them are extended. -/
def wordsW (t : Nat) : Nat → List (List UInt8)
  | 0 => [[]]
  | j + 1 => wordsW t j ++ extW t ((wordsW t j).getD j [])
def wordW (t j i : Nat) : List UInt8 := (wordsW t j).getD i []
def goesW (t k j : Nat) : Prop := j < (wordsW t j).length ∧ (wordW t j j).length < k
def AllIs (t k : Nat) (r : Option (List (List UInt8))) : Prop :=
  ∃ j, (∀ i, i < j → goesW t k i ∧ (wordsW t i).length + t ≤ 4096) ∧ ((¬ goesW t k j ∧ r = some (wordsW t j)) ∨ (goesW t k j ∧ 4096 < (wordsW t j).length + t ∧ r = none))
theorem AllIs.one {t k : Nat} {r r' : Option (List (List UInt8))} (h : AllIs t k r) (h' : AllIs t k r') : r = r' := by
  obtain ⟨j, h1, h2⟩ := h
  obtain ⟨j', h1', h2'⟩ := h'
  have key : ∀ (j j' : Nat) (r r' : Option (List (List UInt8))), (∀ i, i < j' → goesW t k i ∧ (wordsW t i).length + t ≤ 4096) → ((¬ goesW t k j ∧ r = some (wordsW t j)) ∨ (goesW t k j ∧ 4096 < (wordsW t j).length + t ∧ r = none)) → j' ≤ j := by
    intro j j' r r' a b
    apply Nat.le_of_not_lt
    intro hlt
    obtain ⟨c, d⟩ := a j hlt
    rcases b with ⟨b, -⟩ | ⟨-, b, -⟩
    · exact b c
    · omega
  have e : j = j' := Nat.le_antisymm (key j' j r' r h1 h2') (key j j' r r' h1' h2)
  subst e
  rcases h2 with ⟨a, rfl⟩ | ⟨a, b, rfl⟩ <;> rcases h2' with ⟨a', rfl⟩ | ⟨a', b', rfl⟩
  · rfl
  · exact (a a').elim
  · exact (a' a).elim
  · rfl
def AllV (t k : Int) (l : List (List UInt8)) : Prop :=
  ((k < 0 ∨ t < 0 ∨ 256 < t) ∧ l = []) ∨ (0 ≤ k ∧ 0 ≤ t ∧ t ≤ 256 ∧ ∃ r, AllIs t.toNat k.toNat r ∧ l = r.getD [])
theorem AllV.one {t k : Int} {l l' : List (List UInt8)} (h : AllV t k l) (h' : AllV t k l') : l = l' := by
  rcases h with ⟨a, rfl⟩ | ⟨a, b, c, r, d, rfl⟩ <;> rcases h' with ⟨a', rfl⟩ | ⟨a', b', c', r', d', rfl⟩
  · rfl
  · omega
  · omega
  · rw [d.one d']
theorem extW_len (t : Nat) (w : List UInt8) : (extW t w).length = t := by simp [extW]
theorem wordsW_len (t : Nat) : ∀ j, (wordsW t j).length = 1 + j * t
  | 0 => by simp [wordsW]
  | j + 1 => by rw [wordsW, List.length_append, wordsW_len t j, extW_len, Nat.succ_mul]; omega
theorem wordsW_pre (t : Nat) : ∀ {i j : Nat}, i ≤ j → ∃ s, wordsW t j = wordsW t i ++ s := by
  intro i j h
  induction j with
  | zero => obtain rfl : i = 0 := by omega
            exact ⟨[], by simp⟩
  | succ j ih =>
    by_cases e : i = j + 1
    · subst e; exact ⟨[], by simp⟩
    · obtain ⟨s, hs⟩ := ih (by omega)
      exact ⟨s ++ extW t ((wordsW t j).getD j []), by rw [wordsW, ← List.append_assoc, ← hs]⟩
theorem wordW_pre (t : Nat) {i j q : Nat} (h : i ≤ j) (hq : q < (wordsW t i).length) : wordW t j q = wordW t i q := by
  obtain ⟨s, hs⟩ := wordsW_pre t h
  unfold wordW
  rw [hs, List.getD_eq_getElem?_getD, List.getD_eq_getElem?_getD, List.getElem?_append_left hq]
theorem wordsW_mem (t : Nat) : ∀ (j : Nat) (w : List UInt8), w ∈ wordsW t (j + 1) → w ∈ wordsW t j ∨ ∃ i, i < t ∧ w = wordW t j j ++ [UInt8.ofNat i] := by
  intro j w h
  rw [wordsW] at h
  rcases List.mem_append.1 h with h | h
  · exact .inl h
  · obtain ⟨i, hi, rfl⟩ := List.mem_map.1 h
    exact .inr ⟨i, List.mem_range.1 hi, rfl⟩
theorem wordW_all (t j q : Nat) (P : List UInt8 → Prop) (h0 : P []) (h : ∀ w ∈ wordsW t j, P w) : P (wordW t j q) := by
  unfold wordW
  rw [List.getD_eq_getElem?_getD]
  rcases Nat.lt_or_ge q (wordsW t j).length with hq | hq
  · rw [List.getElem?_eq_getElem hq]; exact h _ (List.getElem_mem hq)
  · rw [List.getElem?_eq_none hq]; exact h0
theorem wordsW_short (t : Nat) : ∀ (j : Nat), ∀ w ∈ wordsW t j, w.length ≤ j
  | 0, w, h => by simp [wordsW] at h; simp [h]
  | j + 1, w, h => by
    rcases wordsW_mem t j w h with h | ⟨i, _, rfl⟩
    · have := wordsW_short t j w h; omega
    · have := wordW_all t j j (fun w => w.length ≤ j) (by simp) (wordsW_short t j)
      simp; omega
theorem wordsW_below (t : Nat) (ht : t ≤ 256) : ∀ (j : Nat), ∀ w ∈ wordsW t j, ∀ b ∈ w, b.toNat < t
  | 0, w, h => by simp [wordsW] at h; simp [h]
  | j + 1, w, h => by
    rcases wordsW_mem t j w h with h | ⟨i, hi, rfl⟩
    · exact wordsW_below t ht j w h
    · intro b hb
      rcases List.mem_append.1 hb with hb | hb
      · exact wordW_all t j j (fun w => ∀ b ∈ w, b.toNat < t) (by simp) (wordsW_below t ht j) b hb
      · obtain rfl := List.mem_singleton.1 hb
        rw [UInt8.toNat_ofNat']; omega
theorem wordsW_most (t k : Nat) : ∀ (j : Nat), (∀ i, i < j → goesW t k i) → ∀ w ∈ wordsW t j, w.length ≤ k
  | 0, _, w, h => by simp [wordsW] at h; simp [h]
  | j + 1, hg, w, h => by
    rcases wordsW_mem t j w h with h | ⟨i, _, rfl⟩
    · exact wordsW_most t k j (fun i hi => hg i (by omega)) w h
    · have := (hg j (by omega)).2
      simp; omega
theorem all_valid {t k : Int} {l : List (List UInt8)} (h : AllV t k l) : ∀ w ∈ l, validW w t k = true := by
  rcases h with ⟨-, rfl⟩ | ⟨h0, h1, h2, r, ⟨j, hj, hr⟩, rfl⟩
  · simp
  · rcases hr with ⟨-, rfl⟩ | ⟨-, -, rfl⟩
    · intro w hw
      have a := wordsW_most t.toNat k.toNat j (fun i hi => (hj i hi).1) w hw
      have b := wordsW_below t.toNat (by omega) j w hw
      unfold validW belowW
      rw [Bool.and_eq_true, decide_eq_true_eq, List.all_eq_true]
      exact ⟨by omega, fun x hx => decide_eq_true (by have := b x hx; omega)⟩
    · simp
/-- A level: from one on, as many as there were, all words are of one length; then those behind them are one longer. -/
theorem wordsW_level (t f m : Nat) (h : ∀ i, f ≤ i → i < (wordsW t f).length → (wordW t f i).length = m) :
    ∀ j, f ≤ j → j ≤ (wordsW t f).length → ∀ i, (wordsW t f).length ≤ i → i < (wordsW t j).length → (wordW t j i).length = m + 1 := by
  intro j hfj
  induction j with
  | zero =>
    intro _ i h1 h2
    obtain rfl : f = 0 := by omega
    omega
  | succ j ih =>
    intro hj i h1 h2
    by_cases hf : f = j + 1
    · subst hf; omega
    · by_cases hi : i < (wordsW t j).length
      · rw [wordW_pre t (Nat.le_succ j) hi]
        exact ih (by omega) (by omega) i h1 hi
      · have hw : (wordW t j j).length = m := by
          rw [wordW_pre t (show f ≤ j by omega) (by omega)]
          exact h j (by omega) (by omega)
        unfold wordW
        rw [List.getD_eq_getElem?_getD, List.getElem?_eq_getElem h2, Option.getD_some]
        simp only [wordsW]
        rw [List.getElem_append_right (by omega)]
        simp only [extW, List.getElem_map, List.length_append]
        rw [show ((wordsW t j).getD j []).length = m from hw]
        rfl
/-- The level that stands at the end of the words: none of its words goes on. -/
theorem level_end (t k f : Nat) (h : ∀ i, f ≤ i → i < (wordsW t f).length → (wordW t f i).length = k) : ¬ goesW t k f := by
  rintro ⟨h1, h2⟩
  have := h f (Nat.le_refl _) h1
  omega
theorem extW_next (t n : Nat) (w : List UInt8) (h : n < t) : (extW t w).take (n + 1) = (extW t w).take n ++ [w ++ [UInt8.ofNat n]] := by
  rw [List.take_succ_eq_append_getElem (by rw [extW_len]; exact h)]
  simp [extW]
theorem extW_all (t : Nat) (w : List UInt8) : (extW t w).take t = extW t w := List.take_of_length_le (by rw [extW_len]; exact Nat.le_refl t)
end Go.Proofs.Ytapkohdbnfaacaa
