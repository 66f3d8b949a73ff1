/- The document's answer times. -/
import Derived.Test.YtjiighgabfkmpaaDoorShaR
namespace Go.Proofs.YtjiighgabfkmpaaDoor
open Go.RowKit

theorem valD_take_le (l : List Nat) (n : Nat) : valD (l.take n) ≤ valD l := by
  have h : valD l = valD (l.take n ++ l.drop n) := by rw [List.take_append_drop]
  rw [h, valD_append]
  omega
/-- The product so far. -/
def prodP (a b : List Nat) (i k x : Nat) : Nat := valD (a.take i) * valD b + x * 65536 ^ i * valD (b.take k)
theorem prodP_le (a b : List Nat) (i k : Nat) (hi : i < a.length) : prodP a b i k (a[i]'hi) ≤ valD a * valD b := by
  have h1 := valD_take_succ a i hi
  have h2 := valD_take_le a (i + 1)
  have h3 := valD_take_le b k
  unfold prodP
  have h4 := Nat.mul_le_mul_left ((a[i]'hi) * 65536 ^ i) h3
  have h5 := Nat.mul_le_mul_right (valD b) h2
  rw [h1, Nat.add_mul] at h5
  omega
theorem prodP_lt (a b : List Nat) (i k : Nat) (hi : i < a.length) (da : ∀ x ∈ a, x < 65536) (db : ∀ x ∈ b, x < 65536) : prodP a b i k (a[i]'hi) < 65536 ^ (a.length + b.length) := by
  have h1 := prodP_le a b i k hi
  have h2 := valD_lt a da
  have h3 := valD_lt b db
  have h4 : valD a * valD b < 65536 ^ a.length * 65536 ^ b.length := by
    rcases Nat.eq_zero_or_pos (valD b) with h0 | h0
    · rw [h0, Nat.mul_zero]; exact Nat.mul_pos (Nat.pow_pos (by decide)) (Nat.pow_pos (by decide))
    · exact Nat.lt_of_lt_of_le (Nat.mul_lt_mul_of_pos_right h2 h0) (Nat.mul_le_mul_left _ (Nat.le_of_lt h3))
  rw [← Nat.pow_add] at h4
  omega
theorem prodP_zero (a b : List Nat) (i x : Nat) : prodP a b i 0 x = valD (a.take i) * valD b := by simp [prodP, valD]
theorem prodP_next (a b : List Nat) (i k x : Nat) (hk : k < b.length) : prodP a b i (k + 1) x = prodP a b i k x + x * (b[k]'hk) * 65536 ^ (i + k) := by
  unfold prodP
  rw [valD_take_succ b k hk, Nat.mul_add, ← Nat.add_assoc, Nat.pow_add]
  congr 1
  rw [Nat.mul_assoc, Nat.mul_assoc, Nat.mul_left_comm (65536 ^ i)]
theorem prodP_end (a b : List Nat) (i : Nat) (hi : i < a.length) : prodP a b i b.length (a[i]'hi) = valD (a.take (i + 1)) * valD b := by
  unfold prodP
  rw [List.take_length, valD_take_succ a i hi, Nat.add_mul]

/-- Digits, all of them below the base but number j. -/
structure DigitsAt (out : List Nat) (n j : Nat) (V : Nat) : Prop where
  len : out.length = n
  small : ∀ i (h : i < out.length), i ≠ j → out[i]'h < 65536
  most : ∀ i (h : i < out.length), out[i]'h < 8589934592
  val : valD out = V
theorem DigitsAt.add {out : List Nat} {n j V x : Nat} (h : DigitsAt out n n V) (hj : j < n) (hx : x ≤ 4294836225) : DigitsAt (out.set j ((out[j]'(by rw [h.len]; exact hj)) + x)) n j (V + x * 65536 ^ j) where
  len := by rw [List.length_set, h.len]
  small := fun i hi hij => by
    rw [List.length_set] at hi
    rw [List.getElem_set, if_neg (Ne.symm hij)]
    exact h.small i hi (by have := h.len; omega)
  most := fun i hi => by
    rw [List.length_set] at hi
    have h1 := h.small i hi (by have := h.len; omega)
    rw [List.getElem_set]
    split
    · rename_i e; subst e; omega
    · omega
  val := by
    have hj' : j < out.length := by rw [h.len]; exact hj
    have := valD_set out j ((out[j]'hj') + x) hj'
    rw [Nat.add_mul, h.val] at this
    omega
theorem DigitsAt.carry {out : List Nat} {n j V : Nat} (h : DigitsAt out n j V) (hj : j + 1 < n) :
    DigitsAt ((out.set (j + 1) ((out[j + 1]'(by rw [h.len]; exact hj)) + (out[j]'(by rw [h.len]; omega)) / 65536)).set j ((out[j]'(by rw [h.len]; omega)) % 65536)) n (j + 1) V where
  len := by rw [List.length_set, List.length_set, h.len]
  small := fun i hi hij => by
    rw [List.length_set, List.length_set] at hi
    rw [List.getElem_set]
    split
    · exact Nat.mod_lt _ (by decide)
    · rename_i e
      rw [List.getElem_set, if_neg (by omega)]
      exact h.small i hi (by omega)
  most := fun i hi => by
    rw [List.length_set, List.length_set] at hi
    have h0 := h.most i hi
    have h1 := h.most j (by rw [h.len]; omega)
    have h2 := h.small (j + 1) (by rw [h.len]; omega) (by omega)
    rw [List.getElem_set]
    split
    · have := Nat.mod_lt (out[j]'(by rw [h.len]; omega)) (show 0 < 65536 by decide); omega
    · rw [List.getElem_set]
      split
      · omega
      · exact h0
  val := by
    have hj0 : j < out.length := by rw [h.len]; omega
    have hj1 : j + 1 < out.length := by rw [h.len]; omega
    have e1 := valD_set out (j + 1) ((out[j + 1]'hj1) + (out[j]'hj0) / 65536) hj1
    have e2 := valD_set (out.set (j + 1) ((out[j + 1]'hj1) + (out[j]'hj0) / 65536)) j ((out[j]'hj0) % 65536) (by rw [List.length_set]; exact hj0)
    rw [List.getElem_set, if_neg (by omega)] at e2
    rw [Nat.add_mul, h.val] at e1
    have e3 : (out[j]'hj0) * 65536 ^ j = (out[j]'hj0) % 65536 * 65536 ^ j + (out[j]'hj0) / 65536 * 65536 ^ (j + 1) := by
      rw [Nat.pow_succ, Nat.mul_comm (65536 ^ j), ← Nat.mul_assoc, ← Nat.add_mul]
      congr 1
      omega
    omega
theorem DigitsAt.done {out : List Nat} {n j V : Nat} (h : DigitsAt out n j V) (hj : j < n) (hV : V < 65536 ^ n) (hx : ¬ (65536 ≤ (out[j]'(by rw [h.len]; exact hj)) ∧ j + 1 < n)) : DigitsAt out n n V where
  len := h.len
  small := fun i hi _ => by
    by_cases e : i = j
    · subst e
      rcases Nat.lt_or_ge (out[i]'hi) 65536 with q | q
      · exact q
      · have hn : i + 1 = n := by omega
        have h1 := valD_le out i hi
        have h2 := Nat.mul_le_mul_right (65536 ^ i) q
        rw [h.val] at h1
        rw [← hn, Nat.pow_succ, Nat.mul_comm] at hV
        omega
    · exact h.small i hi e
  most := h.most
  val := h.val
end Go.Proofs.YtjiighgabfkmpaaDoor
