/- Roots of primes, plain mathematics: numbers to the base 65536, primes, the first bits of a root. Nothing here names the program. -/
import Derived.Test.YtjiighgabfkmpaaDoorShaMath
namespace Go.Proofs.YtjiighgabfkmpaaDoor

/-- What digits to the base 65536 are worth, the lowest one first. -/
def valD : List Nat → Nat
  | [] => 0
  | x :: l => x + 65536 * valD l
theorem valD_append (a b : List Nat) : valD (a ++ b) = valD a + 65536 ^ a.length * valD b := by
  induction a with
  | nil => simp [valD]
  | cons x a ih =>
    rw [List.cons_append, valD, valD, ih, List.length_cons, Nat.pow_succ, Nat.mul_add, ← Nat.add_assoc, ← Nat.mul_assoc, Nat.mul_comm 65536 (65536 ^ a.length)]
theorem valD_set (l : List Nat) : ∀ (j x : Nat) (h : j < l.length), valD (l.set j x) + (l[j]'h) * 65536 ^ j = valD l + x * 65536 ^ j := by
  induction l with
  | nil => intro j x h; simp at h
  | cons y l ih =>
    intro j x h
    cases j with
    | zero => simp [valD]; omega
    | succ j =>
      have := ih j x (by simpa using h)
      simp only [List.set_cons_succ, List.getElem_cons_succ, valD, Nat.pow_succ]
      have e1 : ∀ z, z * (65536 ^ j * 65536) = 65536 * (z * 65536 ^ j) := fun z => by rw [← Nat.mul_assoc, Nat.mul_comm]
      rw [e1, e1]
      omega
theorem valD_lt (l : List Nat) (h : ∀ x ∈ l, x < 65536) : valD l < 65536 ^ l.length := by
  induction l with
  | nil => simp [valD]
  | cons x l ih =>
    have h1 := ih (fun y hy => h y (by simp [hy]))
    have h2 := h x (by simp)
    rw [valD, List.length_cons, Nat.pow_succ]
    omega
theorem valD_le (l : List Nat) (j : Nat) (h : j < l.length) : (l[j]'h) * 65536 ^ j ≤ valD l := by
  have := valD_set l j 0 h
  omega
theorem valD_zeros (n : Nat) : valD (List.replicate n 0) = 0 := by
  induction n with
  | zero => rfl
  | succ n ih => rw [List.replicate_succ, valD, ih]
theorem valD_take_succ (l : List Nat) (k : Nat) (h : k < l.length) : valD (l.take (k + 1)) = valD (l.take k) + (l[k]'h) * 65536 ^ k := by
  rw [List.take_succ_eq_append_getElem h, valD_append, List.length_take, Nat.min_eq_left (by omega)]
  simp [valD, Nat.mul_comm]
theorem valD_pos (l : List Nat) : 0 < valD l ↔ ∃ x ∈ l, 0 < x := by
  induction l with
  | nil => simp [valD]
  | cons x l ih =>
    rw [valD]
    constructor
    · intro h
      by_cases hx : 0 < x
      · exact ⟨x, by simp, hx⟩
      · obtain ⟨y, hy, h0⟩ := ih.1 (by omega)
        exact ⟨y, by simp [hy], h0⟩
    · rintro ⟨y, hy, h0⟩
      rcases List.mem_cons.1 hy with rfl | hy
      · omega
      · have := ih.2 ⟨y, hy, h0⟩
        omega

/-- Whether digits are above a number that stands behind z zeros. -/
def aboveN (l : List Nat) (p z : Nat) : Bool := decide (p * 65536 ^ z < valD l)
theorem above_split (l : List Nat) (z : Nat) (hz : z < l.length) : valD l = valD (l.take z) + 65536 ^ z * ((l[z]'hz) + 65536 * valD (l.drop (z + 1))) := by
  have e : l = l.take z ++ l[z] :: l.drop (z + 1) := by rw [List.getElem_cons_drop, List.take_append_drop]
  have h1 : valD l = valD (l.take z ++ l[z] :: l.drop (z + 1)) := congrArg valD e
  rw [valD_append, List.length_take, Nat.min_eq_left (by omega), valD] at h1
  exact h1
theorem above_high (l : List Nat) (p z : Nat) (hz : z < l.length) (hp : p < 65536) (i : Nat) (hi : z < i) (hil : i < l.length) (h : 0 < l[i]) : aboveN l p z = true := by
  refine decide_eq_true ?_
  rw [above_split l z hz]
  have h1 : 0 < valD (l.drop (z + 1)) := (valD_pos _).2 ⟨l[i], by
    have : l[i] = (l.drop (z + 1))[i - (z + 1)]'(by rw [List.length_drop]; omega) := by rw [List.getElem_drop]; congr 1; omega
    rw [this]; exact List.getElem_mem _, h⟩
  have h2 : p < l[z] + 65536 * valD (l.drop (z + 1)) := by omega
  have h3 := Nat.mul_lt_mul_of_pos_left h2 (Nat.pow_pos (a := 65536) (n := z) (by decide))
  rw [Nat.mul_comm p]
  omega
theorem high_zero (l : List Nat) (z : Nat) (h : ∀ i (hi : i < l.length), z < i → l[i] = 0) : valD (l.drop (z + 1)) = 0 := by
  rcases Nat.eq_zero_or_pos (valD (l.drop (z + 1))) with h0 | h0
  · exact h0
  · obtain ⟨x, hx, hp⟩ := (valD_pos _).1 h0
    obtain ⟨i, hi, rfl⟩ := List.getElem_of_mem hx
    rw [List.getElem_drop] at hp
    rw [List.length_drop] at hi
    have := h (z + 1 + i) (by omega) (by omega)
    omega
theorem above_mid (l : List Nat) (p z : Nat) (hz : z < l.length) (hd : ∀ x ∈ l, x < 65536) (h : ∀ i (hi : i < l.length), z < i → l[i] = 0) (hne : l[z] ≠ p) : aboveN l p z = decide (p < l[z]) := by
  have h0 := high_zero l z h
  have hlt := valD_lt (l.take z) (fun x hx => hd x (List.mem_of_mem_take hx))
  rw [List.length_take, Nat.min_eq_left (by omega)] at hlt
  rw [aboveN, above_split l z hz, h0]
  congr 1
  rw [Nat.mul_zero, Nat.add_zero, Nat.mul_comm p]
  apply propext
  constructor
  · intro h1
    rcases Nat.lt_or_ge p l[z] with q | q
    · exact q
    · have h2 : l[z] + 1 ≤ p := by omega
      have h3 := Nat.mul_le_mul_left (65536 ^ z) h2
      rw [Nat.mul_add, Nat.mul_one] at h3
      omega
  · intro h1
    have h3 := Nat.mul_lt_mul_of_pos_left h1 (Nat.pow_pos (a := 65536) (n := z) (by decide))
    omega
theorem above_low (l : List Nat) (p z : Nat) (hz : z < l.length) (h : ∀ i (hi : i < l.length), z < i → l[i] = 0) (he : l[z] = p) (i : Nat) (hi : i < z) (hp : 0 < l[i]'(by omega)) : aboveN l p z = true := by
  have h0 := high_zero l z h
  have h1 : 0 < valD (l.take z) := (valD_pos _).2 ⟨l[i]'(by omega), by
    have : l[i]'(by omega) = (l.take z)[i]'(by rw [List.length_take]; omega) := by rw [List.getElem_take]
    rw [this]; exact List.getElem_mem _, hp⟩
  refine decide_eq_true ?_
  rw [above_split l z hz, h0, he, Nat.mul_zero, Nat.add_zero, Nat.mul_comm p]
  omega
theorem above_none (l : List Nat) (p z : Nat) (hz : z < l.length) (h : ∀ i (hi : i < l.length), z < i → l[i] = 0) (he : l[z] = p) (hl : ∀ i (hi : i < z), l[i]'(by omega) = 0) : aboveN l p z = false := by
  have h0 := high_zero l z h
  have h1 : valD (l.take z) = 0 := by
    rcases Nat.eq_zero_or_pos (valD (l.take z)) with q | q
    · exact q
    · obtain ⟨x, hx, hp⟩ := (valD_pos _).1 q
      obtain ⟨i, hi, rfl⟩ := List.getElem_of_mem hx
      rw [List.getElem_take] at hp
      rw [List.length_take] at hi
      have := hl i (by omega)
      omega
  refine decide_eq_false ?_
  rw [above_split l z hz, h0, he, h1, Nat.mul_zero, Nat.add_zero, Nat.mul_comm p]
  omega

/-- Whether a number is a prime: the search from d on. -/
def primeF : Nat → Nat → Nat → Bool
  | 0, _, n => decide (1 < n)
  | f + 1, d, n => if d * d ≤ n then (if n % d = 0 then false else primeF f (d + 1) n) else decide (1 < n)
def primeN (n : Nat) : Bool := primeF n 2 n
/-- The prime of place i, from n on. -/
def nthF : Nat → Nat → Nat → Nat
  | 0, _, _ => 0
  | f + 1, n, i => if primeN n = true then (if i = 0 then n else nthF f (n + 1) (i - 1)) else nthF f (n + 1) i
def primeL : List Nat := [2, 3, 5, 7, 11, 13, 17, 19, 23, 29, 31, 37, 41, 43, 47, 53, 59, 61, 67, 71, 73, 79, 83, 89, 97, 101, 103, 107, 109, 113, 127, 131, 137, 139, 149, 151, 157, 163, 167, 173, 179, 181, 191, 193, 197, 199, 211, 223, 227, 229, 233, 239, 241, 251, 257, 263, 269, 271, 277, 281, 283, 293, 307, 311]
theorem nth_list : ((List.range 64).map fun i => nthF 400 2 i) = primeL := by decide +kernel

/-- A root's bits, from bit n - 1 down. -/
def rootF (p k : Nat) : Nat → Nat → Nat
  | 0, v => v
  | n + 1, v => rootF p k n (if p * 65536 ^ (2 * k) < (v + 2 ^ n) ^ k then v else v + 2 ^ n)
def rootN (p k : Nat) : Nat := rootF p k 37 0 % 4294967296
theorem root_kk : (primeL.map fun p => rootN p 3) = kk := by decide +kernel
theorem root_begin : ((primeL.take 8).map fun p => rootN p 2) = beginSt.list := by decide +kernel
end Go.Proofs.YtjiighgabfkmpaaDoor
