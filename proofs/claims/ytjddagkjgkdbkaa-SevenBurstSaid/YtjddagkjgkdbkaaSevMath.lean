/- Plain mathematics of layer 7 bits a byte: bytes as numbers, in groups of bits. Nothing here names the program. -/
import Derived.Test.YtjddagkjgkdbkaaCrcMath
namespace Go.Proofs.Ytjddagkjgkdbkaa

/-- The first n groups of k bits of N. -/
def grp (k N n : Nat) : List UInt8 := (List.range n).map fun i => UInt8.ofNat (N / 2 ^ (k * i) % 2 ^ k)
theorem grp_length (k N n : Nat) : (grp k N n).length = n := by simp [grp]
theorem grp_succ (k N n : Nat) : grp k N (n + 1) = grp k N n ++ [UInt8.ofNat (N / 2 ^ (k * n) % 2 ^ k)] := by simp [grp, List.range_succ]
/-- The same, each with the mark. -/
def packN (N m : Nat) : List UInt8 := (List.range m).map fun i => UInt8.ofNat (N / 2 ^ (7 * i) % 128 + 128)
theorem packN_length (N m : Nat) : (packN N m).length = m := by simp [packN]
theorem packN_succ (N m : Nat) : packN N (m + 1) = packN N m ++ [UInt8.ofNat (N / 2 ^ (7 * m) % 128 + 128)] := by simp [packN, List.range_succ]
def lenP (n : Nat) : Nat := (8 * n + 6) / 7
def packOf (bs : List UInt8) : List UInt8 := packN (le bs) (lenP bs.length)
theorem packOf_length (bs : List UInt8) : (packOf bs).length = lenP bs.length := by simp [packOf, packN_length]
/-- The low seven bits of bytes as one number. -/
def le7 : List UInt8 → Nat
  | [] => 0
  | c :: bs => c.toNat % 128 + 128 * le7 bs
def wholeB (b : List UInt8) : Bool := b.all fun c => decide (128 ≤ c.toNat)
def okU (b : List UInt8) : Bool := wholeB b && (decide (7 * b.length % 8 < 7) && decide (le7 b / 2 ^ (8 * (7 * b.length / 8)) = 0))
def unpackOf (b : List UInt8) : List UInt8 := grp 8 (le7 b) (7 * b.length / 8)
theorem unpackOf_length (b : List UInt8) : (unpackOf b).length = 7 * b.length / 8 := by simp [unpackOf, grp_length]

theorem le_lt2 (bs : List UInt8) : le bs < 2 ^ (8 * bs.length) := by
  have := le_lt bs
  rwa [Nat.pow_mul]
theorem le7_lt (bs : List UInt8) : le7 bs < 2 ^ (7 * bs.length) := by
  induction bs with
  | nil => simp [le7]
  | cons c bs ih =>
    rw [le7, List.length_cons, show 7 * (bs.length + 1) = 7 * bs.length + 7 from by omega, Nat.pow_add]
    omega
theorem le_byte (bs : List UInt8) : ∀ (i : Nat) (h : i < bs.length), le bs / 2 ^ (8 * i) % 256 = (bs[i]'h).toNat := by
  induction bs with
  | nil => intro i h; simp at h
  | cons c bs ih =>
    intro i h
    have hc := c.toNat_lt
    cases i with
    | zero => simp [le]
    | succ i =>
      rw [List.getElem_cons_succ, ← ih i (by simpa using h), le, show 8 * (i + 1) = 8 + 8 * i from by omega, Nat.pow_add, ← Nat.div_div_eq_div_mul]
      congr 2
      omega
theorem le7_byte (bs : List UInt8) : ∀ (i : Nat) (h : i < bs.length), le7 bs / 2 ^ (7 * i) % 128 = (bs[i]'h).toNat % 128 := by
  induction bs with
  | nil => intro i h; simp at h
  | cons c bs ih =>
    intro i h
    have hc := c.toNat_lt
    cases i with
    | zero => simp [le7]
    | succ i =>
      rw [List.getElem_cons_succ, ← ih i (by simpa using h), le7, show 7 * (i + 1) = 7 + 7 * i from by omega, Nat.pow_add, ← Nat.div_div_eq_div_mul]
      congr 2
      omega
theorem le_append (a b : List UInt8) : le (a ++ b) = le a + le b * 2 ^ (8 * a.length) := by
  induction a with
  | nil => simp [le]
  | cons c a ih =>
    rw [List.cons_append, le, ih, le, List.length_cons, show 8 * (a.length + 1) = 8 * a.length + 8 from by omega, Nat.pow_add, Nat.mul_add]
    have : 256 * (le b * 2 ^ (8 * a.length)) = le b * (2 ^ (8 * a.length) * 2 ^ 8) := by rw [Nat.mul_comm, Nat.mul_assoc]
    omega
theorem le7_append (a b : List UInt8) : le7 (a ++ b) = le7 a + le7 b * 2 ^ (7 * a.length) := by
  induction a with
  | nil => simp [le7]
  | cons c a ih =>
    rw [List.cons_append, le7, ih, le7, List.length_cons, show 7 * (a.length + 1) = 7 * a.length + 7 from by omega, Nat.pow_add, Nat.mul_add]
    have : 128 * (le7 b * 2 ^ (7 * a.length)) = le7 b * (2 ^ (7 * a.length) * 2 ^ 7) := by rw [Nat.mul_comm, Nat.mul_assoc]
    omega
theorem le_one (c : UInt8) : le [c] = c.toNat := by simp [le]
theorem le7_one (c : UInt8) : le7 [c] = c.toNat % 128 := by simp [le7]
theorem grp8_le (bs : List UInt8) : grp 8 (le bs) bs.length = bs := by
  apply List.ext_getElem
  · simp [grp]
  · intro i h1 h2
    simp only [grp, List.getElem_map, List.getElem_range]
    rw [show (2 : Nat) ^ 8 = 256 from rfl, le_byte bs i h2]
    simp
theorem mod_pow_split (N k n : Nat) : N % 2 ^ (k * (n + 1)) = N % 2 ^ (k * n) + N / 2 ^ (k * n) % 2 ^ k * 2 ^ (k * n) := by
  rw [Nat.mul_add, Nat.mul_one, Nat.pow_add, Nat.mod_mul, Nat.mul_comm (2 ^ (k * n)) (N / 2 ^ (k * n) % 2 ^ k)]
theorem le_grp8 (N n : Nat) : le (grp 8 N n) = N % 2 ^ (8 * n) := by
  induction n with
  | zero => simp [grp, le, Nat.mod_one]
  | succ n ih =>
    rw [grp_succ, le_append, ih, grp_length, le_one, mod_pow_split]
    congr 2
    rw [UInt8.toNat_ofNat']
    exact Nat.mod_eq_of_lt (Nat.mod_lt _ (by decide))
theorem le7_packN (N m : Nat) : le7 (packN N m) = N % 2 ^ (7 * m) := by
  induction m with
  | zero => simp [packN, le7, Nat.mod_one]
  | succ n ih =>
    rw [packN_succ, le7_append, ih, packN_length, le7_one, mod_pow_split]
    congr 2
    rw [UInt8.toNat_ofNat']
    have : N / 2 ^ (7 * n) % 128 < 128 := Nat.mod_lt _ (by decide)
    omega
theorem wholeB_iff (b : List UInt8) : wholeB b = true ↔ ∀ i (h : i < b.length), 128 ≤ (b[i]'h).toNat := by
  rw [wholeB, List.all_eq_true]
  constructor
  · intro h i hi
    exact of_decide_eq_true (h _ (List.getElem_mem hi))
  · intro h c hc
    obtain ⟨i, hi, rfl⟩ := List.getElem_of_mem hc
    exact decide_eq_true (h i hi)
theorem packN_le7 (b : List UInt8) (h : wholeB b = true) : packN (le7 b) b.length = b := by
  rw [wholeB_iff] at h
  apply List.ext_getElem
  · simp [packN]
  · intro i h1 h2
    simp only [packN, List.getElem_map, List.getElem_range]
    rw [le7_byte b i h2]
    have h3 := h i h2
    have h4 := (b[i]'h2).toNat_lt
    rw [show (b[i]'h2).toNat % 128 + 128 = (b[i]'h2).toNat from by omega]
    simp
theorem wholeB_packN (N m : Nat) : wholeB (packN N m) = true := by
  rw [wholeB_iff]
  intro i h
  simp only [packN, List.getElem_map, List.getElem_range]
  rw [UInt8.toNat_ofNat']
  have : N / 2 ^ (7 * i) % 128 < 128 := Nat.mod_lt _ (by decide)
  omega
theorem pow_le2 {a b : Nat} (h : a ≤ b) : 2 ^ a ≤ 2 ^ b := Nat.pow_le_pow_right (by decide) h
theorem le7_packOf (bs : List UInt8) : le7 (packOf bs) = le bs := by
  rw [packOf, le7_packN, Nat.mod_eq_of_lt]
  exact Nat.lt_of_lt_of_le (le_lt2 bs) (pow_le2 (by simp only [lenP]; omega))
theorem lenP_back (n : Nat) : 7 * lenP n / 8 = n := by simp only [lenP]; omega
theorem lenP_rest (n : Nat) : 7 * lenP n % 8 < 7 := by simp only [lenP]; omega
theorem okU_pack (bs : List UInt8) : okU (packOf bs) = true := by
  rw [okU, packOf_length, le7_packOf, lenP_back]
  have h1 : wholeB (packOf bs) = true := wholeB_packN _ _
  rw [h1, decide_eq_true (lenP_rest _), decide_eq_true (Nat.div_eq_of_lt (le_lt2 bs))]
  rfl
theorem unpack_pack (bs : List UInt8) : unpackOf (packOf bs) = bs := by
  rw [unpackOf, packOf_length, le7_packOf, lenP_back, grp8_le]
theorem okU_parts {b : List UInt8} (h : okU b = true) : wholeB b = true ∧ 7 * b.length % 8 < 7 ∧ le7 b / 2 ^ (8 * (7 * b.length / 8)) = 0 := by
  simpa [okU] using h
theorem le_unpackOf {b : List UInt8} (h : okU b = true) : le (unpackOf b) = le7 b := by
  obtain ⟨_, _, h3⟩ := okU_parts h
  rw [unpackOf, le_grp8, Nat.mod_eq_of_lt]
  rcases Nat.lt_or_ge (le7 b) (2 ^ (8 * (7 * b.length / 8))) with q | q
  · exact q
  · have := Nat.div_pos q (Nat.pow_pos (by decide))
    omega
theorem pack_unpack {b : List UInt8} (h : okU b = true) : packOf (unpackOf b) = b := by
  obtain ⟨h1, h2, _⟩ := okU_parts h
  rw [packOf, le_unpackOf h, unpackOf_length, show lenP (7 * b.length / 8) = b.length from by simp only [lenP]; omega, packN_le7 b h1]
theorem refLen (m : Nat) : ((8 * (7 * m / 8) + 6) / 7 = m) ↔ 7 * m % 8 < 7 := by omega

/-- Bit q of the low sevens is that bit of the bytes. -/
theorem le7_testBit (l : List UInt8) : ∀ q, (le7 l).testBit q = (le l).testBit (8 * (q / 7) + q % 7) := by
  induction l with
  | nil => intro q; simp [le7, le]
  | cons c l ih =>
    intro q
    have hc := c.toNat_lt
    have h7 : le7 (c :: l) = 2 ^ 7 * le7 l + c.toNat % 128 := by rw [le7]; omega
    have h8 : le (c :: l) = 2 ^ 8 * le l + c.toNat := by rw [le]; omega
    rw [h7, h8, Nat.testBit_two_pow_mul_add _ (Nat.mod_lt _ (by decide)), Nat.testBit_two_pow_mul_add _ hc]
    by_cases hq : q < 7
    · rw [if_pos hq, if_pos (by omega), show 8 * (q / 7) + q % 7 = q from by omega, Nat.testBit_mod_two_pow]
      simp [hq]
    · rw [if_neg hq, if_neg (by omega), ih]
      congr 1
      omega
def bitOf (bs : List UInt8) (q : Nat) : Nat := le bs / 2 ^ q % 2
theorem bitOf_lt (bs : List UInt8) (q : Nat) : bitOf bs q < 2 := Nat.mod_lt _ (by decide)
theorem bitOf_eq (bs cs : List UInt8) (q : Nat) : bitOf bs q = bitOf cs q ↔ (le bs).testBit q = (le cs).testBit q := by
  unfold bitOf
  rw [Nat.testBit_eq_decide_div_mod_eq, Nat.testBit_eq_decide_div_mod_eq, decide_eq_decide]
  omega
/-- Where a burst shows. -/
theorem burst_at (bs l : List UInt8) (a turn q : Nat) (hok : okU l = true) (h : le l = le (packOf bs) ^^^ (turn * 2 ^ a)) (ht : turn < 4294967296)
    (hd : bitOf (unpackOf l) q ≠ bitOf bs q) : a ≤ 8 * (q / 7) + q % 7 ∧ 8 * (q / 7) + q % 7 < a + 32 := by
  rw [Ne, bitOf_eq, le_unpackOf hok, ← le7_packOf bs, le7_testBit, le7_testBit, h, Nat.testBit_xor] at hd
  have hb : (turn * 2 ^ a).testBit (8 * (q / 7) + q % 7) = true := by
    cases hq : (turn * 2 ^ a).testBit (8 * (q / 7) + q % 7) with
    | true => rfl
    | false => rw [hq] at hd; simp at hd
  rw [Nat.testBit_mul_two_pow] at hb
  simp only [Bool.and_eq_true, decide_eq_true_eq] at hb
  refine ⟨hb.1, ?_⟩
  rcases Nat.lt_or_ge (8 * (q / 7) + q % 7) (a + 32) with q' | q'
  · exact q'
  · have : turn.testBit (8 * (q / 7) + q % 7 - a) = false := Nat.testBit_lt_two_pow (Nat.lt_of_lt_of_le ht (pow_le2 (a := 32) (by omega)))
    rw [this] at hb; simp at hb
theorem burst_near (bs l : List UInt8) (a turn : Nat) (hok : okU l = true) (h : le l = le (packOf bs) ^^^ (turn * 2 ^ a)) (ht : turn < 4294967296)
    (f e : Nat) (hf : bitOf (unpackOf l) f ≠ bitOf bs f) (he : bitOf (unpackOf l) e ≠ bitOf bs e) (hfe : f ≤ e) : e < f + 32 := by
  have h1 := burst_at bs l a turn f hok h ht hf
  have h2 := burst_at bs l a turn e hok h ht he
  omega
theorem eq_of_bits (x y : List UInt8) (hl : x.length = y.length) (h : ∀ q, q < 8 * y.length → bitOf x q = bitOf y q) : x = y := by
  have e : le x = le y := by
    apply Nat.eq_of_testBit_eq
    intro q
    rcases Nat.lt_or_ge q (8 * y.length) with hq | hq
    · exact (bitOf_eq x y q).1 (h q hq)
    · rw [Nat.testBit_lt_two_pow (Nat.lt_of_lt_of_le (le_lt2 x) (pow_le2 (by omega))), Nat.testBit_lt_two_pow (Nat.lt_of_lt_of_le (le_lt2 y) (pow_le2 hq))]
  rw [← grp8_le x, ← grp8_le y, e, hl]
theorem burst_len (bs l : List UInt8) (hl : l.length = (packOf bs).length) : (unpackOf l).length = bs.length := by
  rw [unpackOf_length, hl, packOf_length, lenP_back]
theorem burst_some (bs l : List UInt8) (a turn : Nat) (hok : okU l = true) (hl : l.length = (packOf bs).length) (h : le l = le (packOf bs) ^^^ (turn * 2 ^ a)) (ht0 : turn ≠ 0) :
    ¬ ∀ q, q < 8 * bs.length → bitOf (unpackOf l) q = bitOf bs q := by
  intro hall
  have e := eq_of_bits _ _ (burst_len bs l hl) hall
  have e2 : l = packOf bs := by rw [← pack_unpack hok, e]
  rw [e2] at h
  have h3 := xor_self_left (le (packOf bs)) (turn * 2 ^ a)
  rw [← h, Nat.xor_self] at h3
  have h4 := Nat.pow_pos (n := a) (show 0 < 2 by decide)
  rcases Nat.mul_eq_zero.1 h3.symm with h5 | h5
  · exact ht0 h5
  · omega

/-- A bit more behind t bits. -/
def bitsN (N t : Nat) : List UInt8 := (List.range t).map fun q => UInt8.ofNat (N / 2 ^ q % 2)
theorem bitsN_length (N t : Nat) : (bitsN N t).length = t := by simp [bitsN]
theorem bitsN_succ (N t : Nat) : bitsN N (t + 1) = bitsN N t ++ [UInt8.ofNat (N / 2 ^ t % 2)] := by simp [bitsN, List.range_succ]
theorem bitsN_get (N t q : Nat) (h : q < t) : (bitsN N t)[q]'(by rw [bitsN_length]; exact h) = UInt8.ofNat (N / 2 ^ q % 2) := by simp [bitsN]
/-- The bits of a group inside the number. -/
theorem mod_bit (x k j : Nat) (h : j < k) : x % 2 ^ k / 2 ^ j % 2 = x / 2 ^ j % 2 := by
  have e := Nat.testBit_mod_two_pow x k j
  rw [decide_eq_true h, Bool.true_and, Nat.testBit_eq_decide_div_mod_eq, Nat.testBit_eq_decide_div_mod_eq, decide_eq_decide] at e
  omega
theorem div_split (N k i j : Nat) (h : j < k) : N / 2 ^ (k * i + j) % 2 = N / 2 ^ (k * i) % 2 ^ k / 2 ^ j % 2 := by
  rw [Nat.pow_add, ← Nat.div_div_eq_div_mul, mod_bit _ _ _ h]
/-- The bit k of the byte i of the number. -/
theorem byte_bit (bs : List UInt8) (i k : Nat) (h : i < bs.length) (hk : k < 8) : (bs[i]'h).toNat / 2 ^ k % 2 = le bs / 2 ^ (8 * i + k) % 2 := by
  rw [div_split _ _ _ _ hk, show (2 : Nat) ^ 8 = 256 from rfl, le_byte bs i h]
theorem byte7_bit (bs : List UInt8) (i k : Nat) (h : i < bs.length) (hk : k < 7) : (bs[i]'h).toNat % 128 / 2 ^ k % 2 = le7 bs / 2 ^ (7 * i + k) % 2 := by
  rw [div_split _ _ _ _ hk, show (2 : Nat) ^ 7 = 128 from rfl, le7_byte bs i h]

/-- The collector of groups of k bits behind t bits of N: the whole groups, the last one, its bits. -/
def colW (k N t : Nat) : List UInt8 := grp k N (t / k)
def colL (k N t : Nat) : Nat := N / 2 ^ (k * (t / k))
theorem colL_lt (k N t : Nat) (hk : 0 < k) (h : N < 2 ^ t) : colL k N t < 2 ^ (t % k) := by
  unfold colL
  rw [Nat.div_lt_iff_lt_mul (Nat.pow_pos (by decide)), ← Nat.pow_add]
  have := Nat.div_add_mod t k
  rwa [show t % k + k * (t / k) = t from by omega]
theorem put_div (N b k i t : Nat) (h : k * i ≤ t) : (N + b * 2 ^ t) / 2 ^ (k * i) = N / 2 ^ (k * i) + b * 2 ^ (t - k * i) := by
  have e : b * 2 ^ t = b * 2 ^ (t - k * i) * 2 ^ (k * i) := by rw [Nat.mul_assoc, ← Nat.pow_add, show t - k * i + k * i = t from by omega]
  rw [e, Nat.add_mul_div_right _ _ (Nat.pow_pos (by decide))]
/-- One bit put. -/
theorem put_last (k N t b : Nat) : (N + b * 2 ^ t) / 2 ^ (k * (t / k)) = colL k N t + b * 2 ^ (t % k) := by
  have := Nat.div_add_mod t k
  rw [put_div _ _ _ _ _ (by omega), show t - k * (t / k) = t % k from by omega]
  rfl
theorem put_whole (k N t b n : Nat) (hn : n ≤ t / k) : grp k (N + b * 2 ^ t) n = grp k N n := by
  unfold grp
  refine List.map_congr_left fun i hi => ?_
  have hi' : i < n := List.mem_range.1 hi
  have h1 := Nat.div_add_mod t k
  have h2 : k * (i + 1) ≤ k * (t / k) := Nat.mul_le_mul_left k (by omega)
  have h3 : k * (i + 1) ≤ t := by omega
  rw [Nat.mul_add, Nat.mul_one] at h3
  rw [put_div _ _ _ _ _ (by omega), show t - k * i = (t - k * i - k) + k from by omega, Nat.pow_add, ← Nat.mul_assoc, Nat.add_mul_mod_self_right]
/-- The group goes on. -/
theorem put_on (k N t b : Nat) (hk : 0 < k) (h : t % k + 1 ≠ k) : (t + 1) / k = t / k ∧ (t + 1) % k = t % k + 1 ∧ colW k (N + b * 2 ^ t) (t + 1) = colW k N t ∧ colL k (N + b * 2 ^ t) (t + 1) = colL k N t + b * 2 ^ (t % k) := by
  have h1 := Nat.div_add_mod t k
  have h2 := Nat.mod_lt t hk
  have e : (t + 1) / k = t / k := by
    rw [Nat.div_eq_iff hk, Nat.mul_comm (t / k) k]
    omega
  have e2 : (t + 1) % k = t % k + 1 := by
    have := Nat.div_add_mod (t + 1) k
    rw [e] at this
    omega
  refine ⟨e, e2, ?_, ?_⟩
  · rw [colW, e, put_whole _ _ _ _ _ (Nat.le_refl _)]; rfl
  · rw [colL, e, put_last]
/-- The group is full. -/
theorem put_full (k N t b : Nat) (hk : 0 < k) (hb : b < 2) (hN : N < 2 ^ t) (h : t % k + 1 = k) : (t + 1) / k = t / k + 1 ∧ (t + 1) % k = 0 ∧ colW k (N + b * 2 ^ t) (t + 1) = colW k N t ++ [UInt8.ofNat (colL k N t + b * 2 ^ (t % k))] ∧ colL k (N + b * 2 ^ t) (t + 1) = 0 := by
  have h1 := Nat.div_add_mod t k
  have e : (t + 1) / k = t / k + 1 := by
    rw [Nat.div_eq_iff hk, Nat.mul_comm (t / k + 1) k, Nat.mul_add]
    omega
  have e0 : t + 1 = k * (t / k + 1) := by rw [Nat.mul_add]; omega
  have e2 : (t + 1) % k = 0 := by rw [e0]; exact Nat.mul_mod_right _ _
  have hl := colL_lt k N t hk hN
  have hlt : colL k N t + b * 2 ^ (t % k) < 2 ^ k := by
    have h3 : (2 : Nat) ^ k = 2 ^ (t % k) + 2 ^ (t % k) := by
      obtain ⟨r, hr⟩ : ∃ r, r = t % k := ⟨_, rfl⟩
      rw [← hr] at h ⊢
      rw [← h, Nat.pow_succ]
      omega
    have h4 : b * 2 ^ (t % k) ≤ 1 * 2 ^ (t % k) := Nat.mul_le_mul_right _ (by omega)
    omega
  refine ⟨e, e2, ?_, ?_⟩
  · rw [colW, e, grp_succ, put_whole _ _ _ _ _ (Nat.le_refl _), put_last, Nat.mod_eq_of_lt hlt]; rfl
  · rw [colL, e, ← e0]
    apply Nat.div_eq_of_lt
    rw [Nat.pow_succ]
    have h4 : b * 2 ^ t ≤ 1 * 2 ^ t := Nat.mul_le_mul_right _ (by omega)
    omega
theorem put_lt (N t b : Nat) (hb : b < 2) (hN : N < 2 ^ t) : N + b * 2 ^ t < 2 ^ (t + 1) := by
  have h4 : b * 2 ^ t ≤ 1 * 2 ^ t := Nat.mul_le_mul_right _ (by omega)
  rw [Nat.pow_succ]
  omega
/-- The low n bits of v, one more. -/
theorem put_next (N t v i : Nat) : N + v % 2 ^ (i + 1) * 2 ^ t = (N + v % 2 ^ i * 2 ^ t) + v / 2 ^ i % 2 * 2 ^ (t + i) := by
  have := mod_pow_split v 1 i
  simp only [Nat.one_mul, Nat.pow_one] at this
  rw [this, Nat.add_mul, Nat.pow_add, Nat.mul_comm (2 ^ t) (2 ^ i), Nat.mul_assoc]
  omega
theorem putN_lt (N t v i : Nat) (hN : N < 2 ^ t) : N + v % 2 ^ i * 2 ^ t < 2 ^ (t + i) := by
  have h1 : v % 2 ^ i < 2 ^ i := Nat.mod_lt _ (Nat.pow_pos (by decide))
  have h2 : (v % 2 ^ i + 1) * 2 ^ t ≤ 2 ^ i * 2 ^ t := Nat.mul_le_mul_right _ h1
  rw [Nat.add_mul] at h2
  rw [Nat.pow_add, Nat.mul_comm (2 ^ t)]
  omega
/-- What Pack appends: the last group. -/
theorem packN_grp (N m : Nat) : (grp 7 N m).map (fun c => c ||| 128) = packN N m := by
  unfold grp packN
  rw [List.map_map]
  refine List.map_congr_left fun i _ => ?_
  have h : N / 2 ^ (7 * i) % 2 ^ 7 < 128 := Nat.mod_lt _ (by decide)
  show UInt8.ofNat (N / 2 ^ (7 * i) % 2 ^ 7) ||| 128 = UInt8.ofNat (N / 2 ^ (7 * i) % 128 + 128)
  rw [show (128 : Nat) = 2 ^ 7 from rfl]
  obtain ⟨x, hx⟩ : ∃ x, x = N / 2 ^ (7 * i) % 2 ^ 7 := ⟨_, rfl⟩
  rw [← hx] at h ⊢
  have : ∀ x, x < 128 → UInt8.ofNat x ||| 128 = UInt8.ofNat (x + 2 ^ 7) := by decide +kernel
  exact this x h
end Go.Proofs.Ytjddagkjgkdbkaa
