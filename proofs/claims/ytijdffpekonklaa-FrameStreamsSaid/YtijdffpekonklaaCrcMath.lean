/- Plain mathematics of CRC-32: the register's step as a linear map on numbers of any size. Nothing here names the program. -/
namespace Go.Proofs.Ytijdffpekonklaa

/-- One step of the register behind a bit 0. -/
def crcT (r : Nat) : Nat := (r / 2) ^^^ (if r % 2 = 1 then 3988292384 else 0)
/-- n steps. -/
def crcN : Nat → Nat → Nat
  | 0, r => r
  | n + 1, r => crcT (crcN n r)

theorem xor_div2 (a b : Nat) : (a ^^^ b) / 2 = (a / 2) ^^^ (b / 2) := by
  apply Nat.eq_of_testBit_eq
  intro i
  simp [Nat.testBit_div_two, Nat.testBit_xor]
theorem xor_mod2 (a b : Nat) : (a ^^^ b) % 2 = (a + b) % 2 := by
  have h := Nat.xor_mod_two_pow (a := a) (b := b) (n := 1)
  rw [Nat.pow_one] at h
  rw [h]
  rcases Nat.mod_two_eq_zero_or_one a with h1 | h1 <;> rcases Nat.mod_two_eq_zero_or_one b with h2 | h2 <;> rw [h1, h2]
  · rw [show (a + b) % 2 = 0 from by omega]; rfl
  · rw [show (a + b) % 2 = 1 from by omega]; rfl
  · rw [show (a + b) % 2 = 1 from by omega]; rfl
  · rw [show (a + b) % 2 = 0 from by omega]; rfl
theorem xor_self_left (a b : Nat) : a ^^^ (a ^^^ b) = b := by rw [← Nat.xor_assoc, Nat.xor_self, Nat.zero_xor]

theorem crcT_xor (a b : Nat) : crcT (a ^^^ b) = crcT a ^^^ crcT b := by
  unfold crcT
  rw [xor_div2, xor_mod2]
  have e : ∀ x y z u : Nat, (x ^^^ y) ^^^ (z ^^^ u) = (x ^^^ z) ^^^ (y ^^^ u) := fun x y z u => by
    rw [Nat.xor_assoc, Nat.xor_assoc, ← Nat.xor_assoc y z u, Nat.xor_comm y z, Nat.xor_assoc z y u]
  rw [e (a / 2) _ (b / 2) _]
  congr 1
  rcases Nat.mod_two_eq_zero_or_one a with h1 | h1 <;> rcases Nat.mod_two_eq_zero_or_one b with h2 | h2
  · rw [if_neg (by omega), if_neg (by omega), if_neg (by omega)]; rfl
  · rw [if_pos (by omega), if_neg (by omega), if_pos (by omega), Nat.zero_xor]
  · rw [if_pos (by omega), if_pos (by omega), if_neg (by omega), Nat.xor_zero]
  · rw [if_neg (by omega), if_pos (by omega), if_pos (by omega), Nat.xor_self]
theorem crcN_xor (n a b : Nat) : crcN n (a ^^^ b) = crcN n a ^^^ crcN n b := by
  induction n with
  | zero => rfl
  | succ n ih => rw [crcN, ih, crcT_xor]; rfl
theorem crcN_add (m n r : Nat) : crcN (m + n) r = crcN m (crcN n r) := by
  induction m with
  | zero => rw [Nat.zero_add]; rfl
  | succ m ih => rw [Nat.succ_add, crcN, ih]; rfl
theorem crcT_two (x : Nat) : crcT (2 * x) = x := by
  unfold crcT
  rw [if_neg (by omega), Nat.xor_zero]; omega
theorem crcN_shift (k : Nat) : ∀ x, crcN k (x * 2 ^ k) = x := by
  induction k with
  | zero => intro x; simp [crcN]
  | succ k ih =>
    intro x
    rw [crcN, Nat.pow_succ, Nat.mul_comm (2 ^ k) 2, ← Nat.mul_assoc, ih, Nat.mul_comm, crcT_two]
theorem crcN_zero (n : Nat) : crcN n 0 = 0 := by
  induction n with
  | zero => rfl
  | succ n ih => rw [crcN, ih]; rfl
theorem crcT_lt (r : Nat) (h : r < 4294967296) : crcT r < 4294967296 := by
  unfold crcT
  exact Nat.xor_lt_two_pow (n := 32) (by omega) (by split <;> decide)
theorem crcN_lt (n r : Nat) (h : r < 4294967296) : crcN n r < 4294967296 := by
  induction n with
  | zero => exact h
  | succ n ih => exact crcT_lt _ ih
theorem crcT_ne (r : Nat) (h : r < 4294967296) (h0 : crcT r = 0) : r = 0 := by
  unfold crcT at h0
  split at h0
  · have e := congrArg (Nat.testBit · 31) h0
    simp only [Nat.testBit_xor, Nat.zero_testBit] at e
    have e1 : (r / 2).testBit 31 = false := Nat.testBit_lt_two_pow (by omega)
    rw [e1] at e
    exact absurd e (by decide)
  · rw [Nat.xor_zero] at h0; omega
theorem crcN_ne (n r : Nat) (h : r < 4294967296) (h0 : crcN n r = 0) : r = 0 := by
  induction n with
  | zero => exact h0
  | succ n ih => exact ih (crcT_ne _ (crcN_lt n r h) h0)
theorem crcN_inj (n a b : Nat) (ha : a < 4294967296) (hb : b < 4294967296) (h : crcN n a = crcN n b) : a = b := by
  have e : crcN n (a ^^^ b) = 0 := by rw [crcN_xor, h, Nat.xor_self]
  have e2 := crcN_ne n (a ^^^ b) (Nat.xor_lt_two_pow (n := 32) ha hb) e
  have := xor_self_left a b
  rw [e2, Nat.xor_zero] at this
  exact this

/-- Numbers whose bits do not meet. -/
theorem xor_add (k a b : Nat) (h : a < 2 ^ k) : a ^^^ (b * 2 ^ k) = a + b * 2 ^ k := by
  have h1 := Nat.two_pow_add_eq_or_of_lt h b
  rw [Nat.mul_comm b, Nat.add_comm a, h1]
  apply Nat.eq_of_testBit_eq
  intro i
  rw [Nat.testBit_xor, Nat.testBit_or]
  by_cases hi : i < k
  · have : (2 ^ k * b).testBit i = false := by rw [Nat.testBit_two_pow_mul]; simp; omega
    rw [this]; simp
  · have : a.testBit i = false := Nat.testBit_lt_two_pow (Nat.lt_of_lt_of_le h (Nat.pow_le_pow_right (by decide) (by omega)))
    rw [this]; simp

/-- The bit c behind the register r. -/
theorem crcT_bit (r c : Nat) (hc : c ≤ 1) : crcT (r ^^^ c) = (r / 2) ^^^ (if c ≠ r % 2 then 3988292384 else 0) := by
  unfold crcT
  rw [xor_div2, xor_mod2, show c / 2 = 0 from by omega, Nat.xor_zero]
  congr 1
  by_cases h : c ≠ r % 2
  · rw [if_pos h, if_pos (by omega)]
  · rw [if_neg h, if_neg (by omega)]
/-- The bits of c behind the register r, one by one. -/
theorem crc_bits (r c k : Nat) : crcT (crcN k (r ^^^ (c % 2 ^ k)) ^^^ (c / 2 ^ k % 2)) = crcN (k + 1) (r ^^^ (c % 2 ^ (k + 1))) := by
  have h1 : c % 2 ^ (k + 1) = c % 2 ^ k ^^^ (c / 2 ^ k % 2 * 2 ^ k) := by
    rw [xor_add k _ _ (Nat.mod_lt _ (Nat.pow_pos (by decide))), Nat.pow_succ, Nat.mod_mul, Nat.mul_comm (2 ^ k) (c / 2 ^ k % 2)]
  rw [h1, crcN, ← Nat.xor_assoc, crcN_xor k (r ^^^ c % 2 ^ k), crcN_shift]

/-- The register behind a byte. -/
def crcB (r : Nat) (c : UInt8) : Nat := crcN 8 (r ^^^ c.toNat)
/-- The register behind bytes. -/
def crcS (r : Nat) (bs : List UInt8) : Nat := bs.foldl crcB r
theorem crcS_append (r : Nat) (a b : List UInt8) : crcS r (a ++ b) = crcS (crcS r a) b := by simp [crcS]
theorem crcB_lt (r : Nat) (c : UInt8) (h : r < 4294967296) : crcB r c < 4294967296 :=
  crcN_lt 8 _ (Nat.xor_lt_two_pow (n := 32) h (by have := c.toNat_lt; omega))
theorem crcS_lt (bs : List UInt8) : ∀ r, r < 4294967296 → crcS r bs < 4294967296 := by
  induction bs with
  | nil => intro r h; exact h
  | cons c bs ih => intro r h; exact ih _ (crcB_lt r c h)
/-- A byte at once, by the table's place. -/
theorem crcB_table (r : Nat) (c : UInt8) : crcB r c = (r / 256) ^^^ crcN 8 ((r ^^^ c.toNat) % 256) := by
  have h1 : (r ^^^ c.toNat) / 256 = r / 256 := by
    have := Nat.xor_div_two_pow (a := r) (b := c.toNat) (n := 8)
    rw [show (2 : Nat) ^ 8 = 256 from rfl, Nat.div_eq_of_lt (show c.toNat < 256 from c.toNat_lt), Nat.xor_zero] at this
    exact this
  have h2 : r ^^^ c.toNat = ((r ^^^ c.toNat) % 256) ^^^ (r / 256 * 2 ^ 8) := by
    rw [xor_add 8 _ _ (Nat.mod_lt _ (by decide)), ← h1, show (2 : Nat) ^ 8 = 256 from rfl]; omega
  unfold crcB
  rw [h2, crcN_xor, crcN_shift, Nat.xor_comm, ← h2]

/-- The bytes as one number, the first the least. -/
def le : List UInt8 → Nat
  | [] => 0
  | c :: bs => c.toNat + 256 * le bs
theorem crcS_le (bs : List UInt8) : ∀ r, crcS r bs = crcN (8 * bs.length) (r ^^^ le bs) := by
  induction bs with
  | nil => intro r; simp [crcS, le, crcN]
  | cons c bs ih =>
    intro r
    have h : c.toNat + 256 * le bs = c.toNat ^^^ (le bs * 2 ^ 8) := by
      rw [xor_add 8 _ _ (by have := c.toNat_lt; omega)]; omega
    show crcS (crcB r c) bs = _
    rw [ih, List.length_cons, show 8 * (bs.length + 1) = 8 * bs.length + 8 from by omega, crcN_add, le, h, ← Nat.xor_assoc, crcN_xor 8, crcN_shift]
    rfl
theorem le_lt (bs : List UInt8) : le bs < 256 ^ bs.length := by
  induction bs with
  | nil => simp [le]
  | cons c bs ih =>
    rw [le, List.length_cons, Nat.pow_succ]
    have := c.toNat_lt
    omega
/-- Equal registers behind bytes of equal length: a difference within 32 bits is none. -/
theorem crc_burst (r at' turn : Nat) (a b : List UInt8) (hl : a.length = b.length) (ht : turn < 4294967296) (hat : at' + 32 ≤ 8 * b.length) (h : le a = le b ^^^ (turn * 2 ^ at')) : crcS r a = crcS r b ↔ turn = 0 := by
  rw [crcS_le, crcS_le, hl, h, ← Nat.xor_assoc, crcN_xor]
  have e : crcN (8 * b.length) (turn * 2 ^ at') = crcN (8 * b.length - at') turn := by
    rw [show 8 * b.length = (8 * b.length - at') + at' from by omega, crcN_add, crcN_shift, Nat.add_sub_cancel]
  rw [e]
  constructor
  · intro q
    apply crcN_ne (8 * b.length - at') turn ht
    have := xor_self_left (crcN (8 * b.length) (r ^^^ le b)) (crcN (8 * b.length - at') turn)
    rw [q, Nat.xor_self] at this
    exact this.symm
  · rintro rfl
    rw [crcN_zero, Nat.xor_zero]
/-- Four bytes behind a register. -/
theorem crc_tail (r o : Nat) (c0 c1 c2 c3 : UInt8) (h : c0.toNat + 256 * (c1.toNat + 256 * (c2.toNat + 256 * c3.toNat)) = o) : crcS r [c0, c1, c2, c3] = crcN 32 (r ^^^ o) := by
  rw [crcS_le]
  simp only [le, List.length_cons, List.length_nil, Nat.mul_zero, Nat.add_zero]
  rw [h]
/-- All bits turned. -/
theorem xor_ones (r : Nat) (h : r < 4294967296) : r ^^^ 4294967295 = 4294967295 - r := by
  apply Nat.eq_of_testBit_eq
  intro i
  have e : (4294967295 : Nat) = 2 ^ 32 - 1 := rfl
  rw [Nat.testBit_xor, show 4294967295 - r = 2 ^ 32 - (r + 1) from by omega, Nat.testBit_two_pow_sub_succ h, e, Nat.testBit_two_pow_sub_one]
  by_cases hi : i < 32
  · simp [hi]
  · have hp : (2 : Nat) ^ 32 ≤ 2 ^ i := Nat.pow_le_pow_right (by decide) (by omega)
    have : r.testBit i = false := Nat.testBit_lt_two_pow (by omega)
    simp [hi, this]
theorem crc_magic : 4294967295 - crcN 32 4294967295 = 558161692 := by decide
theorem crc_tails (r o : Nat) (hr : r < 4294967296) (ho : o < 4294967296) : 4294967295 - crcN 32 (r ^^^ o) = 558161692 ↔ o = 4294967295 - r := by
  have hlt := crcN_lt 32 (r ^^^ o) (Nat.xor_lt_two_pow (n := 32) hr ho)
  have hm := crc_magic
  have hml := crcN_lt 32 4294967295 (by decide)
  constructor
  · intro h
    have e : crcN 32 (r ^^^ o) = crcN 32 4294967295 := by omega
    have e2 := crcN_inj 32 _ _ (Nat.xor_lt_two_pow (n := 32) hr ho) (by decide) e
    have := xor_self_left r o
    rw [e2, xor_ones r hr] at this
    exact this.symm
  · rintro rfl
    rw [← xor_ones r hr, xor_self_left]
    exact hm
end Go.Proofs.Ytijdffpekonklaa
