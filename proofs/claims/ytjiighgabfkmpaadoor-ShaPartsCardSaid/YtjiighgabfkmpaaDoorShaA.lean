/- Contracts of package sha: rotate, rotations, choose, majority. -/
import Derived.Test.YtjiighgabfkmpaaDoorRow
import Derived.Test.YtjiighgabfkmpaaDoorArr
import Derived.Test.YtjiighgabfkmpaaDoorShaMath
import Derived.Test.YtjiighgabfkmpaaDoorProg
namespace Go.Proofs.YtjiighgabfkmpaaDoor
open Go.RowKit

theorem wrap_neg (n : Nat) (h0 : 0 < n) (hn : n < 32) : IntKind.u64.wrap (-(n : Int)) = 18446744073709551616 - (n : Int) := by
  rw [IntKind.wrap_u64]; omega
theorem rot_and (n : Nat) (h0 : 0 < n) (hn : n < 32) : bits .and .u64 (IntKind.u64.wrap (-(n : Int))) 31 = ((32 - n : Nat) : Int) := by
  rw [wrap_neg n h0 hn]
  have h := u64_and_nat (18446744073709551616 - n) 31 (by omega) (by decide)
  have e : (18446744073709551616 - n) &&& 31 = (18446744073709551616 - n) % 32 := Nat.and_two_pow_sub_one_eq_mod _ 5
  rw [e] at h
  rw [show (18446744073709551616 - (n : Int)) = ((18446744073709551616 - n : Nat) : Int) from by omega]
  refine h.trans ?_
  omega
theorem rot_or (v n : Nat) (hv : v < 4294967296) (hn : n < 32) : bits .or .u32 (((v * 2 ^ (32 - n) % 4294967296 : Nat)) : Int) ((v / 2 ^ n : Nat) : Int) = ((rotN v n : Nat) : Int) := by
  have e : 2 ^ n * 2 ^ (32 - n) = 4294967296 := by rw [← Nat.pow_add, Nat.add_sub_cancel' (by omega)]
  have hp : 0 < 2 ^ n := Nat.pow_pos (by decide)
  have h1 : v / 2 ^ n < 2 ^ (32 - n) := by rw [Nat.div_lt_iff_lt_mul hp, Nat.mul_comm, e]; exact hv
  have h2 : v * 2 ^ (32 - n) % 4294967296 = 2 ^ (32 - n) * (v % 2 ^ n) := by
    rw [← e, Nat.mul_mod_mul_right, Nat.mul_comm]
  have h3 := u32_or_nat (v * 2 ^ (32 - n) % 4294967296) (v / 2 ^ n) (Nat.mod_lt _ (by decide)) (Nat.lt_of_le_of_lt (Nat.div_le_self _ _) hv)
  rw [h3, h2, ← Nat.two_pow_add_eq_or_of_lt h1, rotN, Nat.add_comm, Nat.mul_comm (2 ^ (32 - n))]

theorem rot_or' (v n m : Nat) (hv : v < 4294967296) (hn : n < 32) (hm : m = 32 - n) : bits .or .u32 ((v : Int) * 2 ^ m % 4294967296) ((v : Int) / 2 ^ (32 - m)) = ((rotN v n : Nat) : Int) := by
  have h := rot_or v n hv hn
  rw [← hm, show n = 32 - m from by omega] at h
  rw [show n = 32 - m from by omega, ← h]
  congr 1

theorem rotleft_any (v n : Nat) (w : World) (hv : v < 4294967296) (h0 : 0 < n) (hn : n < 32) :
    Calls Tryd.prog 40 #[.int .u32 v, .int .i64 (-(n : Int))] w fun e w' => e = .returned (.int .u32 (rotN v n : Nat)) ∧ w = w' := by
  have hand := rot_and n h0 hn
  obtain ⟨m, hm⟩ : ∃ m, m = 32 - n := ⟨_, rfl⟩
  have hor := rot_or' v n m hv hn hm
  have hm32 : m ≤ 32 := by omega
  rw [← hm] at hand
  clear hm
  go_enter Tryd.func40, Tryd.ntmps40
  go_wp2_with fail
  go_ret
  exact ⟨rfl, rfl⟩

theorem rotate_any (v n : Nat) (w : World) (hv : v < 4294967296) (h0 : 0 < n) (hn : n < 32) :
    Calls Tryd.prog 39 #[.int .u32 v, .int .i64 n] w fun e w' => e = .returned (.int .u32 (rotN v n : Nat)) ∧ w = w' := by
  go_enter Tryd.func39, Tryd.ntmps39
  go_wp2_with (go_at_call 40; refine (rotleft_any v n _ hv h0 hn).mono ?_; rintro e w2 ⟨rfl, rfl⟩)
  go_ret
  exact ⟨rfl, rfl⟩

theorem rotations_any (v a b c : Nat) (w : World) (hv : v < 4294967296) (ha : 0 < a ∧ a < 32) (hb : 0 < b ∧ b < 32) (hc : 0 < c ∧ c < 32) :
    Calls Tryd.prog 35 #[.int .u32 v, .int .i64 a, .int .i64 b, .int .i64 c] w fun e w' => e = .returned (.int .u32 ((rotN v a ^^^ rotN v b ^^^ rotN v c : Nat) : Int)) ∧ w = w' := by
  have ra : rotN v a < 4294967296 := rotN_lt v a hv (by omega)
  have rb : rotN v b < 4294967296 := rotN_lt v b hv (by omega)
  have rc : rotN v c < 4294967296 := rotN_lt v c hv (by omega)
  have h1 := u32_xor_nat (rotN v a) (rotN v b) ra rb
  have h2 := u32_xor_nat (rotN v a ^^^ rotN v b) (rotN v c) (xor32 ra rb) rc
  clear ra rb rc
  go_enter Tryd.func35, Tryd.ntmps35
  go_wp2_with (first
    | (go_at_call 39; with_reducible refine (rotate_any v a _ hv ha.1 ha.2).mono ?_; rintro e w2 ⟨rfl, rfl⟩)
    | (go_at_call 39; with_reducible refine (rotate_any v b _ hv hb.1 hb.2).mono ?_; rintro e w2 ⟨rfl, rfl⟩)
    | (go_at_call 39; with_reducible refine (rotate_any v c _ hv hc.1 hc.2).mono ?_; rintro e w2 ⟨rfl, rfl⟩))
  go_ret
  exact ⟨rfl, rfl⟩

theorem xor_ones (r : Nat) (h : r < 4294967296) : r ^^^ 4294967295 = 4294967295 - r := by
  apply Nat.eq_of_testBit_eq
  intro i
  have e : (4294967295 : Nat) = 2 ^ 32 - 1 := rfl
  rw [Nat.testBit_xor, show 4294967295 - r = 2 ^ 32 - (r + 1) from by omega, Nat.testBit_two_pow_sub_succ h, e, Nat.testBit_two_pow_sub_one]
  by_cases hi : i < 32
  · simp [hi]
  · have hp : (2 : Nat) ^ 32 ≤ 2 ^ i := Nat.pow_le_pow_right (by decide) (by omega)
    have : r.testBit i = false := Nat.testBit_lt_two_pow (by omega)
    simp [hi, this]
theorem u32_not (r : Nat) (hr : r < 4294967296) : bits .xor .u32 IntKind.u32.max (r : Int) = ((4294967295 - r : Nat) : Int) := by
  have h := u32_xor_nat 4294967295 r (by decide) hr
  rw [Nat.xor_comm, xor_ones r hr] at h
  exact h
theorem choose_any (e f g : Nat) (w : World) (he : e < 4294967296) (hf : f < 4294967296) (hg : g < 4294967296) :
    Calls Tryd.prog 36 #[.int .u32 e, .int .u32 f, .int .u32 g] w fun r w' => r = .returned (.int .u32 (chN e f g : Nat)) ∧ w = w' := by
  have hs : ¬ (IntKind.u32.signed = true) := by decide
  have h0 := u32_not e he
  have h1 := u32_and_nat e f he hf
  have h2 := u32_and_nat (4294967295 - e) g (by omega) hg
  have h3 := u32_or_nat (e &&& f) ((4294967295 - e) &&& g) (and32 hf) (and32 hg)
  go_enter Tryd.func36, Tryd.ntmps36
  go_wp2_with fail
  go_ret
  exact ⟨rfl, rfl⟩
theorem majority_any (a b c : Nat) (w : World) (ha : a < 4294967296) (hb : b < 4294967296) (hc : c < 4294967296) :
    Calls Tryd.prog 37 #[.int .u32 a, .int .u32 b, .int .u32 c] w fun r w' => r = .returned (.int .u32 (majN a b c : Nat)) ∧ w = w' := by
  have h1 := u32_and_nat a b ha hb
  have h2 := u32_and_nat a c ha hc
  have h3 := u32_and_nat b c hb hc
  have h4 := u32_or_nat (a &&& b) (a &&& c) (and32 hb) (and32 hc)
  have h5 := u32_or_nat ((a &&& b) ||| (a &&& c)) (b &&& c) (or32 (and32 hb) (and32 hc)) (and32 hc)
  go_enter Tryd.func37, Tryd.ntmps37
  go_wp2_with fail
  go_ret
  exact ⟨rfl, rfl⟩
end Go.Proofs.YtjiighgabfkmpaaDoor
