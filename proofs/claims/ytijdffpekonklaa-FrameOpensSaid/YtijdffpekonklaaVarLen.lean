/- Contract of varint.Len. -/
import Derived.Test.YtijdffpekonklaaLen64
import Derived.Test.YtijdffpekonklaaVarMath
namespace Go.Proofs.Ytijdffpekonklaa
open Go.RowKit

theorem bitLen_pos (x : Nat) (h0 : 0 < x) (h : x < 2 ^ 64) : 1 ≤ Lib.bitLen x := by
  rw [Lib.bitLen_half x (by omega) h]; omega
theorem bitLen_gt (x k : Nat) (h1 : 2 ^ k ≤ x) (h : x < 2 ^ 64) : k + 1 ≤ Lib.bitLen x := by
  rw [Lib.bitLen_shift k x h1 h]
  have := bitLen_pos (x / 2 ^ k) (Nat.div_pos h1 (Nat.pow_pos (by decide))) (Nat.lt_of_le_of_lt (Nat.div_le_self _ _) h)
  omega
theorem form_len_bitLen (v : Nat) (h : v ≤ 18446744073709551615) : (form v).length = (Lib.bitLen (v ||| 1) + 6) / 7 := by
  have h64 : v ||| 1 < 2 ^ 64 := Nat.or_lt_two_pow (by omega) (by decide)
  have h0 : 0 < v ||| 1 := by
    have : 1 ≤ v ||| 1 := Nat.right_le_or
    omega
  have hp := bitLen_pos _ h0 h64
  refine form_len_bits v _ hp ?_ ?_
  · rcases Nat.lt_or_ge (v ||| 1) (2 ^ (Lib.bitLen (v ||| 1) - 1)) with q | q
    · exfalso
      have hle : Lib.bitLen (v ||| 1) ≤ 64 := Lib.bitLen_le _ 64 (Nat.le_refl _) h64
      have := Lib.bitLen_le _ _ (by omega) q
      omega
    · exact q
  · rcases Nat.lt_or_ge (v ||| 1) (2 ^ (Lib.bitLen (v ||| 1))) with q | q
    · exact q
    · exfalso
      have := bitLen_gt _ _ q h64
      omega
theorem len_form_any (v : Nat) (w : World) (h : v ≤ 18446744073709551615) :
    Calls Try.prog 25 #[.int .u64 v] w fun e w' => e = .returned (.int .i64 ((form v).length : Int)) ∧ w = w' := by
  obtain ⟨m, hm⟩ : ∃ m, m = v ||| 1 := ⟨_, rfl⟩
  have hor : bits .or .u64 (v : Int) 1 = (m : Int) := by rw [hm]; exact u64_or_nat v 1 (by omega) (by decide)
  have hm64 : m ≤ 18446744073709551615 := by
    have : v ||| 1 < 2 ^ 64 := Nat.or_lt_two_pow (by omega) (by decide)
    omega
  have hlen := form_len_bitLen v h
  rw [← hm] at hlen
  obtain ⟨L, hL⟩ : ∃ L, L = Lib.bitLen m := ⟨_, rfl⟩
  have hL64 : L ≤ 64 := by rw [hL]; exact Lib.bitLen_le _ 64 (Nat.le_refl _) (by omega)
  have hC := len64_any m
  rw [← hL] at hlen hC
  have HL := Lib.hid hlen
  have HC := Lib.hid (fun w => hC w hm64)
  clear hlen hC hm hL hm64 h
  go_enter Try.func25, Try.ntmps25
  go_wp2_with (go_at_call 37; refine (HC.out _).mono ?_; rintro e w' ⟨rfl, rfl⟩)
  go_ret
  exact ⟨congrArg (fun n => Ending.returned (Value.int .i64 n)) (by rw [HL.out]; omega), rfl⟩
end Go.Proofs.Ytijdffpekonklaa
