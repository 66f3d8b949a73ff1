/- bits.Len64: the library's own text, walked. -/
import Derived.Test.YtijdffpekonklaaProg
import Derived.WalkKit
import Derived.WalkSpells
import Derived.Lib.BitFns
import Derived.Lib.Tables
import Derived.Lib.Hide
namespace Go.Proofs.Ytijdffpekonklaa
open Go.RowKit

/-- The library's table, as the program's text has it. -/
theorem fold_tab : (⟨(([0, 1, 2, 2, 3, 3, 3, 3, 4, 4, 4, 4, 4, 4, 4, 4, 5, 5, 5, 5, 5, 5, 5, 5, 5, 5, 5, 5, 5, 5, 5, 5, 6, 6, 6, 6, 6, 6, 6, 6, 6, 6, 6, 6, 6, 6, 6, 6, 6, 6, 6, 6, 6, 6, 6, 6, 6, 6, 6, 6, 6, 6, 6, 6].append [7, 7, 7, 7, 7, 7, 7, 7, 7, 7, 7, 7, 7, 7, 7, 7, 7, 7, 7, 7, 7, 7, 7, 7, 7, 7, 7, 7, 7, 7, 7, 7, 7, 7, 7, 7, 7, 7, 7, 7, 7, 7, 7, 7, 7, 7, 7, 7, 7, 7, 7, 7, 7, 7, 7, 7, 7, 7, 7, 7, 7, 7, 7, 7]).append ([8, 8, 8, 8, 8, 8, 8, 8, 8, 8, 8, 8, 8, 8, 8, 8, 8, 8, 8, 8, 8, 8, 8, 8, 8, 8, 8, 8, 8, 8, 8, 8, 8, 8, 8, 8, 8, 8, 8, 8, 8, 8, 8, 8, 8, 8, 8, 8, 8, 8, 8, 8, 8, 8, 8, 8, 8, 8, 8, 8, 8, 8, 8, 8].append [8, 8, 8, 8, 8, 8, 8, 8, 8, 8, 8, 8, 8, 8, 8, 8, 8, 8, 8, 8, 8, 8, 8, 8, 8, 8, 8, 8, 8, 8, 8, 8, 8, 8, 8, 8, 8, 8, 8, 8, 8, 8, 8, 8, 8, 8, 8, 8, 8, 8, 8, 8, 8, 8, 8, 8, 8, 8, 8, 8, 8, 8, 8, 8])).toArray⟩ : ByteArray) = Lib.len8tab := by kernel_rfl

theorem len8_nat (y : Int) (h0 : 0 ≤ y) (h : y ≤ 255) : ∃ L : Nat, Lib.len8 y = (L : Int) ∧ L = Lib.bitLen y.toNat ∧ L ≤ 8 :=
  ⟨_, Lib.len8_of y h0 h, rfl, Lib.bitLen_le8' y h0 h⟩

theorem len64_0 (x : Nat) (w : World) (hlo : 0 ≤ x) (hhi : x < 256) : Calls Try.prog 37 #[.int .u64 x] w fun e w' => e = .returned (.int .i64 (Lib.bitLen x)) ∧ w = w' := by
  have hx64 : (x : Int) ≤ 18446744073709551615 := by omega
  have hx0 : (0 : Int) ≤ (x : Int) := by omega
  have d4294967296 : decide (4294967296 ≤ (x : Int)) = false := decide_eq_false (by omega)
  have d65536 : decide (65536 ≤ (x : Int)) = false := decide_eq_false (by omega)
  have d256 : decide (256 ≤ (x : Int)) = false := decide_eq_false (by omega)
  have z1 : 0 ≤ (x : Int) := by omega
  have z2 : 0 ≤ (x : Int) := by omega
  have y0 : (0 : Int) ≤ (x : Int) := by omega
  have y1 : (x : Int) ≤ 255 := by omega
  obtain ⟨L, hL, hLb, hL8⟩ := len8_nat ((x : Int)) y0 y1
  have hfin : (0 : Int) + (L : Int) = (Lib.bitLen x : Int) := by
    rw [hLb, show ((x : Int)).toNat = x from by omega]
    omega
  have HF := Lib.hid hfin
  clear hfin hLb hlo hhi
  go_enter Try.func37, Try.ntmps37
  rw [fold_tab]
  go_wp2
  go_ret
  exact ⟨congrArg (fun n => Ending.returned (Value.int .i64 n)) (by rw [← HF.out]; omega), rfl⟩

theorem len64_8 (x : Nat) (w : World) (hlo : 256 ≤ x) (hhi : x < 65536) : Calls Try.prog 37 #[.int .u64 x] w fun e w' => e = .returned (.int .i64 (Lib.bitLen x)) ∧ w = w' := by
  have hx64 : (x : Int) ≤ 18446744073709551615 := by omega
  have hx0 : (0 : Int) ≤ (x : Int) := by omega
  have d4294967296 : decide (4294967296 ≤ (x : Int)) = false := decide_eq_false (by omega)
  have d65536 : decide (65536 ≤ (x : Int)) = false := decide_eq_false (by omega)
  have d256 : decide (256 ≤ (x : Int)) = true := decide_eq_true (by omega)
  have z1 : 0 ≤ (x : Int) := by omega
  have z2 : 0 ≤ (x : Int) := by omega
  have y0 : (0 : Int) ≤ (x : Int) / 256 := by omega
  have y1 : (x : Int) / 256 ≤ 255 := by omega
  obtain ⟨L, hL, hLb, hL8⟩ := len8_nat ((x : Int) / 256) y0 y1
  have hfin : (8 : Int) + (L : Int) = (Lib.bitLen x : Int) := by
    rw [hLb, show ((x : Int) / 256).toNat = x / 256 from by omega]
    have := Lib.bitLen_shift8 x (by omega) (by omega); omega
  have HF := Lib.hid hfin
  clear hfin hLb hlo hhi
  go_enter Try.func37, Try.ntmps37
  rw [fold_tab]
  go_wp2
  go_ret
  exact ⟨congrArg (fun n => Ending.returned (Value.int .i64 n)) (by rw [← HF.out]), rfl⟩

theorem len64_16 (x : Nat) (w : World) (hlo : 65536 ≤ x) (hhi : x < 16777216) : Calls Try.prog 37 #[.int .u64 x] w fun e w' => e = .returned (.int .i64 (Lib.bitLen x)) ∧ w = w' := by
  have hx64 : (x : Int) ≤ 18446744073709551615 := by omega
  have hx0 : (0 : Int) ≤ (x : Int) := by omega
  have d4294967296 : decide (4294967296 ≤ (x : Int)) = false := decide_eq_false (by omega)
  have d65536 : decide (65536 ≤ (x : Int)) = true := decide_eq_true (by omega)
  have d256 : decide (256 ≤ (x : Int) / 65536) = false := decide_eq_false (by omega)
  have z1 : 0 ≤ (x : Int) := by omega
  have z2 : 0 ≤ (x : Int) / 65536 := by omega
  have y0 : (0 : Int) ≤ (x : Int) / 65536 := by omega
  have y1 : (x : Int) / 65536 ≤ 255 := by omega
  obtain ⟨L, hL, hLb, hL8⟩ := len8_nat ((x : Int) / 65536) y0 y1
  have hfin : (16 : Int) + (L : Int) = (Lib.bitLen x : Int) := by
    rw [hLb, show ((x : Int) / 65536).toNat = x / 65536 from by omega]
    have := Lib.bitLen_shift16 x (by omega) (by omega); omega
  have HF := Lib.hid hfin
  clear hfin hLb hlo hhi
  go_enter Try.func37, Try.ntmps37
  rw [fold_tab]
  go_wp2
  go_ret
  exact ⟨congrArg (fun n => Ending.returned (Value.int .i64 n)) (by rw [← HF.out]), rfl⟩

theorem len64_24 (x : Nat) (w : World) (hlo : 16777216 ≤ x) (hhi : x < 4294967296) : Calls Try.prog 37 #[.int .u64 x] w fun e w' => e = .returned (.int .i64 (Lib.bitLen x)) ∧ w = w' := by
  have hx64 : (x : Int) ≤ 18446744073709551615 := by omega
  have hx0 : (0 : Int) ≤ (x : Int) := by omega
  have d4294967296 : decide (4294967296 ≤ (x : Int)) = false := decide_eq_false (by omega)
  have d65536 : decide (65536 ≤ (x : Int)) = true := decide_eq_true (by omega)
  have d256 : decide (256 ≤ (x : Int) / 65536) = true := decide_eq_true (by omega)
  have z1 : 0 ≤ (x : Int) := by omega
  have z2 : 0 ≤ (x : Int) / 65536 := by omega
  have y0 : (0 : Int) ≤ (x : Int) / 65536 / 256 := by omega
  have y1 : (x : Int) / 65536 / 256 ≤ 255 := by omega
  obtain ⟨L, hL, hLb, hL8⟩ := len8_nat ((x : Int) / 65536 / 256) y0 y1
  have hfin : (24 : Int) + (L : Int) = (Lib.bitLen x : Int) := by
    rw [hLb, show ((x : Int) / 65536 / 256).toNat = x / 16777216 from by omega]
    have := Lib.bitLen_shift24 x (by omega) (by omega); omega
  have HF := Lib.hid hfin
  clear hfin hLb hlo hhi
  go_enter Try.func37, Try.ntmps37
  rw [fold_tab]
  go_wp2
  go_ret
  exact ⟨congrArg (fun n => Ending.returned (Value.int .i64 n)) (by rw [← HF.out]), rfl⟩

theorem len64_32 (x : Nat) (w : World) (hlo : 4294967296 ≤ x) (hhi : x < 1099511627776) : Calls Try.prog 37 #[.int .u64 x] w fun e w' => e = .returned (.int .i64 (Lib.bitLen x)) ∧ w = w' := by
  have hx64 : (x : Int) ≤ 18446744073709551615 := by omega
  have hx0 : (0 : Int) ≤ (x : Int) := by omega
  have d4294967296 : decide (4294967296 ≤ (x : Int)) = true := decide_eq_true (by omega)
  have d65536 : decide (65536 ≤ (x : Int) / 4294967296) = false := decide_eq_false (by omega)
  have d256 : decide (256 ≤ (x : Int) / 4294967296) = false := decide_eq_false (by omega)
  have z1 : 0 ≤ (x : Int) / 4294967296 := by omega
  have z2 : 0 ≤ (x : Int) / 4294967296 := by omega
  have y0 : (0 : Int) ≤ (x : Int) / 4294967296 := by omega
  have y1 : (x : Int) / 4294967296 ≤ 255 := by omega
  obtain ⟨L, hL, hLb, hL8⟩ := len8_nat ((x : Int) / 4294967296) y0 y1
  have hfin : (32 : Int) + (L : Int) = (Lib.bitLen x : Int) := by
    rw [hLb, show ((x : Int) / 4294967296).toNat = x / 4294967296 from by omega]
    have := Lib.bitLen_shift32 x (by omega) (by omega); omega
  have HF := Lib.hid hfin
  clear hfin hLb hlo hhi
  go_enter Try.func37, Try.ntmps37
  rw [fold_tab]
  go_wp2
  go_ret
  exact ⟨congrArg (fun n => Ending.returned (Value.int .i64 n)) (by rw [← HF.out]), rfl⟩

theorem len64_40 (x : Nat) (w : World) (hlo : 1099511627776 ≤ x) (hhi : x < 281474976710656) : Calls Try.prog 37 #[.int .u64 x] w fun e w' => e = .returned (.int .i64 (Lib.bitLen x)) ∧ w = w' := by
  have hx64 : (x : Int) ≤ 18446744073709551615 := by omega
  have hx0 : (0 : Int) ≤ (x : Int) := by omega
  have d4294967296 : decide (4294967296 ≤ (x : Int)) = true := decide_eq_true (by omega)
  have d65536 : decide (65536 ≤ (x : Int) / 4294967296) = false := decide_eq_false (by omega)
  have d256 : decide (256 ≤ (x : Int) / 4294967296) = true := decide_eq_true (by omega)
  have z1 : 0 ≤ (x : Int) / 4294967296 := by omega
  have z2 : 0 ≤ (x : Int) / 4294967296 := by omega
  have y0 : (0 : Int) ≤ (x : Int) / 4294967296 / 256 := by omega
  have y1 : (x : Int) / 4294967296 / 256 ≤ 255 := by omega
  obtain ⟨L, hL, hLb, hL8⟩ := len8_nat ((x : Int) / 4294967296 / 256) y0 y1
  have hfin : (40 : Int) + (L : Int) = (Lib.bitLen x : Int) := by
    rw [hLb, show ((x : Int) / 4294967296 / 256).toNat = x / 1099511627776 from by omega]
    have := Lib.bitLen_shift40 x (by omega) (by omega); omega
  have HF := Lib.hid hfin
  clear hfin hLb hlo hhi
  go_enter Try.func37, Try.ntmps37
  rw [fold_tab]
  go_wp2
  go_ret
  exact ⟨congrArg (fun n => Ending.returned (Value.int .i64 n)) (by rw [← HF.out]), rfl⟩

theorem len64_48 (x : Nat) (w : World) (hlo : 281474976710656 ≤ x) (hhi : x < 72057594037927936) : Calls Try.prog 37 #[.int .u64 x] w fun e w' => e = .returned (.int .i64 (Lib.bitLen x)) ∧ w = w' := by
  have hx64 : (x : Int) ≤ 18446744073709551615 := by omega
  have hx0 : (0 : Int) ≤ (x : Int) := by omega
  have d4294967296 : decide (4294967296 ≤ (x : Int)) = true := decide_eq_true (by omega)
  have d65536 : decide (65536 ≤ (x : Int) / 4294967296) = true := decide_eq_true (by omega)
  have d256 : decide (256 ≤ (x : Int) / 4294967296 / 65536) = false := decide_eq_false (by omega)
  have z1 : 0 ≤ (x : Int) / 4294967296 := by omega
  have z2 : 0 ≤ (x : Int) / 4294967296 / 65536 := by omega
  have y0 : (0 : Int) ≤ (x : Int) / 4294967296 / 65536 := by omega
  have y1 : (x : Int) / 4294967296 / 65536 ≤ 255 := by omega
  obtain ⟨L, hL, hLb, hL8⟩ := len8_nat ((x : Int) / 4294967296 / 65536) y0 y1
  have hfin : (48 : Int) + (L : Int) = (Lib.bitLen x : Int) := by
    rw [hLb, show ((x : Int) / 4294967296 / 65536).toNat = x / 281474976710656 from by omega]
    have := Lib.bitLen_shift48 x (by omega) (by omega); omega
  have HF := Lib.hid hfin
  clear hfin hLb hlo hhi
  go_enter Try.func37, Try.ntmps37
  rw [fold_tab]
  go_wp2
  go_ret
  exact ⟨congrArg (fun n => Ending.returned (Value.int .i64 n)) (by rw [← HF.out]), rfl⟩

theorem len64_56 (x : Nat) (w : World) (hlo : 72057594037927936 ≤ x) (hhi : x < 18446744073709551616) : Calls Try.prog 37 #[.int .u64 x] w fun e w' => e = .returned (.int .i64 (Lib.bitLen x)) ∧ w = w' := by
  have hx64 : (x : Int) ≤ 18446744073709551615 := by omega
  have hx0 : (0 : Int) ≤ (x : Int) := by omega
  have d4294967296 : decide (4294967296 ≤ (x : Int)) = true := decide_eq_true (by omega)
  have d65536 : decide (65536 ≤ (x : Int) / 4294967296) = true := decide_eq_true (by omega)
  have d256 : decide (256 ≤ (x : Int) / 4294967296 / 65536) = true := decide_eq_true (by omega)
  have z1 : 0 ≤ (x : Int) / 4294967296 := by omega
  have z2 : 0 ≤ (x : Int) / 4294967296 / 65536 := by omega
  have y0 : (0 : Int) ≤ (x : Int) / 4294967296 / 65536 / 256 := by omega
  have y1 : (x : Int) / 4294967296 / 65536 / 256 ≤ 255 := by omega
  obtain ⟨L, hL, hLb, hL8⟩ := len8_nat ((x : Int) / 4294967296 / 65536 / 256) y0 y1
  have hfin : (56 : Int) + (L : Int) = (Lib.bitLen x : Int) := by
    rw [hLb, show ((x : Int) / 4294967296 / 65536 / 256).toNat = x / 72057594037927936 from by omega]
    have := Lib.bitLen_shift56 x (by omega) (by omega); omega
  have HF := Lib.hid hfin
  clear hfin hLb hlo hhi
  go_enter Try.func37, Try.ntmps37
  rw [fold_tab]
  go_wp2
  go_ret
  exact ⟨congrArg (fun n => Ending.returned (Value.int .i64 n)) (by rw [← HF.out]), rfl⟩

/-- bits.Len64. -/
theorem len64_any (x : Nat) (w : World) (h : x ≤ 18446744073709551615) : Calls Try.prog 37 #[.int .u64 x] w fun e w' => e = .returned (.int .i64 (Lib.bitLen x)) ∧ w = w' := by
  by_cases h0 : x < 256
  · exact len64_0 x w (by omega) h0
  by_cases h8 : x < 65536
  · exact len64_8 x w (by omega) h8
  by_cases h16 : x < 16777216
  · exact len64_16 x w (by omega) h16
  by_cases h24 : x < 4294967296
  · exact len64_24 x w (by omega) h24
  by_cases h32 : x < 1099511627776
  · exact len64_32 x w (by omega) h32
  by_cases h40 : x < 281474976710656
  · exact len64_40 x w (by omega) h40
  by_cases h48 : x < 72057594037927936
  · exact len64_48 x w (by omega) h48
  exact len64_56 x w (by omega) (by omega)
end Go.Proofs.Ytijdffpekonklaa
