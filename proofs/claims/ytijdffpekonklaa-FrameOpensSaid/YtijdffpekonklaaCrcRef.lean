/- The document's answers Step and Sum. -/
import Derived.Test.YtijdffpekonklaaCrcO
namespace Go.Proofs.Ytijdffpekonklaa
open Go.RowKit

theorem two_pow8 (c : UInt8) : c.toNat % 2 ^ 8 = c.toNat := Nat.mod_eq_of_lt c.toNat_lt
theorem crcT_diff (x d : Nat) (h : d % 2 ≠ x % 2) : crcT (x ^^^ (d % 2)) = x / 2 ^^^ 3988292384 := by rw [crcT_bit x (d % 2) (by omega), if_pos h]
theorem crcT_same (x d : Nat) (h : d % 2 = x % 2) : crcT (x ^^^ (d % 2)) = x / 2 := by rw [crcT_bit x (d % 2) (by omega), if_neg (by omega), Nat.xor_zero]
def BitRel (r : Nat) (c : UInt8) (s d i : Value) : Prop :=
  ∃ k x y : Nat, k ≤ 8 ∧ i = .int .i64 (k : Int) ∧ s = .int .u32 (x : Int) ∧ d = .int .u8 (y : Int) ∧ y = c.toNat / 2 ^ k ∧ x = crcN k (r ^^^ (c.toNat % 2 ^ k))
set_option maxRecDepth 100000 in
theorem ref_step_any (r : Nat) (bs : List UInt8) (sv : Value) (w : World) (h : bytesAt w sv bs) (hr : r < 4294967296) :
    Calls Try.prog 36 #[.int .u32 r, sv] w fun e w' => e = .returned (.int .u32 (crcS r bs : Nat)) ∧ w = w' := by
  have hby := h
  obtain ⟨a0, c0, rfl, hle, hmx⟩ := h.form
  have hlen := h.len
  simp only [maxLen] at hlen hmx
  go_enter Try.func36, Try.ntmps36
  go_wp2_with fail
  go_loop [0, 5] (fun s i => ∃ k x : Nat, k ≤ bs.length ∧ i = .int .i64 (k : Int) ∧ s = .int .u32 (x : Int) ∧ x = crcS r (bs.take k)) (fun _ i => bs.length - (intOf i).toNat)
  case atStart => exact ⟨0, r, Nat.zero_le _, rfl, rfl, rfl⟩
  case round =>
    obtain ⟨k, x, hk, rfl, rfl, hx⟩ := hrel
    by_cases hkn : k < bs.length
    · have hd : decide (k < bs.length) = true := decide_eq_true hkn
      have hxl : x < 4294967296 := by rw [hx]; exact crcS_lt _ _ hr
      rcases hby with ⟨_, _, _, _, rfl⟩ | ⟨b, off, cap', e, _, _, hcell⟩
      · simp at hkn
      · simp only [Value.slice.injEq] at e
        obtain ⟨rfl, -, rfl⟩ := e
        have hc := hcell k hkn
        have hnext := crcS_take r bs k hkn
        rw [← hx] at hnext
        clear hcell h hx
        obtain ⟨c, hcc⟩ : ∃ c, c = bs[k]'hkn := ⟨_, rfl⟩
        rw [← hcc] at hc hnext
        have HN := Lib.hid hnext
        clear hnext hcc
        go_wp2_with fail
        go_loop [0, 6, 7] (fun s d i => BitRel x c s d i) (fun _ _ i => 8 - (intOf i).toNat)
        case atStart => exact ⟨0, x, c.toNat, by omega, rfl, rfl, rfl, by simp, by simp [crcN, Nat.mod_one]⟩
        case round =>
          obtain ⟨j, y, d, hj, rfl, rfl, rfl, hd', hy⟩ := hrel
          by_cases hj8 : j < 8
          · have hdj : decide ((j : Int) < 8) = true := decide_eq_true (by omega)
            have hdl : d < 256 := by rw [hd']; have := c.toNat_lt; have := Nat.div_le_self c.toNat (2 ^ j); omega
            have hyl : y < 4294967296 := by rw [hy]; exact crcN_lt _ _ (Nat.xor_lt_two_pow (n := 32) hxl (by have := Nat.mod_le c.toNat (2 ^ j); have := c.toNat_lt; omega))
            have hbits := crc_bits x c.toNat j
            have hhalf : d / 2 = c.toNat / 2 ^ (j + 1) := by rw [hd', Nat.pow_succ, Nat.div_div_eq_div_mul]
            rw [← hd', ← hy] at hbits
            have HB := Lib.hid hbits
            have HH := Lib.hid hhalf
            clear hbits hhalf hd' hy
            by_cases he : d % 2 = y % 2
            · have hne : ((d : Int) % 2 != (y : Int) % 2) = false := by rw [bne_eq_false_iff_eq]; omega
              have HT := Lib.hid (crcT_same y d he)
              clear he
              go_wp2_with fail
              exact ⟨⟨j + 1, y / 2, d / 2, by omega, by go_num, by go_num, by go_num, HH.out, by rw [← HB.out, HT.out]⟩, by simp [intOf]; omega⟩
            · have hne : ((d : Int) % 2 != (y : Int) % 2) = true := by rw [bne_iff_ne]; omega
              have hxor : bits .xor .u32 ((y : Int) / 2) 3988292384 = ((crcT (y ^^^ (d % 2)) : Nat) : Int) := by
                rw [crcT_diff y d he, ← u32_xor_nat (y / 2) 3988292384 (by omega) (by decide)]; rfl
              clear he
              have HX2 := Lib.hid hxor
              clear hxor
              go_wp2_with fail
              exact ⟨⟨j + 1, crcT (y ^^^ d % 2), d / 2, by omega, by go_num, by rw [HX2.out], by go_num, HH.out, HB.out⟩, by simp [intOf]; omega⟩
          · obtain rfl : j = 8 := by omega
            rw [two_pow8] at hy
            have HY := Lib.hid hy
            clear hy hd'
            go_wp2_with fail
            exact ⟨⟨k + 1, y, by omega, by go_num, rfl, by rw [HN.out, HY.out]; rfl⟩, by simp [intOf]; omega⟩
    · obtain rfl : k = bs.length := by omega
      rw [List.take_length] at hx
      have HX := Lib.hid hx
      clear hx
      go_wp2_with fail
      go_ret
      exact ⟨congrArg (fun n : Nat => Ending.returned (Value.int .u32 (n : Int))) HX.out, rfl⟩

set_option maxRecDepth 100000 in
theorem ref_sum_any (bs : List UInt8) (sv : Value) (w : World) (h : bytesAt w sv bs) :
    Calls Try.prog 24 #[sv] w fun e w' => e = .returned (.int .u32 (crcOf bs : Nat)) ∧ w = w' := by
  obtain ⟨a0, c0, rfl, hle, hmx⟩ := h.form
  have hlt := crcS_ones bs
  obtain ⟨s, hs⟩ : ∃ s, s = crcS 4294967295 bs := ⟨_, rfl⟩
  have HC := Lib.hid ((ref_step_any 4294967295 bs _ w h (by decide)))
  rw [← hs] at hlt HC
  have HS := Lib.hid hs
  clear hs
  go_enter Try.func24, Try.ntmps24
  go_wp2_with (go_at_call 36; refine HC.out.mono ?_; rintro e w2 ⟨rfl, rfl⟩)
  go_ret
  refine ⟨?_, rfl⟩
  rw [crcOf, ← HS.out]
  exact congrArg (fun n : Int => Ending.returned (Value.int .u32 n)) (by omega)
end Go.Proofs.Ytijdffpekonklaa
