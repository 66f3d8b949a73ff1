/- Contracts of package crc: Begin, End, shift, process. -/
import Derived.Test.YtijdffpekonklaaRow
import Derived.Test.YtijdffpekonklaaArr
import Derived.Test.YtijdffpekonklaaCrcMath
import Derived.Test.YtijdffpekonklaaProg
namespace Go.Proofs.Ytijdffpekonklaa
open Go.RowKit

theorem begin_any (w : World) : Calls Try.prog 32 #[] w fun e w' => e = .returned (.int .u32 4294967295) ∧ w = w' := by
  go_enter Try.func32, Try.ntmps32
  go_wp2
  go_ret
  exact ⟨rfl, rfl⟩

theorem u32_not (r : Nat) (hr : r < 4294967296) : bits .xor .u32 IntKind.u32.max (r : Int) = ((4294967295 - r : Nat) : Int) := by
  have h := u32_xor_nat 4294967295 r (by decide) hr
  rw [Nat.xor_comm, xor_ones r hr] at h
  exact h
theorem end_any (r : Nat) (w : World) (hr : r < 4294967296) : Calls Try.prog 34 #[.int .u32 r] w fun e w' => e = .returned (.int .u32 ((4294967295 - r : Nat) : Int)) ∧ w = w' := by
  have hs : ¬ (IntKind.u32.signed = true) := by decide
  have hb := u32_not r hr
  go_enter Try.func34, Try.ntmps34
  go_wp2
  go_ret
  exact ⟨rfl, rfl⟩

theorem shift_one (x : Nat) (h : x % 2 = 1) : crcT x = x / 2 ^^^ 3988292384 := by rw [crcT, if_pos h]
theorem shift_none (x : Nat) (h : x % 2 ≠ 1) : crcT x = x / 2 := by rw [crcT, if_neg h, Nat.xor_zero]
theorem shift_any (r : Nat) (w : World) (hr : r < 4294967296) :
    Calls Try.prog 44 #[.int .u32 r] w fun e w' => e = .returned (.int .u32 (crcN 8 r : Nat)) ∧ w = w' := by
  go_enter Try.func44, Try.ntmps44
  go_wp2_with fail
  go_loop [0, 4] (fun s i => ∃ k x : Nat, k ≤ 8 ∧ i = .int .i64 (k : Int) ∧ s = .int .u32 (x : Int) ∧ x = crcN k r) (fun _ i => 8 - (intOf i).toNat)
  case atStart => exact ⟨0, r, Nat.zero_le _, rfl, rfl, rfl⟩
  case round =>
    obtain ⟨k, x, hk, rfl, rfl, hx⟩ := hrel
    by_cases hkn : k < 8
    · have hd : decide ((k : Int) < 8) = true := decide_eq_true (by omega)
      have hxl : x < 4294967296 := by rw [hx]; exact crcN_lt _ _ hr
      have hand : bits .and .u32 (x : Int) 1 = ((x % 2 : Nat) : Int) := by
        have := u32_and_nat x 1 hxl (by decide)
        rwa [nat_mask1] at this
      by_cases ho : x % 2 = 1
      · have hne : (bits .and .u32 (x : Int) 1 != 0) = true := by rw [hand, ho]; rfl
        have hxor : bits .xor .u32 ((x : Int) / 2) 3988292384 = ((crcT x : Nat) : Int) := by
          rw [shift_one x ho, ← u32_xor_nat (x / 2) 3988292384 (by omega) (by decide)]; rfl
        have HX := Lib.hid hx
        clear hx hand
        go_wp2_with fail
        go_round
        case rel => exact ⟨k + 1, crcT x, by omega, by go_num, rfl, by rw [HX.out]; rfl⟩
        case measure => simp [intOf]; omega
      · have hne : (bits .and .u32 (x : Int) 1 != 0) = false := by rw [hand, show x % 2 = 0 from by omega]; rfl
        have hT := shift_none x ho
        have HX := Lib.hid hx
        have HT := Lib.hid hT
        clear hx hand hT
        go_wp2_with fail
        go_round
        case rel => exact ⟨k + 1, x / 2, by omega, by go_num, by go_num, by rw [← HT.out, HX.out]; rfl⟩
        case measure => simp [intOf]; omega
    · obtain rfl : k = 8 := by omega
      have HX := Lib.hid hx
      clear hx
      go_wp2_with fail
      go_ret
      exact ⟨congrArg (fun n : Nat => Ending.returned (Value.int .u32 (n : Int))) HX.out, rfl⟩

/-- The table while it is made, its places below k being filled. -/
def crcTab (k : Nat) : Array Value := ((List.range 256).map fun j => Value.int .u32 ((if j < k then crcN 8 j else 0 : Nat) : Int)).toArray
theorem crcTab_size (k : Nat) : (crcTab k).size = 256 := by simp [crcTab]
theorem crcTab_get (k i : Nat) (h : i < 256) : (crcTab k)[i]? = some (.int .u32 ((if i < k then crcN 8 i else 0 : Nat) : Int)) := by simp [crcTab, h]
theorem crcTab_full (i : Nat) (h : i < 256) : (crcTab 256)[i]? = some (.int .u32 ((crcN 8 i : Nat) : Int)) := by rw [crcTab_get _ _ h, if_pos h]
theorem crcTab_set (k : Nat) (h : k < 256) : (crcTab k).setIfInBounds k (.int .u32 ((crcN 8 k : Nat) : Int)) = crcTab (k + 1) := by
  apply Array.ext_getElem?
  intro i
  rw [Array.getElem?_setIfInBounds]
  by_cases hik : k = i
  · subst hik
    rw [if_pos rfl, if_pos (by rw [crcTab_size]; exact h), crcTab_get _ _ h, if_pos (by omega)]
  · rw [if_neg hik]
    by_cases hi : i < 256
    · rw [crcTab_get _ _ hi, crcTab_get _ _ hi]
      by_cases h1 : i < k
      · rw [if_pos h1, if_pos (by omega)]
      · rw [if_neg h1, if_neg (by omega)]
    · rw [Array.getElem?_eq_none (by rw [crcTab_size]; omega), Array.getElem?_eq_none (by rw [crcTab_size]; omega)]
theorem crcTab_one (k : Nat) : (crcTab k).all (·.oneCell') = true := by
  rw [Array.all_eq_true_iff_forall_mem]
  intro x hx
  simp [crcTab] at hx
  obtain ⟨j, _, rfl⟩ := hx
  rfl

/-- process: the register behind bytes. -/
theorem crcS_take (r : Nat) (bs : List UInt8) (k : Nat) (h : k < bs.length) : crcS r (bs.take (k + 1)) = crcB (crcS r (bs.take k)) (bs[k]'h) := by
  rw [List.take_succ_eq_append_getElem h, crcS_append]; rfl
/-- The table's place, and the register behind a byte. -/
theorem crc_idx (x c : Nat) (hc : c < 256) : bits .xor .u8 ((x : Int) % 256) (c : Int) = (((x ^^^ c) % 256 : Nat) : Int) := by
  have h := u8_xor_nat (x % 256) c (by omega) hc
  rw [show ((x % 256 : Nat) : Int) = (x : Int) % 256 from by omega] at h
  have e := Nat.xor_mod_two_pow (a := x) (b := c) (n := 8)
  rw [show (2 : Nat) ^ 8 = 256 from rfl, Nat.mod_eq_of_lt hc] at e
  rw [h, ← e]
theorem crc_put (x : Nat) (c : UInt8) (hx : x < 4294967296) : bits .xor .u32 ((crcN 8 ((x ^^^ c.toNat) % 256) : Nat) : Int) ((x : Int) / 256) = ((crcB x c : Nat) : Int) := by
  have h := u32_xor_nat (crcN 8 ((x ^^^ c.toNat) % 256)) (x / 256) (crcN_lt _ _ (by omega)) (by omega)
  rw [show ((x / 256 : Nat) : Int) = (x : Int) / 256 from by omega] at h
  rw [h, crcB_table, Nat.xor_comm]

set_option maxRecDepth 100000 in
theorem process_any (r : Nat) (bs : List UInt8) (sv : Value) (w : World) (h : bytesAt w sv bs) (hr : r < 4294967296) :
    Calls Try.prog 33 #[.agg (crcTab 256), .int .u32 r, sv] w fun e w' => e = .returned (.int .u32 (crcS r bs : Nat)) ∧ Fr [] w w' := by
  obtain ⟨a0, c0, rfl, hle, hmx⟩ := h.form
  have hlen := h.len
  simp only [maxLen] at hlen hmx
  obtain ⟨T, hT⟩ : ∃ T, T = crcTab 256 := ⟨_, rfl⟩
  rw [← hT]
  have HT := Lib.hid hT
  clear hT
  go_enter Try.func33, Try.ntmps33
  go_wp2_with (refine wpL_boxArr rfl _ _ rfl T rfl ?_; intro w1 hh1 hf1 hs1)
  have hb1 := h.below hf1
  go_loop [1, 11] (fun s i => ∃ k x : Nat, k ≤ bs.length ∧ i = .int .i64 (k : Int) ∧ s = .int .u32 (x : Int) ∧ x = crcS r (bs.take k)) (fun _ i => bs.length - (intOf i).toNat)
  case atStart => exact ⟨0, r, Nat.zero_le _, rfl, rfl, rfl⟩
  case round =>
    obtain ⟨k, x, hk, rfl, rfl, hx⟩ := hrel
    by_cases hkn : k < bs.length
    · have hd : decide (k < bs.length) = true := decide_eq_true hkn
      have hxl : x < 4294967296 := by rw [hx]; exact crcS_lt _ _ hr
      rcases hb1 with ⟨_, _, _, _, rfl⟩ | ⟨b, off, cap', e, _, _, hcell⟩
      · simp at hkn
      · simp only [Value.slice.injEq] at e
        obtain ⟨rfl, -, rfl⟩ := e
        have hc := hcell k hkn
        have hnext := crcS_take r bs k hkn
        rw [← hx] at hnext
        clear hcell h hx
        obtain ⟨c, hcc⟩ : ∃ c, c = bs[k]'hkn := ⟨_, rfl⟩
        rw [← hcc] at hc hnext
        have hidx := crc_idx x c.toNat c.toNat_lt
        have hput := crc_put x c hxl
        obtain ⟨idx, hi⟩ : ∃ idx, idx = (x ^^^ c.toNat) % 256 := ⟨_, rfl⟩
        have hil : idx < 256 := by omega
        have hli : (idx : Int) < 256 := by omega
        have htab : w1.cell? ⟨w.heap.size, idx, none⟩ = some (.int .u32 ((crcN 8 idx : Nat) : Int)) := by
          rw [cell_of_heap hh1.out, HT.out, crcTab_full idx hil]
        rw [← hi] at hidx hput
        have HN := Lib.hid hnext
        clear hnext hi hcc
        go_wp2_with fail
        go_round
        case rel => exact ⟨k + 1, crcB x c, by omega, by go_num, rfl, HN.out.symm⟩
        case measure => simp [intOf]; omega
    · obtain rfl : k = bs.length := by omega
      rw [List.take_length] at hx
      have HX := Lib.hid hx
      clear hx
      go_wp2_with fail
      go_ret
      exact ⟨congrArg (fun n : Nat => Ending.returned (Value.int .u32 (n : Int))) HX.out, hf1⟩
end Go.Proofs.Ytijdffpekonklaa
