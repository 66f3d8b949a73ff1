/- Contracts of package seven: packedLen, count, Len, Whole. -/
import Derived.Test.YtjddagkjgkdbkaaPart
import Derived.Test.YtjddagkjgkdbkaaKit
import Derived.Test.YtjddagkjgkdbkaaSevMath
import Derived.Test.YtjddagkjgkdbkaaProg
import Derived.LoopTactic
namespace Go.Proofs.Ytjddagkjgkdbkaa
open Go.RowKit

theorem lenP_int (n : Nat) : (n : Int) + ((n : Int) + 6) / 7 = (lenP n : Nat) := by simp only [lenP]; omega
theorem packedLen_any (n : Nat) (w : World) (hn : n ≤ 1000000000000) :
    Calls Try.prog 16 #[.int .i64 n] w fun e w' => e = .returned (.int .i64 (lenP n : Nat)) ∧ w = w' := by
  have HL := Lib.hid (lenP_int n)
  go_enter Try.func16, Try.ntmps16
  go_wp2_with fail
  go_ret
  refine ⟨?_, rfl⟩
  rw [← HL.out]
  exact congrArg (fun n : Int => Ending.returned (Value.int .i64 n)) (by omega)
def len7 (n : Int) : Nat := if 0 ≤ n ∧ n ≤ 1048576 then lenP n.toNat else 0
theorem len_any (n : Int) (w : World) :
    Calls Try.prog 10 #[.int .i64 n] w fun e w' => e = .returned (.int .i64 (len7 n : Nat)) ∧ w = w' := by
  by_cases h1 : n < 0
  · have hd : decide (n < 0) = true := decide_eq_true h1
    have HL := Lib.hid (show len7 n = 0 from if_neg (by omega))
    clear h1
    go_enter Try.func10, Try.ntmps10
    go_wp2_with fail
    go_ret
    exact ⟨by rw [HL.out]; rfl, rfl⟩
  · have hd : decide (n < 0) = false := decide_eq_false h1
    by_cases h2 : 1048576 < n
    · have hd2 : decide (1048576 < n) = true := decide_eq_true h2
      have HL := Lib.hid (show len7 n = 0 from if_neg (by omega))
      clear h1 h2
      go_enter Try.func10, Try.ntmps10
      go_wp2_with fail
      go_ret
      exact ⟨by rw [HL.out]; rfl, rfl⟩
    · have hd2 : decide (1048576 < n) = false := decide_eq_false h2
      have HL := Lib.hid (show len7 n = lenP n.toNat from if_pos (by omega))
      obtain ⟨k, rfl⟩ := Int.eq_ofNat_of_zero_le (show 0 ≤ n by omega)
      rw [Int.toNat_natCast] at HL
      have hk : k ≤ 1048576 := by omega
      clear h1 h2
      go_enter Try.func10, Try.ntmps10
      go_wp2_with (go_at_call 16; refine (packedLen_any k _ (by omega)).mono ?_; rintro e w1 ⟨rfl, rfl⟩)
      go_ret
      exact ⟨by rw [HL.out]; rfl, rfl⟩
/-- A byte of a slice that reads as bytes, and where its cell lies. -/
theorem byteAt {w : World} {a : Option Addr} {cap : Nat} {bs : List UInt8} (h : bytesAt w (.slice a bs.length cap) bs) (k : Nat) (hk : k < bs.length) : ∃ b off, a = some ⟨b, off, none⟩ ∧ w.cell? ⟨b, off + k, none⟩ = some (.int .u8 ((bs[k]'hk).toNat : Int)) := by
  rcases h with ⟨_, _, _, _, rfl⟩ | ⟨b, off, cap', e, _, _, hcell⟩
  · simp at hk
  · simp only [Value.slice.injEq] at e
    obtain ⟨rfl, -, rfl⟩ := e
    exact ⟨b, off, rfl, hcell k hk⟩
theorem wholeB_false (bs : List UInt8) (k : Nat) (hk : k < bs.length) (h : (bs[k]'hk).toNat < 128) : wholeB bs = false := by
  cases hq : wholeB bs with
  | false => rfl
  | true => have := (wholeB_iff bs).1 hq k hk; omega
def WholeRel (bs : List UInt8) (i : Value) : Prop := ∃ k : Nat, k ≤ bs.length ∧ i = .int .i64 (k : Int) ∧ ∀ j, j < k → ∀ h : j < bs.length, 128 ≤ (bs[j]'h).toNat
set_option maxRecDepth 100000 in
theorem whole_any (bs : List UInt8) (sv : Value) (w : World) (h : bytesAt w sv bs) :
    Calls Try.prog 11 #[sv] w fun e w' => e = .returned (.bool (wholeB bs)) ∧ w = w' := by
  obtain ⟨a0, c0, rfl, hle, hmx⟩ := h.form
  have hlen := h.len
  simp only [maxLen] at hlen hmx
  have HB := Lib.hid h
  clear h
  go_enter Try.func11, Try.ntmps11
  go_wp2_with fail
  go_loop [7] (WholeRel bs) (fun i => bs.length - (intOf i).toNat)
  case atStart => exact ⟨0, Nat.zero_le _, rfl, fun j hj => by omega⟩
  case round =>
    obtain ⟨k, hk, rfl, hall⟩ := hrel
    have HA := Lib.hid hall
    clear hall
    by_cases hkn : k < bs.length
    · have hd : decide (k < bs.length) = true := decide_eq_true hkn
      obtain ⟨b, off, rfl, hc⟩ := byteAt HB.out k hkn
      by_cases hb : (bs[k]'hkn).toNat < 128
      · have hd2 : decide (((bs[k]'hkn).toNat : Int) < 128) = true := decide_eq_true (by omega)
        have HW := Lib.hid (wholeB_false bs k hkn hb)
        clear hb
        go_wp2_with fail
        go_ret
        exact ⟨by rw [HW.out]; rfl, rfl⟩
      · have hd2 : decide (((bs[k]'hkn).toNat : Int) < 128) = false := decide_eq_false (by omega)
        have HBB := Lib.hid hb
        clear hb
        go_wp2_with fail
        refine ⟨⟨k + 1, by omega, by go_num, fun j hj hjl => ?_⟩, by simp [intOf]; omega⟩
        by_cases e : j = k
        · subst e; have := HBB.out; omega
        · exact HA.out j (by omega) hjl
    · have hd : decide (k < bs.length) = false := decide_eq_false hkn
      obtain rfl : k = bs.length := by omega
      have HW := Lib.hid ((wholeB_iff bs).2 (fun i hi => HA.out i hi hi))
      go_wp2_with fail
      go_ret
      exact ⟨by rw [HW.out]; rfl, rfl⟩

def CountRel (parts : List (List UInt8)) (s i : Value) : Prop := ∃ k x : Nat, k ≤ parts.length ∧ i = .int .i64 (k : Int) ∧ s = .int .i64 (x : Int) ∧ x = (parts.take k).flatten.length
theorem flat_le (parts : List (List UInt8)) (k : Nat) : (parts.take k).flatten.length ≤ parts.flatten.length := by
  have e := congrArg (fun l : List (List UInt8) => l.flatten.length) (List.take_append_drop k parts)
  simp only [List.flatten_append, List.length_append] at e
  omega
set_option maxRecDepth 100000 in
theorem count_any (parts : List (List UInt8)) (sv : Value) (w : World) (h : partsAt w sv parts) (hl : parts.flatten.length ≤ 1000000000000) :
    Calls Try.prog 17 #[sv] w fun e w' => e = .returned (.int .i64 (parts.flatten.length : Nat)) ∧ w = w' := by
  obtain ⟨a0, c0, rfl, hle, hmx⟩ := h.form
  simp only [maxLen] at hmx
  have HP := Lib.hid h
  clear h
  obtain ⟨m, hm⟩ : ∃ m, m = parts.flatten.length := ⟨_, rfl⟩
  rw [← hm] at hl ⊢
  have HM := Lib.hid hm
  clear hm
  go_enter Try.func17, Try.ntmps17
  go_wp2_with fail
  go_loop [3, 8] (CountRel parts) (fun _ i => parts.length - (intOf i).toNat)
  case atStart => exact ⟨0, 0, Nat.zero_le _, rfl, rfl, rfl⟩
  case round =>
    obtain ⟨k, x, hk, rfl, rfl, hx⟩ := hrel
    have hxl := flat_le parts k
    rw [← hx, ← HM.out] at hxl
    by_cases hkn : k < parts.length
    · have hd : decide (k < parts.length) = true := decide_eq_true hkn
      have hnext := flat_take_succ parts k hkn
      have hnl := flat_le parts (k + 1)
      rw [hnext, List.length_append, ← hx, ← HM.out] at hnl
      have hnx := congrArg List.length hnext
      rw [List.length_append, ← hx] at hnx
      obtain ⟨b, off, v, rfl, hc, hb⟩ := HP.out.get hkn
      obtain ⟨p, hpp⟩ : ∃ p, p = parts[k]'hkn := ⟨_, rfl⟩
      rw [← hpp] at hb hnl hnx
      obtain ⟨a1, c1, rfl, hle1, hmx1⟩ := hb.form
      have HN := Lib.hid hnx
      clear hnx hnext hpp hx hb
      go_wp2_with fail
      exact ⟨⟨k + 1, x + p.length, by omega, by go_num, by go_num, HN.out.symm⟩, by simp [intOf]; omega⟩
    · have hd : decide (k < parts.length) = false := decide_eq_false hkn
      obtain rfl : k = parts.length := by omega
      rw [List.take_length, ← HM.out] at hx
      have HX := Lib.hid hx
      clear hx
      go_wp2_with fail
      go_ret
      refine ⟨?_, rfl⟩
      rw [← HX.out]
      rfl
end Go.Proofs.Ytjddagkjgkdbkaa
