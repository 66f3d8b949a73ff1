/- The document's answer Front. -/
import Derived.Test.YtijdffpekonklaaVarC
namespace Go.Proofs.Ytijdffpekonklaa
open Go.RowKit

theorem pow128_le (k : Nat) (h : k ≤ 8) : (128 : Nat) ^ k ≤ 72057594037927936 := by
  have : (128 : Nat) ^ k ≤ 128 ^ 8 := Nat.pow_le_pow_right (by decide) h
  omega
theorem ref_pow_any (n : Nat) (w : World) (hn : n ≤ 9) :
    Calls Try.prog 41 #[.int .i64 n] w fun e w' => e = .returned (.int .u64 ((128 ^ n : Nat) : Int)) ∧ w = w' := by
  go_enter Try.func41, Try.ntmps41
  go_wp2_with fail
  go_loop [3, 4] (fun o i => ∃ k x : Nat, k ≤ n ∧ i = .int .i64 (k : Int) ∧ o = .int .u64 (x : Int) ∧ x = 128 ^ k) (fun _ i => n - (intOf i).toNat)
  case atStart => exact ⟨0, 1, Nat.zero_le _, rfl, rfl, rfl⟩
  case round =>
    obtain ⟨k, x, hk, rfl, rfl, hx⟩ := hrel
    by_cases hkn : k < n
    · have hd : decide (k < n) = true := decide_eq_true hkn
      have hxl : x ≤ 72057594037927936 := by rw [hx]; exact pow128_le k (by omega)
      have HX := Lib.hid hx
      clear hx
      go_wp2_with fail
      go_round
      case rel => exact ⟨k + 1, x * 128, by omega, by go_num, by go_num, by rw [HX.out, Nat.pow_succ]⟩
      case measure => simp [intOf]; omega
    · obtain rfl : k = n := by omega
      have HX := Lib.hid hx
      clear hx
      go_wp2_with fail
      go_ret
      exact ⟨congrArg (fun n : Nat => Ending.returned (Value.int .u64 (n : Int))) HX.out, rfl⟩

theorem dig_sum (i acc c : Nat) (hi : i < 10) (hc : c < 256) (hacc : acc < 128 ^ i) (h9 : i = 9 → c ≤ 1) : acc + c % 128 * 128 ^ i < 18446744073709551616 := by
  by_cases h : i = 9
  · have := h9 h
    subst h
    omega
  · have e : (128 : Nat) ^ i ≤ 128 ^ 8 := Nat.pow_le_pow_right (by decide) (by omega)
    have : c % 128 * 128 ^ i ≤ 128 * 128 ^ 8 := Nat.mul_le_mul (by omega) e
    omega

/-- What Front answers. -/
def Fronted (bs : List UInt8) (w : World) (e : Ending) (w' : World) : Prop :=
  ∃ x n : Nat, (front bs = some (x, n) ∨ (front bs = none ∧ x = 0 ∧ n = 0)) ∧ e = .returned (.tuple #[.int .u64 (x : Int), .int .i64 (n : Int)]) ∧ w = w'
def FrontRel (bs : List UInt8) (sv si : Value) : Prop :=
  ∃ i acc : Nat, i ≤ 10 ∧ i ≤ bs.length ∧ si = .int .i64 (i : Int) ∧ sv = .int .u64 (acc : Int) ∧ acc < 128 ^ i ∧ front bs = dec i acc (bs.drop i)
set_option maxRecDepth 100000 in
theorem ref_front_any (bs : List UInt8) (sv : Value) (w : World) (h : bytesAt w sv bs) (hl : bs.length ≤ 1000000) :
    Calls Try.prog 28 #[sv] w (Fronted bs w) := by
  have hby := h
  obtain ⟨a, cap, rfl, -, -⟩ := h.form
  go_enter Try.func28, Try.ntmps28
  go_wp2_with fail
  go_loop [4, 5] (fun v i => FrontRel bs v i) (fun _ i => bs.length - (intOf i).toNat)
  case atStart => exact ⟨0, 0, by omega, by omega, rfl, rfl, by simp, rfl⟩
  case round =>
    obtain ⟨i, acc, hi, hib, rfl, rfl, hacc, hfr⟩ := hrel
    by_cases hlt : i < bs.length
    · by_cases h10 : i < 10
      · have hd1 : decide (i < bs.length) = true := decide_eq_true hlt
        have hd2 : decide ((i : Int) < 10) = true := decide_eq_true (by omega)
        rcases hby with ⟨_, _, _, _, rfl⟩ | ⟨b, off, cap', e, _, _, hcell⟩
        · simp at hlt
        · simp only [Value.slice.injEq] at e
          obtain ⟨rfl, -, rfl⟩ := e
          have hc := hcell i hlt
          clear hcell h
          have hdrop : bs.drop i = bs[i]'hlt :: bs.drop (i + 1) := List.drop_eq_getElem_cons hlt
          rw [hdrop] at hfr
          unfold dec at hfr
          obtain ⟨c, hcc⟩ : ∃ c, c = (bs[i]'hlt).toNat := ⟨_, rfl⟩
          have hc256 : c < 256 := by rw [hcc]; exact (bs[i]'hlt).toNat_lt
          rw [← hcc] at hc hfr
          have HF := Lib.hid hfr
          clear hfr hdrop hcc
          by_cases hB1 : i = 9 ∧ 1 < c
          · obtain ⟨rfl, h1c⟩ := hB1
            have e1 : decide (1 < (c : Int)) = true := decide_eq_true (by omega)
            go_wp2_with fail
            go_ret2
            exact ⟨0, 0, .inr ⟨by rw [HF.out, if_pos (.inr (.inr ⟨by trivial, h1c⟩))], rfl, rfl⟩, rfl, rfl⟩
          · by_cases hB2 : c = 0 ∧ 0 < i
            · obtain ⟨rfl, hpos⟩ := hB2
              have e1 : decide (1 < ((0 : Nat) : Int)) = false := by decide
              have e2 : decide (0 < (i : Int)) = true := decide_eq_true (by omega)
              by_cases h9 : i = 9
              · subst h9
                go_wp2_with fail
                go_ret2
                exact ⟨0, 0, .inr ⟨by rw [HF.out, if_pos (.inr (.inl ⟨by trivial, by trivial⟩))], rfl, rfl⟩, rfl, rfl⟩
              · have e3 : ((i : Int) == 9) = false := by rw [beq_eq_false_iff_ne]; omega
                go_wp2_with fail
                go_ret2
                exact ⟨0, 0, .inr ⟨by rw [HF.out, if_pos (.inr (.inl ⟨by trivial, hpos⟩))], rfl, rfl⟩, rfl, rfl⟩
            · have hcond : ¬ (10 ≤ i ∨ c = 0 ∧ 0 < i ∨ i = 9 ∧ 1 < c) := by omega
              have hfit : acc + c % 128 * 128 ^ i < 18446744073709551616 := dig_sum i acc c (by omega) hc256 hacc (by omega)
              have hnext : acc + c % 128 * 128 ^ i < 128 ^ (i + 1) := by
                have hm : c % 128 * 128 ^ i ≤ 127 * 128 ^ i := Nat.mul_le_mul_right _ (by omega)
                rw [Nat.pow_succ]
                omega
              have HPow := Lib.hid (ref_pow_any i w (by omega))
              obtain ⟨P, hP⟩ : ∃ P, P = 128 ^ i := ⟨_, rfl⟩
              rw [← hP] at HPow hfit hnext
              have m1 : 0 ≤ (c : Int) % 128 * (P : Int) := Int.mul_nonneg (by omega) (by omega)
              have m2 : (acc : Int) + (c : Int) % 128 * (P : Int) ≤ 18446744073709551615 := by
                have e : (c : Int) % 128 * (P : Int) = ((c % 128 * P : Nat) : Int) := by rw [Int.natCast_mul, Int.natCast_emod]; rfl
                rw [e]; omega
              have m3 : (c : Int) % 128 * (P : Int) ≤ 18446744073709551615 := by omega
              have hval : (acc : Int) + (c : Int) % 128 * (P : Int) = ((acc + c % 128 * P : Nat) : Int) := by
                rw [Int.natCast_add, Int.natCast_mul, Int.natCast_emod]; rfl
              have HV := Lib.hid hval
              have HP := Lib.hid hP
              have HN := Lib.hid hnext
              have HC := Lib.hid hcond
              have HA : Hid (¬ (c = 0 ∧ 0 < i)) := Lib.hid hB2
              have HB : Hid (¬ (i = 9 ∧ 1 < c)) := Lib.hid hB1
              clear hval hP hnext hfit hcond hacc
              have e1 : ((i : Int) == 9) = false ∨ (((i : Int) == 9) = true ∧ decide (1 < (c : Int)) = false) := by
                by_cases h9 : i = 9
                · right; subst h9; exact ⟨rfl, decide_eq_false (by omega)⟩
                · left; rw [beq_eq_false_iff_ne]; omega
              have e2 : decide (0 < i) = false ∨ (decide (0 < i) = true ∧ ((c : Int) == 0) = false) := by
                by_cases h0 : 0 < i
                · right; exact ⟨decide_eq_true (by omega), by rw [beq_eq_false_iff_ne]; omega⟩
                · left; exact decide_eq_false (by omega)
              clear hB1 hB2
              have e4 : decide ((c : Int) < 128) = true ∨ decide ((c : Int) < 128) = false := by cases decide ((c : Int) < 128) <;> simp
              rcases e4 with e4 | e4
              · rcases e1 with e1 | ⟨e1, e1'⟩ <;> rcases e2 with e2 | ⟨e2, e2'⟩
                all_goals
                  go_wp2_with (go_at_call 41; refine HPow.out.mono ?_; rintro e w2 ⟨rfl, rfl⟩)
                  go_ret2
                  have hlt : c < 128 := by have := of_decide_eq_true e4; omega
                  refine ⟨acc + c % 128 * P, i + 1, .inl (by rw [HF.out, if_neg HC.out, if_pos hlt, HP.out, Nat.mod_eq_of_lt hlt]), ?_, rfl⟩
                  exact congrArg (fun z => Ending.returned (Value.tuple #[.int .u64 z, .int .i64 ((i + 1 : Nat) : Int)])) HV.out
              · rcases e1 with e1 | ⟨e1, e1'⟩ <;> rcases e2 with e2 | ⟨e2, e2'⟩
                all_goals
                  go_wp2_with (go_at_call 41; refine HPow.out.mono ?_; rintro e w2 ⟨rfl, rfl⟩)
                  go_round
                  case rel =>
                    have hge : ¬ c < 128 := by have := of_decide_eq_false e4; omega
                    refine ⟨i + 1, acc + c % 128 * P, by omega, by omega, by go_num, by rw [HV.out], HN.out, ?_⟩
                    rw [HF.out, if_neg HC.out, if_neg hge, HP.out, show c % 128 = c - 128 from by omega]
                  case measure => simp [intOf]; omega
      · obtain rfl : i = 10 := by omega
        have hd1 : decide (10 < bs.length) = true := decide_eq_true hlt
        have hd3 : decide ((10 : Int) < (bs.length : Int)) = true := decide_eq_true (by omega)
        rw [dec_ten] at hfr
        have HF := Lib.hid hfr
        clear hfr
        go_wp2_with fail
        go_ret2
        exact ⟨0, 0, .inr ⟨HF.out, rfl, rfl⟩, rfl, rfl⟩
    · obtain rfl : i = bs.length := by omega
      rw [List.drop_length] at hfr
      have HF := Lib.hid hfr
      clear hfr
      go_wp2_with fail
      go_ret2
      exact ⟨0, 0, .inr ⟨by rw [HF.out]; rfl, rfl, rfl⟩, rfl, rfl⟩
end Go.Proofs.Ytijdffpekonklaa
