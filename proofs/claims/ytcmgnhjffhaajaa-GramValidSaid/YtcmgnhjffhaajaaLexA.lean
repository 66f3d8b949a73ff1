/- The document's lexer (layer 12): letter, more. Written by wip/tools/gen_la.py. -/
import Derived.Test.YtcmgnhjffhaajaaMm
import Derived.Test.YtcmgnhjffhaajaaStr
import Derived.LoopTactic
namespace Go.Proofs.Ytcmgnhjffhaajaa
open Go.RowKit

set_option maxRecDepth 100000 in
theorem rletter_any (c : UInt8) (w : World) : Calls Try.prog 51 #[.int .u8 (c.toNat : Int)] w fun e w' => e = .returned (.bool (letterB c)) ∧ w = w' := by
  obtain ⟨n, hn⟩ : ∃ n, n = c.toNat := ⟨_, rfl⟩
  rw [← hn]
  have HN := Lib.hid hn
  clear hn
  rcases (show (n < 65) ∨ (65 ≤ n ∧ n < 91) ∨ (91 ≤ n ∧ n < 97) ∨ (97 ≤ n ∧ n < 123) ∨ (123 ≤ n) by omega) with hw | hw | hw | hw | hw
  · -- n < 65
    have q0 : decide (97 ≤ (n : Int)) = false := decide_eq_false (by omega)
    have q1 : decide ((n : Int) ≤ 122) = true := decide_eq_true (by omega)
    have q2 : decide (65 ≤ (n : Int)) = false := decide_eq_false (by omega)
    have q3 : decide ((n : Int) ≤ 90) = true := decide_eq_true (by omega)
    have ho : letterB c = false := by unfold letterB; rw [← HN.out]; simp; omega
    rw [ho]
    clear ho hw
    go_enter Try.func51, Try.ntmps51
    go_wp2_with fail
    go_ret
    exact ⟨rfl, rfl⟩
  · -- 65 ≤ n ∧ n < 91
    have q0 : decide (97 ≤ (n : Int)) = false := decide_eq_false (by omega)
    have q1 : decide ((n : Int) ≤ 122) = true := decide_eq_true (by omega)
    have q2 : decide (65 ≤ (n : Int)) = true := decide_eq_true (by omega)
    have q3 : decide ((n : Int) ≤ 90) = true := decide_eq_true (by omega)
    have ho : letterB c = true := by unfold letterB; rw [← HN.out]; simp; omega
    rw [ho]
    clear ho hw
    go_enter Try.func51, Try.ntmps51
    go_wp2_with fail
    go_ret
    exact ⟨rfl, rfl⟩
  · -- 91 ≤ n ∧ n < 97
    have q0 : decide (97 ≤ (n : Int)) = false := decide_eq_false (by omega)
    have q1 : decide ((n : Int) ≤ 122) = true := decide_eq_true (by omega)
    have q2 : decide (65 ≤ (n : Int)) = true := decide_eq_true (by omega)
    have q3 : decide ((n : Int) ≤ 90) = false := decide_eq_false (by omega)
    have ho : letterB c = false := by unfold letterB; rw [← HN.out]; simp; omega
    rw [ho]
    clear ho hw
    go_enter Try.func51, Try.ntmps51
    go_wp2_with fail
    go_ret
    exact ⟨rfl, rfl⟩
  · -- 97 ≤ n ∧ n < 123
    have q0 : decide (97 ≤ (n : Int)) = true := decide_eq_true (by omega)
    have q1 : decide ((n : Int) ≤ 122) = true := decide_eq_true (by omega)
    have q2 : decide (65 ≤ (n : Int)) = true := decide_eq_true (by omega)
    have q3 : decide ((n : Int) ≤ 90) = false := decide_eq_false (by omega)
    have ho : letterB c = true := by unfold letterB; rw [← HN.out]; simp; omega
    rw [ho]
    clear ho hw
    go_enter Try.func51, Try.ntmps51
    go_wp2_with fail
    go_ret
    exact ⟨rfl, rfl⟩
  · -- 123 ≤ n
    have q0 : decide (97 ≤ (n : Int)) = true := decide_eq_true (by omega)
    have q1 : decide ((n : Int) ≤ 122) = false := decide_eq_false (by omega)
    have q2 : decide (65 ≤ (n : Int)) = true := decide_eq_true (by omega)
    have q3 : decide ((n : Int) ≤ 90) = false := decide_eq_false (by omega)
    have ho : letterB c = false := by unfold letterB; rw [← HN.out]; simp; omega
    rw [ho]
    clear ho hw
    go_enter Try.func51, Try.ntmps51
    go_wp2_with fail
    go_ret
    exact ⟨rfl, rfl⟩
set_option maxRecDepth 100000 in
theorem rmore_any (c : UInt8) (w : World) : Calls Try.prog 52 #[.int .u8 (c.toNat : Int)] w fun e w' => e = .returned (.bool (moreB c)) ∧ w = w' := by
  have hle := rletter_any c w
  obtain ⟨n, hn⟩ : ∃ n, n = c.toNat := ⟨_, rfl⟩
  rw [← hn] at hle ⊢
  have HN := Lib.hid hn
  clear hn
  cases hlt : letterB c with
  | true =>
    rw [hlt] at hle
    have HL := Lib.hid hle
    have ho : moreB c = true := by unfold moreB; rw [hlt]; rfl
    rw [ho]
    clear ho hlt hle
    go_enter Try.func52, Try.ntmps52
    go_wp2_with (go_at_call 51; refine HL.out.mono ?_; rintro e w1 ⟨rfl, rfl⟩)
    go_ret
    exact ⟨rfl, rfl⟩
  | false =>
    rw [hlt] at hle
    have HL := Lib.hid hle
    have HLT := Lib.hid hlt
    clear hle hlt
    rcases (show (n < 48) ∨ (48 ≤ n ∧ n < 58) ∨ (58 ≤ n ∧ n < 95) ∨ (n = 95) ∨ (96 ≤ n) by omega) with hw | hw | hw | hw | hw
    · -- n < 48
      have q0 : decide (48 ≤ (n : Int)) = false := decide_eq_false (by omega)
      have q1 : decide ((n : Int) ≤ 57) = true := decide_eq_true (by omega)
      have r0 : ((n : Int) == 95) = false := by rw [beq_eq_false_iff_ne]; omega
      have ho : moreB c = false := by unfold moreB; rw [HLT.out, ← HN.out]; simp; omega
      rw [ho]
      clear ho hw
      go_enter Try.func52, Try.ntmps52
      go_wp2_with (go_at_call 51; refine HL.out.mono ?_; rintro e w1 ⟨rfl, rfl⟩)
      go_ret
      exact ⟨rfl, rfl⟩
    · -- 48 ≤ n ∧ n < 58
      have q0 : decide (48 ≤ (n : Int)) = true := decide_eq_true (by omega)
      have q1 : decide ((n : Int) ≤ 57) = true := decide_eq_true (by omega)
      have r0 : ((n : Int) == 95) = false := by rw [beq_eq_false_iff_ne]; omega
      have ho : moreB c = true := by unfold moreB; rw [HLT.out, ← HN.out]; simp; omega
      rw [ho]
      clear ho hw
      go_enter Try.func52, Try.ntmps52
      go_wp2_with (go_at_call 51; refine HL.out.mono ?_; rintro e w1 ⟨rfl, rfl⟩)
      go_ret
      exact ⟨rfl, rfl⟩
    · -- 58 ≤ n ∧ n < 95
      have q0 : decide (48 ≤ (n : Int)) = true := decide_eq_true (by omega)
      have q1 : decide ((n : Int) ≤ 57) = false := decide_eq_false (by omega)
      have r0 : ((n : Int) == 95) = false := by rw [beq_eq_false_iff_ne]; omega
      have ho : moreB c = false := by unfold moreB; rw [HLT.out, ← HN.out]; simp; omega
      rw [ho]
      clear ho hw
      go_enter Try.func52, Try.ntmps52
      go_wp2_with (go_at_call 51; refine HL.out.mono ?_; rintro e w1 ⟨rfl, rfl⟩)
      go_ret
      exact ⟨rfl, rfl⟩
    · -- n = 95
      have q0 : decide (48 ≤ (n : Int)) = true := decide_eq_true (by omega)
      have q1 : decide ((n : Int) ≤ 57) = false := decide_eq_false (by omega)
      have r0 : ((n : Int) == 95) = true := by rw [hw]; rfl
      have ho : moreB c = true := by unfold moreB; rw [HLT.out, ← HN.out]; simp; omega
      rw [ho]
      clear ho hw
      go_enter Try.func52, Try.ntmps52
      go_wp2_with (go_at_call 51; refine HL.out.mono ?_; rintro e w1 ⟨rfl, rfl⟩)
      go_ret
      exact ⟨rfl, rfl⟩
    · -- 96 ≤ n
      have q0 : decide (48 ≤ (n : Int)) = true := decide_eq_true (by omega)
      have q1 : decide ((n : Int) ≤ 57) = false := decide_eq_false (by omega)
      have r0 : ((n : Int) == 95) = false := by rw [beq_eq_false_iff_ne]; omega
      have ho : moreB c = false := by unfold moreB; rw [HLT.out, ← HN.out]; simp; omega
      rw [ho]
      clear ho hw
      go_enter Try.func52, Try.ntmps52
      go_wp2_with (go_at_call 51; refine HL.out.mono ?_; rintro e w1 ⟨rfl, rfl⟩)
      go_ret
      exact ⟨rfl, rfl⟩
end Go.Proofs.Ytcmgnhjffhaajaa
