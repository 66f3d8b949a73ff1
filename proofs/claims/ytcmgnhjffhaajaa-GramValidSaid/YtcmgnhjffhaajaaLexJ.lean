/- The program's lexer (layer 12): isLetter, inName, inTerm. Written by wip/tools/gen_lj.py. -/
import Derived.Test.YtcmgnhjffhaajaaMm
import Derived.Test.YtcmgnhjffhaajaaStr
import Derived.LoopTactic
namespace Go.Proofs.Ytcmgnhjffhaajaa
open Go.RowKit

set_option maxRecDepth 100000 in
theorem pletter_any (c : UInt8) (w : World) : Calls Try.prog 43 #[.int .u8 (c.toNat : Int)] w fun e w' => e = .returned (.bool (letterB c)) ∧ w = w' := by
  obtain ⟨n, hn⟩ : ∃ n, n = c.toNat := ⟨_, rfl⟩
  rw [← hn]
  have HN := Lib.hid hn
  clear hn
  rcases (show (n < 65) ∨ (65 ≤ n ∧ n < 91) ∨ (91 ≤ n ∧ n < 97) ∨ (97 ≤ n ∧ n < 123) ∨ (123 ≤ n) by omega) with hw | hw | hw | hw | hw
  · -- n < 65
    have q0 : decide (97 ≤ (n : Int)) = false := decide_eq_false (by omega)
    have q1 : decide ((n : Int) ≤ 122) = true := decide_eq_true (by omega)
    have q2 : decide (65 ≤ (n : Int)) = false := decide_eq_false (by omega)
    have q3 : decide ((n : Int) ≤ 90) = true := decide_eq_true (by omega)
    have ho : letterB c = false := by unfold letterB; rw [← HN.out]; simp; omega
    rw [ho]
    clear ho hw
    go_enter Try.func43, Try.ntmps43
    go_wp2_with fail
    go_ret
    exact ⟨rfl, rfl⟩
  · -- 65 ≤ n ∧ n < 91
    have q0 : decide (97 ≤ (n : Int)) = false := decide_eq_false (by omega)
    have q1 : decide ((n : Int) ≤ 122) = true := decide_eq_true (by omega)
    have q2 : decide (65 ≤ (n : Int)) = true := decide_eq_true (by omega)
    have q3 : decide ((n : Int) ≤ 90) = true := decide_eq_true (by omega)
    have ho : letterB c = true := by unfold letterB; rw [← HN.out]; simp; omega
    rw [ho]
    clear ho hw
    go_enter Try.func43, Try.ntmps43
    go_wp2_with fail
    go_ret
    exact ⟨rfl, rfl⟩
  · -- 91 ≤ n ∧ n < 97
    have q0 : decide (97 ≤ (n : Int)) = false := decide_eq_false (by omega)
    have q1 : decide ((n : Int) ≤ 122) = true := decide_eq_true (by omega)
    have q2 : decide (65 ≤ (n : Int)) = true := decide_eq_true (by omega)
    have q3 : decide ((n : Int) ≤ 90) = false := decide_eq_false (by omega)
    have ho : letterB c = false := by unfold letterB; rw [← HN.out]; simp; omega
    rw [ho]
    clear ho hw
    go_enter Try.func43, Try.ntmps43
    go_wp2_with fail
    go_ret
    exact ⟨rfl, rfl⟩
  · -- 97 ≤ n ∧ n < 123
    have q0 : decide (97 ≤ (n : Int)) = true := decide_eq_true (by omega)
    have q1 : decide ((n : Int) ≤ 122) = true := decide_eq_true (by omega)
    have q2 : decide (65 ≤ (n : Int)) = true := decide_eq_true (by omega)
    have q3 : decide ((n : Int) ≤ 90) = false := decide_eq_false (by omega)
    have ho : letterB c = true := by unfold letterB; rw [← HN.out]; simp; omega
    rw [ho]
    clear ho hw
    go_enter Try.func43, Try.ntmps43
    go_wp2_with fail
    go_ret
    exact ⟨rfl, rfl⟩
  · -- 123 ≤ n
    have q0 : decide (97 ≤ (n : Int)) = true := decide_eq_true (by omega)
    have q1 : decide ((n : Int) ≤ 122) = false := decide_eq_false (by omega)
    have q2 : decide (65 ≤ (n : Int)) = true := decide_eq_true (by omega)
    have q3 : decide ((n : Int) ≤ 90) = false := decide_eq_false (by omega)
    have ho : letterB c = false := by unfold letterB; rw [← HN.out]; simp; omega
    rw [ho]
    clear ho hw
    go_enter Try.func43, Try.ntmps43
    go_wp2_with fail
    go_ret
    exact ⟨rfl, rfl⟩
set_option maxRecDepth 100000 in
theorem pmore_any (c : UInt8) (w : World) : Calls Try.prog 45 #[.int .u8 (c.toNat : Int)] w fun e w' => e = .returned (.bool (moreB c)) ∧ w = w' := by
  have hle := pletter_any c w
  obtain ⟨n, hn⟩ : ∃ n, n = c.toNat := ⟨_, rfl⟩
  rw [← hn] at hle ⊢
  have HN := Lib.hid hn
  clear hn
  cases hlt : letterB c with
  | true =>
    rw [hlt] at hle
    have HL := Lib.hid hle
    have ho : moreB c = true := by unfold moreB; rw [hlt]; rfl
    rw [ho]
    clear ho hlt hle
    go_enter Try.func45, Try.ntmps45
    go_wp2_with (go_at_call 43; refine HL.out.mono ?_; rintro e w1 ⟨rfl, rfl⟩)
    go_ret
    exact ⟨rfl, rfl⟩
  | false =>
    rw [hlt] at hle
    have HL := Lib.hid hle
    have HLT := Lib.hid hlt
    clear hle hlt
    rcases (show (n < 48) ∨ (48 ≤ n ∧ n < 58) ∨ (58 ≤ n ∧ n < 95) ∨ (n = 95) ∨ (96 ≤ n) by omega) with hw | hw | hw | hw | hw
    · -- n < 48
      have q0 : decide (48 ≤ (n : Int)) = false := decide_eq_false (by omega)
      have q1 : decide ((n : Int) ≤ 57) = true := decide_eq_true (by omega)
      have r0 : ((n : Int) == 95) = false := by rw [beq_eq_false_iff_ne]; omega
      have ho : moreB c = false := by unfold moreB; rw [HLT.out, ← HN.out]; simp; omega
      rw [ho]
      clear ho hw
      go_enter Try.func45, Try.ntmps45
      go_wp2_with (go_at_call 43; refine HL.out.mono ?_; rintro e w1 ⟨rfl, rfl⟩)
      go_ret
      exact ⟨rfl, rfl⟩
    · -- 48 ≤ n ∧ n < 58
      have q0 : decide (48 ≤ (n : Int)) = true := decide_eq_true (by omega)
      have q1 : decide ((n : Int) ≤ 57) = true := decide_eq_true (by omega)
      have r0 : ((n : Int) == 95) = false := by rw [beq_eq_false_iff_ne]; omega
      have ho : moreB c = true := by unfold moreB; rw [HLT.out, ← HN.out]; simp; omega
      rw [ho]
      clear ho hw
      go_enter Try.func45, Try.ntmps45
      go_wp2_with (go_at_call 43; refine HL.out.mono ?_; rintro e w1 ⟨rfl, rfl⟩)
      go_ret
      exact ⟨rfl, rfl⟩
    · -- 58 ≤ n ∧ n < 95
      have q0 : decide (48 ≤ (n : Int)) = true := decide_eq_true (by omega)
      have q1 : decide ((n : Int) ≤ 57) = false := decide_eq_false (by omega)
      have r0 : ((n : Int) == 95) = false := by rw [beq_eq_false_iff_ne]; omega
      have ho : moreB c = false := by unfold moreB; rw [HLT.out, ← HN.out]; simp; omega
      rw [ho]
      clear ho hw
      go_enter Try.func45, Try.ntmps45
      go_wp2_with (go_at_call 43; refine HL.out.mono ?_; rintro e w1 ⟨rfl, rfl⟩)
      go_ret
      exact ⟨rfl, rfl⟩
    · -- n = 95
      have q0 : decide (48 ≤ (n : Int)) = true := decide_eq_true (by omega)
      have q1 : decide ((n : Int) ≤ 57) = false := decide_eq_false (by omega)
      have r0 : ((n : Int) == 95) = true := by rw [hw]; rfl
      have ho : moreB c = true := by unfold moreB; rw [HLT.out, ← HN.out]; simp; omega
      rw [ho]
      clear ho hw
      go_enter Try.func45, Try.ntmps45
      go_wp2_with (go_at_call 43; refine HL.out.mono ?_; rintro e w1 ⟨rfl, rfl⟩)
      go_ret
      exact ⟨rfl, rfl⟩
    · -- 96 ≤ n
      have q0 : decide (48 ≤ (n : Int)) = true := decide_eq_true (by omega)
      have q1 : decide ((n : Int) ≤ 57) = false := decide_eq_false (by omega)
      have r0 : ((n : Int) == 95) = false := by rw [beq_eq_false_iff_ne]; omega
      have ho : moreB c = false := by unfold moreB; rw [HLT.out, ← HN.out]; simp; omega
      rw [ho]
      clear ho hw
      go_enter Try.func45, Try.ntmps45
      go_wp2_with (go_at_call 43; refine HL.out.mono ?_; rintro e w1 ⟨rfl, rfl⟩)
      go_ret
      exact ⟨rfl, rfl⟩
set_option maxRecDepth 100000 in
theorem pterm_any (c : UInt8) (w : World) : Calls Try.prog 46 #[.int .u8 (c.toNat : Int)] w fun e w' => e = .returned (.bool (termC c)) ∧ w = w' := by
  obtain ⟨n, hn⟩ : ∃ n, n = c.toNat := ⟨_, rfl⟩
  rw [← hn]
  have HN := Lib.hid hn
  clear hn
  rcases (show (n < 32) ∨ (32 ≤ n ∧ n < 39) ∨ (n = 39) ∨ (40 ≤ n ∧ n < 92) ∨ (n = 92) ∨ (93 ≤ n ∧ n < 127) ∨ (127 ≤ n) by omega) with hw | hw | hw | hw | hw | hw | hw
  · -- n < 32
    have q0 : decide (32 ≤ (n : Int)) = false := decide_eq_false (by omega)
    have q1 : decide ((n : Int) ≤ 126) = true := decide_eq_true (by omega)
    have r0 : ((n : Int) != 39) = true := by rw [bne_iff_ne]; omega
    have r1 : ((n : Int) != 92) = true := by rw [bne_iff_ne]; omega
    have ho : termC c = false := by unfold termC; rw [← HN.out]; simp; omega
    rw [ho]
    clear ho hw
    go_enter Try.func46, Try.ntmps46
    go_wp2_with fail
    go_ret
    exact ⟨rfl, rfl⟩
  · -- 32 ≤ n ∧ n < 39
    have q0 : decide (32 ≤ (n : Int)) = true := decide_eq_true (by omega)
    have q1 : decide ((n : Int) ≤ 126) = true := decide_eq_true (by omega)
    have r0 : ((n : Int) != 39) = true := by rw [bne_iff_ne]; omega
    have r1 : ((n : Int) != 92) = true := by rw [bne_iff_ne]; omega
    have ho : termC c = true := by unfold termC; rw [← HN.out]; simp; omega
    rw [ho]
    clear ho hw
    go_enter Try.func46, Try.ntmps46
    go_wp2_with fail
    go_ret
    exact ⟨rfl, rfl⟩
  · -- n = 39
    have q0 : decide (32 ≤ (n : Int)) = true := decide_eq_true (by omega)
    have q1 : decide ((n : Int) ≤ 126) = true := decide_eq_true (by omega)
    have r0 : ((n : Int) != 39) = false := by rw [hw]; rfl
    have r1 : ((n : Int) != 92) = true := by rw [bne_iff_ne]; omega
    have ho : termC c = false := by unfold termC; rw [← HN.out]; simp; omega
    rw [ho]
    clear ho hw
    go_enter Try.func46, Try.ntmps46
    go_wp2_with fail
    go_ret
    exact ⟨rfl, rfl⟩
  · -- 40 ≤ n ∧ n < 92
    have q0 : decide (32 ≤ (n : Int)) = true := decide_eq_true (by omega)
    have q1 : decide ((n : Int) ≤ 126) = true := decide_eq_true (by omega)
    have r0 : ((n : Int) != 39) = true := by rw [bne_iff_ne]; omega
    have r1 : ((n : Int) != 92) = true := by rw [bne_iff_ne]; omega
    have ho : termC c = true := by unfold termC; rw [← HN.out]; simp; omega
    rw [ho]
    clear ho hw
    go_enter Try.func46, Try.ntmps46
    go_wp2_with fail
    go_ret
    exact ⟨rfl, rfl⟩
  · -- n = 92
    have q0 : decide (32 ≤ (n : Int)) = true := decide_eq_true (by omega)
    have q1 : decide ((n : Int) ≤ 126) = true := decide_eq_true (by omega)
    have r0 : ((n : Int) != 39) = true := by rw [bne_iff_ne]; omega
    have r1 : ((n : Int) != 92) = false := by rw [hw]; rfl
    have ho : termC c = false := by unfold termC; rw [← HN.out]; simp; omega
    rw [ho]
    clear ho hw
    go_enter Try.func46, Try.ntmps46
    go_wp2_with fail
    go_ret
    exact ⟨rfl, rfl⟩
  · -- 93 ≤ n ∧ n < 127
    have q0 : decide (32 ≤ (n : Int)) = true := decide_eq_true (by omega)
    have q1 : decide ((n : Int) ≤ 126) = true := decide_eq_true (by omega)
    have r0 : ((n : Int) != 39) = true := by rw [bne_iff_ne]; omega
    have r1 : ((n : Int) != 92) = true := by rw [bne_iff_ne]; omega
    have ho : termC c = true := by unfold termC; rw [← HN.out]; simp; omega
    rw [ho]
    clear ho hw
    go_enter Try.func46, Try.ntmps46
    go_wp2_with fail
    go_ret
    exact ⟨rfl, rfl⟩
  · -- 127 ≤ n
    have q0 : decide (32 ≤ (n : Int)) = true := decide_eq_true (by omega)
    have q1 : decide ((n : Int) ≤ 126) = false := decide_eq_false (by omega)
    have r0 : ((n : Int) != 39) = true := by rw [bne_iff_ne]; omega
    have r1 : ((n : Int) != 92) = true := by rw [bne_iff_ne]; omega
    have ho : termC c = false := by unfold termC; rw [← HN.out]; simp; omega
    rw [ho]
    clear ho hw
    go_enter Try.func46, Try.ntmps46
    go_wp2_with fail
    go_ret
    exact ⟨rfl, rfl⟩
end Go.Proofs.Ytcmgnhjffhaajaa
