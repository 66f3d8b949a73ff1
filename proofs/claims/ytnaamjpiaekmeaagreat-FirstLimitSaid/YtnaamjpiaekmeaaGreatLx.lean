/- Several texts in one: LexJ, RunR, LexK, LexKf, LexHs, LexIs. -/
import Derived.LoopTactic
import Derived.Laws.Slices
import Derived.Laws.ResultCell
import Derived.Deep.DeepCutAuto
import Derived.Test.YtnaamjpiaekmeaaGreatMm
import Derived.Test.YtnaamjpiaekmeaaGreatDt
import Derived.Test.YtnaamjpiaekmeaaGreatBs
import Derived.Test.YtnaamjpiaekmeaaGreatGr
set_option linter.unusedVariables false
set_option linter.unusedSimpArgs false
namespace Go.Proofs.YtnaamjpiaekmeaaGreat
open Go.RowKit
set_option maxRecDepth 100000 in
theorem pletter_any (c : UInt8) (w : World) : Calls Tryz.prog 119 #[.int .u8 (c.toNat : Int)] w fun e w' => e = .returned (.bool (letterB c)) ∧ w = w' := by
 obtain ⟨n, hn⟩ : ∃ n, n = c.toNat := ⟨_, rfl⟩
 rw [← hn]
 have HN := Lib.hid hn
 clear hn
 rcases (show (n < 65) ∨ (65 ≤ n ∧ n < 91) ∨ (91 ≤ n ∧ n < 97) ∨ (97 ≤ n ∧ n < 123) ∨ (123 ≤ n) by omega) with hw | hw | hw | hw | hw
 ·-- n < 65
  have q0 : decide (97 ≤ (n : Int)) = false := decide_eq_false (by omega)
  have q1 : decide ((n : Int) ≤ 122) = true := decide_eq_true (by omega)
  have q2 : decide (65 ≤ (n : Int)) = false := decide_eq_false (by omega)
  have q3 : decide ((n : Int) ≤ 90) = true := decide_eq_true (by omega)
  have ho : letterB c = false := by unfold letterB; rw [← HN.out]; simp; omega
  rw [ho]
  clear ho hw
  go_enter Tryz.func119, Tryz.ntmps119
  go_wp2_with fail
  go_ret
  exact ⟨rfl, rfl⟩
 ·-- 65 ≤ n ∧ n < 91
  have q0 : decide (97 ≤ (n : Int)) = false := decide_eq_false (by omega)
  have q1 : decide ((n : Int) ≤ 122) = true := decide_eq_true (by omega)
  have q2 : decide (65 ≤ (n : Int)) = true := decide_eq_true (by omega)
  have q3 : decide ((n : Int) ≤ 90) = true := decide_eq_true (by omega)
  have ho : letterB c = true := by unfold letterB; rw [← HN.out]; simp; omega
  rw [ho]
  clear ho hw
  go_enter Tryz.func119, Tryz.ntmps119
  go_wp2_with fail
  go_ret
  exact ⟨rfl, rfl⟩
 ·-- 91 ≤ n ∧ n < 97
  have q0 : decide (97 ≤ (n : Int)) = false := decide_eq_false (by omega)
  have q1 : decide ((n : Int) ≤ 122) = true := decide_eq_true (by omega)
  have q2 : decide (65 ≤ (n : Int)) = true := decide_eq_true (by omega)
  have q3 : decide ((n : Int) ≤ 90) = false := decide_eq_false (by omega)
  have ho : letterB c = false := by unfold letterB; rw [← HN.out]; simp; omega
  rw [ho]
  clear ho hw
  go_enter Tryz.func119, Tryz.ntmps119
  go_wp2_with fail
  go_ret
  exact ⟨rfl, rfl⟩
 ·-- 97 ≤ n ∧ n < 123
  have q0 : decide (97 ≤ (n : Int)) = true := decide_eq_true (by omega)
  have q1 : decide ((n : Int) ≤ 122) = true := decide_eq_true (by omega)
  have q2 : decide (65 ≤ (n : Int)) = true := decide_eq_true (by omega)
  have q3 : decide ((n : Int) ≤ 90) = false := decide_eq_false (by omega)
  have ho : letterB c = true := by unfold letterB; rw [← HN.out]; simp; omega
  rw [ho]
  clear ho hw
  go_enter Tryz.func119, Tryz.ntmps119
  go_wp2_with fail
  go_ret
  exact ⟨rfl, rfl⟩
 ·-- 123 ≤ n
  have q0 : decide (97 ≤ (n : Int)) = true := decide_eq_true (by omega)
  have q1 : decide ((n : Int) ≤ 122) = false := decide_eq_false (by omega)
  have q2 : decide (65 ≤ (n : Int)) = true := decide_eq_true (by omega)
  have q3 : decide ((n : Int) ≤ 90) = false := decide_eq_false (by omega)
  have ho : letterB c = false := by unfold letterB; rw [← HN.out]; simp; omega
  rw [ho]
  clear ho hw
  go_enter Tryz.func119, Tryz.ntmps119
  go_wp2_with fail
  go_ret
  exact ⟨rfl, rfl⟩
set_option maxRecDepth 100000 in
theorem pmore_any (c : UInt8) (w : World) : Calls Tryz.prog 121 #[.int .u8 (c.toNat : Int)] w fun e w' => e = .returned (.bool (moreB c)) ∧ w = w' := by
 have hle := pletter_any c w
 obtain ⟨n, hn⟩ : ∃ n, n = c.toNat := ⟨_, rfl⟩
 rw [← hn] at hle ⊢
 have HN := Lib.hid hn
 clear hn
 cases hlt : letterB c with
 | true =>
   rw [hlt] at hle
   have HL := Lib.hid hle
   have ho : moreB c = true := by unfold moreB; rw [hlt]; rfl
   rw [ho]
   clear ho hlt hle
   go_enter Tryz.func121, Tryz.ntmps121
   go_wp2_with (go_at_call 119; refine HL.out.mono ?_; rintro e w1 ⟨rfl, rfl⟩)
   go_ret
   exact ⟨rfl, rfl⟩
 | false =>
   rw [hlt] at hle
   have HL := Lib.hid hle
   have HLT := Lib.hid hlt
   clear hle hlt
   rcases (show (n < 48) ∨ (48 ≤ n ∧ n < 58) ∨ (58 ≤ n ∧ n < 95) ∨ (n = 95) ∨ (96 ≤ n) by omega) with hw | hw | hw | hw | hw
   ·-- n < 48
    have q0 : decide (48 ≤ (n : Int)) = false := decide_eq_false (by omega)
    have q1 : decide ((n : Int) ≤ 57) = true := decide_eq_true (by omega)
    have r0 : ((n : Int) == 95) = false := by rw [beq_eq_false_iff_ne]; omega
    have ho : moreB c = false := by unfold moreB; rw [HLT.out, ← HN.out]; simp; omega
    rw [ho]
    clear ho hw
    go_enter Tryz.func121, Tryz.ntmps121
    go_wp2_with (go_at_call 119; refine HL.out.mono ?_; rintro e w1 ⟨rfl, rfl⟩)
    go_ret
    exact ⟨rfl, rfl⟩
   ·-- 48 ≤ n ∧ n < 58
    have q0 : decide (48 ≤ (n : Int)) = true := decide_eq_true (by omega)
    have q1 : decide ((n : Int) ≤ 57) = true := decide_eq_true (by omega)
    have r0 : ((n : Int) == 95) = false := by rw [beq_eq_false_iff_ne]; omega
    have ho : moreB c = true := by unfold moreB; rw [HLT.out, ← HN.out]; simp; omega
    rw [ho]
    clear ho hw
    go_enter Tryz.func121, Tryz.ntmps121
    go_wp2_with (go_at_call 119; refine HL.out.mono ?_; rintro e w1 ⟨rfl, rfl⟩)
    go_ret
    exact ⟨rfl, rfl⟩
   ·-- 58 ≤ n ∧ n < 95
    have q0 : decide (48 ≤ (n : Int)) = true := decide_eq_true (by omega)
    have q1 : decide ((n : Int) ≤ 57) = false := decide_eq_false (by omega)
    have r0 : ((n : Int) == 95) = false := by rw [beq_eq_false_iff_ne]; omega
    have ho : moreB c = false := by unfold moreB; rw [HLT.out, ← HN.out]; simp; omega
    rw [ho]
    clear ho hw
    go_enter Tryz.func121, Tryz.ntmps121
    go_wp2_with (go_at_call 119; refine HL.out.mono ?_; rintro e w1 ⟨rfl, rfl⟩)
    go_ret
    exact ⟨rfl, rfl⟩
   ·-- n = 95
    have q0 : decide (48 ≤ (n : Int)) = true := decide_eq_true (by omega)
    have q1 : decide ((n : Int) ≤ 57) = false := decide_eq_false (by omega)
    have r0 : ((n : Int) == 95) = true := by rw [hw]; rfl
    have ho : moreB c = true := by unfold moreB; rw [HLT.out, ← HN.out]; simp; omega
    rw [ho]
    clear ho hw
    go_enter Tryz.func121, Tryz.ntmps121
    go_wp2_with (go_at_call 119; refine HL.out.mono ?_; rintro e w1 ⟨rfl, rfl⟩)
    go_ret
    exact ⟨rfl, rfl⟩
   ·-- 96 ≤ n
    have q0 : decide (48 ≤ (n : Int)) = true := decide_eq_true (by omega)
    have q1 : decide ((n : Int) ≤ 57) = false := decide_eq_false (by omega)
    have r0 : ((n : Int) == 95) = false := by rw [beq_eq_false_iff_ne]; omega
    have ho : moreB c = false := by unfold moreB; rw [HLT.out, ← HN.out]; simp; omega
    rw [ho]
    clear ho hw
    go_enter Tryz.func121, Tryz.ntmps121
    go_wp2_with (go_at_call 119; refine HL.out.mono ?_; rintro e w1 ⟨rfl, rfl⟩)
    go_ret
    exact ⟨rfl, rfl⟩
set_option maxRecDepth 100000 in
theorem pterm_any (c : UInt8) (w : World) : Calls Tryz.prog 122 #[.int .u8 (c.toNat : Int)] w fun e w' => e = .returned (.bool (termC c)) ∧ w = w' := by
 obtain ⟨n, hn⟩ : ∃ n, n = c.toNat := ⟨_, rfl⟩
 rw [← hn]
 have HN := Lib.hid hn
 clear hn
 rcases (show (n < 32) ∨ (32 ≤ n ∧ n < 39) ∨ (n = 39) ∨ (40 ≤ n ∧ n < 92) ∨ (n = 92) ∨ (93 ≤ n ∧ n < 127) ∨ (127 ≤ n) by omega) with hw | hw | hw | hw | hw | hw | hw
 ·-- n < 32
  have q0 : decide (32 ≤ (n : Int)) = false := decide_eq_false (by omega)
  have q1 : decide ((n : Int) ≤ 126) = true := decide_eq_true (by omega)
  have r0 : ((n : Int) != 39) = true := by rw [bne_iff_ne]; omega
  have r1 : ((n : Int) != 92) = true := by rw [bne_iff_ne]; omega
  have ho : termC c = false := by unfold termC; rw [← HN.out]; simp; omega
  rw [ho]
  clear ho hw
  go_enter Tryz.func122, Tryz.ntmps122
  go_wp2_with fail
  go_ret
  exact ⟨rfl, rfl⟩
 ·-- 32 ≤ n ∧ n < 39
  have q0 : decide (32 ≤ (n : Int)) = true := decide_eq_true (by omega)
  have q1 : decide ((n : Int) ≤ 126) = true := decide_eq_true (by omega)
  have r0 : ((n : Int) != 39) = true := by rw [bne_iff_ne]; omega
  have r1 : ((n : Int) != 92) = true := by rw [bne_iff_ne]; omega
  have ho : termC c = true := by unfold termC; rw [← HN.out]; simp; omega
  rw [ho]
  clear ho hw
  go_enter Tryz.func122, Tryz.ntmps122
  go_wp2_with fail
  go_ret
  exact ⟨rfl, rfl⟩
 ·-- n = 39
  have q0 : decide (32 ≤ (n : Int)) = true := decide_eq_true (by omega)
  have q1 : decide ((n : Int) ≤ 126) = true := decide_eq_true (by omega)
  have r0 : ((n : Int) != 39) = false := by rw [hw]; rfl
  have r1 : ((n : Int) != 92) = true := by rw [bne_iff_ne]; omega
  have ho : termC c = false := by unfold termC; rw [← HN.out]; simp; omega
  rw [ho]
  clear ho hw
  go_enter Tryz.func122, Tryz.ntmps122
  go_wp2_with fail
  go_ret
  exact ⟨rfl, rfl⟩
 ·-- 40 ≤ n ∧ n < 92
  have q0 : decide (32 ≤ (n : Int)) = true := decide_eq_true (by omega)
  have q1 : decide ((n : Int) ≤ 126) = true := decide_eq_true (by omega)
  have r0 : ((n : Int) != 39) = true := by rw [bne_iff_ne]; omega
  have r1 : ((n : Int) != 92) = true := by rw [bne_iff_ne]; omega
  have ho : termC c = true := by unfold termC; rw [← HN.out]; simp; omega
  rw [ho]
  clear ho hw
  go_enter Tryz.func122, Tryz.ntmps122
  go_wp2_with fail
  go_ret
  exact ⟨rfl, rfl⟩
 ·-- n = 92
  have q0 : decide (32 ≤ (n : Int)) = true := decide_eq_true (by omega)
  have q1 : decide ((n : Int) ≤ 126) = true := decide_eq_true (by omega)
  have r0 : ((n : Int) != 39) = true := by rw [bne_iff_ne]; omega
  have r1 : ((n : Int) != 92) = false := by rw [hw]; rfl
  have ho : termC c = false := by unfold termC; rw [← HN.out]; simp; omega
  rw [ho]
  clear ho hw
  go_enter Tryz.func122, Tryz.ntmps122
  go_wp2_with fail
  go_ret
  exact ⟨rfl, rfl⟩
 ·-- 93 ≤ n ∧ n < 127
  have q0 : decide (32 ≤ (n : Int)) = true := decide_eq_true (by omega)
  have q1 : decide ((n : Int) ≤ 126) = true := decide_eq_true (by omega)
  have r0 : ((n : Int) != 39) = true := by rw [bne_iff_ne]; omega
  have r1 : ((n : Int) != 92) = true := by rw [bne_iff_ne]; omega
  have ho : termC c = true := by unfold termC; rw [← HN.out]; simp; omega
  rw [ho]
  clear ho hw
  go_enter Tryz.func122, Tryz.ntmps122
  go_wp2_with fail
  go_ret
  exact ⟨rfl, rfl⟩
 ·-- 127 ≤ n
  have q0 : decide (32 ≤ (n : Int)) = true := decide_eq_true (by omega)
  have q1 : decide ((n : Int) ≤ 126) = false := decide_eq_false (by omega)
  have r0 : ((n : Int) != 39) = true := by rw [bne_iff_ne]; omega
  have r1 : ((n : Int) != 92) = true := by rw [bne_iff_ne]; omega
  have ho : termC c = false := by unfold termC; rw [← HN.out]; simp; omega
  rw [ho]
  clear ho hw
  go_enter Tryz.func122, Tryz.ntmps122
  go_wp2_with fail
  go_ret
  exact ⟨rfl, rfl⟩
end Go.Proofs.YtnaamjpiaekmeaaGreat
namespace Go.Proofs.YtnaamjpiaekmeaaGreat
open Go.RowKit
theorem run_at {p : UInt8 → Bool} {m : List UInt8} {a k : Nat} (h1 : a ≤ k) (h2 : k ≤ m.length) (hall : ∀ j, a ≤ j → j < k → ∀ h : j < m.length, p (m[j]'h) = true) (hend : ∀ h : k < m.length, p (m[k]'h) = false) : (m.drop a).takeWhile p = (m.take k).drop a := by
 have hs : m.drop a = (m.take k).drop a ++ m.drop k := by
  have : m.drop a = (m.take k ++ m.drop k).drop a := by rw [List.take_append_drop]
  rw [this, List.drop_append_of_le_length (by rw [List.length_take]; omega)]
 have ha : ((m.take k).drop a).all p = true := by
  refine List.all_eq_true.2 (fun x hx => ?_)
  obtain ⟨j, hj, rfl⟩ := List.getElem_of_mem hx
  rw [List.length_drop, List.length_take] at hj
  rw [List.getElem_drop, List.getElem_take]
  exact hall _ (by omega) (by omega) (by omega)
 rw [hs]
 by_cases hk : k < m.length
 ·rw [List.drop_eq_getElem_cons hk, takeWhile_stop _ _ _ (hend hk), takeWhile_all ha]
 ·rw [show m.drop k = [] from List.drop_eq_nil_of_le (by omega), List.append_nil, takeWhile_all ha]
def RunRel (p : UInt8 → Bool) (w : World) (m : List UInt8) (a : Nat) (iv : Value) (wx : World) : Prop := ∃ k : Nat, a ≤ k ∧ k ≤ m.length ∧ iv = .int .i64 (k : Int) ∧ (∀ j, a ≤ j → j < k → ∀ h : j < m.length, p (m[j]'h) = true) ∧ w = wx
theorem run_next {p : UInt8 → Bool} {m : List UInt8} {a k : Nat} (h : ∀ j, a ≤ j → j < k → ∀ h : j < m.length, p (m[j]'h) = true) (hk : k < m.length) (ho : p (m[k]'hk) = true) : ∀ j, a ≤ j → j < k + 1 → ∀ h : j < m.length, p (m[j]'h) = true := by
 intro j hj1 hj hl
 by_cases e : j = k
 ·subst e; exact ho
 ·exact h j hj1 (by omega) hl
end Go.Proofs.YtnaamjpiaekmeaaGreat
namespace Go.Proofs.YtnaamjpiaekmeaaGreat
open Go.RowKit
theorem run_zero {p : UInt8 → Bool} {m : List UInt8} {k : Nat} (h2 : k ≤ m.length) (hall : ∀ j, 0 ≤ j → j < k → ∀ h : j < m.length, p (m[j]'h) = true) (hend : ∀ h : k < m.length, p (m[k]'h) = false) : (m.takeWhile p).length = k := by
 have := run_at (a := 0) (Nat.zero_le _) h2 hall hend
 rw [List.drop_zero, List.drop_zero] at this
 rw [this, List.length_take]
 omega
theorem takeWhile_full {p : UInt8 → Bool} : ∀ {m : List UInt8}, (m.takeWhile p).length = m.length ↔ m.all p = true
 | [] => by simp
 | c :: t => by
   rw [List.takeWhile_cons, List.all_cons]
   cases h : p c with
   | false => simp
   | true => simpa using takeWhile_full (m := t)
def moreV : Value := .func (.func 121) #[] #[]
set_option maxRecDepth 100000 in
set_option maxHeartbeats 1000000 in
theorem prun_more (m : List UInt8) (hm : m.length ≤ maxLen) (w : World) : Calls Tryz.prog 141 #[encStr m, moreV] w fun e w' => e = .returned (.int .i64 ((m.takeWhile moreB).length : Int)) ∧ w = w' := by
 have hm' : m.length ≤ 9223372036854775807 := by simpa [maxLen] using hm
 obtain ⟨R, hR⟩ : ∃ R, R = (m.takeWhile moreB).length := ⟨_, rfl⟩
 rw [← hR]
 have HR := Lib.hid hR
 unfold moreV
 clear hR hm
 go_enter Tryz.func141, Tryz.ntmps141
 go_wp2_with fail
 go_loopw [8] (RunRel moreB w m 0) (fun iv _ => m.length - (intOf iv).toNat)
 case atStart => exact ⟨0, Nat.le_refl _, Nat.zero_le _, rfl, fun j _ hj => by omega, rfl⟩
 case round =>
  obtain ⟨k, -, hk, rfl, hall, rfl⟩ := hrel
  have HA := Lib.hid hall
  clear hall
  by_cases hkn : k < m.length
  ·have hd3 : decide (k < m.length) = true := decide_eq_true hkn
   obtain ⟨d, hd⟩ : ∃ d, d = m[k]'hkn := ⟨_, rfl⟩
   have hix := fun wx => run_index_str (P := Tryz.prog) wx 9 m (k : Int) k d Tryz.underlying9 rfl (by rw [hd, List.getElem?_eq_getElem])
   have HC := Lib.hid hd
   have hin := pmore_any d
   clear hd
   cases ho : moreB d with
   | false =>
     rw [ho] at hin
     have HI := Lib.hid hin
     have HO := Lib.hid ho
     clear ho hin
     go_wp2_with (go_at_call 121; refine (HI.out _).mono ?_; rintro e w1 ⟨rfl, rfl⟩)
     go_ret
     exact ⟨by rw [HR.out, run_zero (k := k) (by omega) HA.out (fun h => by rw [← HC.out]; exact HO.out)]; rfl, rfl⟩
   | true =>
     rw [ho] at hin
     have HI := Lib.hid hin
     have HO := Lib.hid ho
     clear ho hin
     go_wp2_with (go_at_call 121; refine (HI.out _).mono ?_; rintro e w1 ⟨rfl, rfl⟩)
     exact ⟨⟨k + 1, by omega, by omega, by go_num, run_next HA.out hkn (by rw [← HC.out]; exact HO.out), rfl⟩, by simp [intOf]; omega⟩
  ·have hd3 : decide (k < m.length) = false := decide_eq_false hkn
   have HRT := Lib.hid (show R = m.length by rw [HR.out, run_zero (k := m.length) (Nat.le_refl _) (fun j h1 h2 h => HA.out j h1 (by omega) h) (fun h => absurd h (Nat.lt_irrefl _))])
   go_wp2_with fail
   go_ret
   exact ⟨by rw [HRT.out]; rfl, rfl⟩
def termV : Value := .func (.func 122) #[] #[]
set_option maxRecDepth 100000 in
set_option maxHeartbeats 1000000 in
theorem prun_term (m : List UInt8) (hm : m.length ≤ maxLen) (w : World) : Calls Tryz.prog 141 #[encStr m, termV] w fun e w' => e = .returned (.int .i64 ((m.takeWhile termC).length : Int)) ∧ w = w' := by
 have hm' : m.length ≤ 9223372036854775807 := by simpa [maxLen] using hm
 obtain ⟨R, hR⟩ : ∃ R, R = (m.takeWhile termC).length := ⟨_, rfl⟩
 rw [← hR]
 have HR := Lib.hid hR
 unfold termV
 clear hR hm
 go_enter Tryz.func141, Tryz.ntmps141
 go_wp2_with fail
 go_loopw [8] (RunRel termC w m 0) (fun iv _ => m.length - (intOf iv).toNat)
 case atStart => exact ⟨0, Nat.le_refl _, Nat.zero_le _, rfl, fun j _ hj => by omega, rfl⟩
 case round =>
  obtain ⟨k, -, hk, rfl, hall, rfl⟩ := hrel
  have HA := Lib.hid hall
  clear hall
  by_cases hkn : k < m.length
  ·have hd3 : decide (k < m.length) = true := decide_eq_true hkn
   obtain ⟨d, hd⟩ : ∃ d, d = m[k]'hkn := ⟨_, rfl⟩
   have hix := fun wx => run_index_str (P := Tryz.prog) wx 9 m (k : Int) k d Tryz.underlying9 rfl (by rw [hd, List.getElem?_eq_getElem])
   have HC := Lib.hid hd
   have hin := pterm_any d
   clear hd
   cases ho : termC d with
   | false =>
     rw [ho] at hin
     have HI := Lib.hid hin
     have HO := Lib.hid ho
     clear ho hin
     go_wp2_with (go_at_call 122; refine (HI.out _).mono ?_; rintro e w1 ⟨rfl, rfl⟩)
     go_ret
     exact ⟨by rw [HR.out, run_zero (k := k) (by omega) HA.out (fun h => by rw [← HC.out]; exact HO.out)]; rfl, rfl⟩
   | true =>
     rw [ho] at hin
     have HI := Lib.hid hin
     have HO := Lib.hid ho
     clear ho hin
     go_wp2_with (go_at_call 122; refine (HI.out _).mono ?_; rintro e w1 ⟨rfl, rfl⟩)
     exact ⟨⟨k + 1, by omega, by omega, by go_num, run_next HA.out hkn (by rw [← HC.out]; exact HO.out), rfl⟩, by simp [intOf]; omega⟩
  ·have hd3 : decide (k < m.length) = false := decide_eq_false hkn
   have HRT := Lib.hid (show R = m.length by rw [HR.out, run_zero (k := m.length) (Nat.le_refl _) (fun j h1 h2 h => HA.out j h1 (by omega) h) (fun h => absurd h (Nat.lt_irrefl _))])
   go_wp2_with fail
   go_ret
   exact ⟨by rw [HRT.out]; rfl, rfl⟩
end Go.Proofs.YtnaamjpiaekmeaaGreat
namespace Go.Proofs.YtnaamjpiaekmeaaGreat
open Go.RowKit
set_option maxRecDepth 100000 in
set_option maxHeartbeats 1000000 in
theorem pfits_more (m : List UInt8) (hm : m.length ≤ maxLen) (w : World) : Calls Tryz.prog 120 #[encStr m, moreV] w fun e w' => e = .returned (.bool (decide (m.length ≤ 32) && m.all moreB)) ∧ w = w' := by
 have hm' : m.length ≤ 9223372036854775807 := by simpa [maxLen] using hm
 have hr := prun_more m hm
 obtain ⟨n, hn⟩ : ∃ n, n = (m.takeWhile moreB).length := ⟨_, rfl⟩
 rw [← hn] at hr
 have HR := Lib.hid hr
 obtain ⟨fv, hfv⟩ : ∃ fv, fv = moreV := ⟨_, rfl⟩
 rw [← hfv] at HR ⊢
 clear hr hm hfv
 by_cases h1 : m.length ≤ 32
 ·have hd1 : decide ((m.length : Int) ≤ 32) = true := decide_eq_true (by omega)
  by_cases h2 : n = m.length
  ·have hd2 : decide (n = m.length) = true := decide_eq_true h2
   have hd3 : ((n : Int) == (m.length : Int)) = true := by rw [h2]; simp
   have hd4 : (n == m.length) = true := by rw [h2]; simp
   rw [show (decide (m.length ≤ 32) && m.all moreB) = true by rw [decide_eq_true h1, takeWhile_full.1 (hn ▸ h2)]; rfl]
   have HH := Lib.hid h2
   clear h1 h2 hn
   go_enter Tryz.func120, Tryz.ntmps120
   go_wp2_with (go_at_call 141; refine (HR.out _).mono ?_; rintro e w1 ⟨rfl, rfl⟩)
   go_ret
   exact ⟨rfl, rfl⟩
  ·have hd2 : decide (n = m.length) = false := decide_eq_false h2
   have hd3 : ((n : Int) == (m.length : Int)) = false := by rw [beq_eq_false_iff_ne]; omega
   have hd4 : (n == m.length) = false := by rw [beq_eq_false_iff_ne]; exact h2
   rw [show (decide (m.length ≤ 32) && m.all moreB) = false by
    cases hq : m.all moreB with
    | false => simp
    | true => exact absurd (hn.trans (takeWhile_full.2 hq)) h2]
   have HH := Lib.hid h2
   clear h1 h2 hn
   go_enter Tryz.func120, Tryz.ntmps120
   go_wp2_with (go_at_call 141; refine (HR.out _).mono ?_; rintro e w1 ⟨rfl, rfl⟩)
   go_ret
   exact ⟨rfl, rfl⟩
 ·have hd1 : decide ((m.length : Int) ≤ 32) = false := decide_eq_false (by omega)
  rw [show (decide (m.length ≤ 32) && m.all moreB) = false by rw [decide_eq_false h1]; rfl]
  clear h1 hn
  go_enter Tryz.func120, Tryz.ntmps120
  go_wp2_with fail
  go_ret
  exact ⟨rfl, rfl⟩
set_option maxRecDepth 100000 in
set_option maxHeartbeats 1000000 in
theorem pfits_term (m : List UInt8) (hm : m.length ≤ maxLen) (w : World) : Calls Tryz.prog 120 #[encStr m, termV] w fun e w' => e = .returned (.bool (decide (m.length ≤ 32) && m.all termC)) ∧ w = w' := by
 have hm' : m.length ≤ 9223372036854775807 := by simpa [maxLen] using hm
 have hr := prun_term m hm
 obtain ⟨n, hn⟩ : ∃ n, n = (m.takeWhile termC).length := ⟨_, rfl⟩
 rw [← hn] at hr
 have HR := Lib.hid hr
 obtain ⟨fv, hfv⟩ : ∃ fv, fv = termV := ⟨_, rfl⟩
 rw [← hfv] at HR ⊢
 clear hr hm hfv
 by_cases h1 : m.length ≤ 32
 ·have hd1 : decide ((m.length : Int) ≤ 32) = true := decide_eq_true (by omega)
  by_cases h2 : n = m.length
  ·have hd2 : decide (n = m.length) = true := decide_eq_true h2
   have hd3 : ((n : Int) == (m.length : Int)) = true := by rw [h2]; simp
   have hd4 : (n == m.length) = true := by rw [h2]; simp
   rw [show (decide (m.length ≤ 32) && m.all termC) = true by rw [decide_eq_true h1, takeWhile_full.1 (hn ▸ h2)]; rfl]
   have HH := Lib.hid h2
   clear h1 h2 hn
   go_enter Tryz.func120, Tryz.ntmps120
   go_wp2_with (go_at_call 141; refine (HR.out _).mono ?_; rintro e w1 ⟨rfl, rfl⟩)
   go_ret
   exact ⟨rfl, rfl⟩
  ·have hd2 : decide (n = m.length) = false := decide_eq_false h2
   have hd3 : ((n : Int) == (m.length : Int)) = false := by rw [beq_eq_false_iff_ne]; omega
   have hd4 : (n == m.length) = false := by rw [beq_eq_false_iff_ne]; exact h2
   rw [show (decide (m.length ≤ 32) && m.all termC) = false by
    cases hq : m.all termC with
    | false => simp
    | true => exact absurd (hn.trans (takeWhile_full.2 hq)) h2]
   have HH := Lib.hid h2
   clear h1 h2 hn
   go_enter Tryz.func120, Tryz.ntmps120
   go_wp2_with (go_at_call 141; refine (HR.out _).mono ?_; rintro e w1 ⟨rfl, rfl⟩)
   go_ret
   exact ⟨rfl, rfl⟩
 ·have hd1 : decide ((m.length : Int) ≤ 32) = false := decide_eq_false (by omega)
  rw [show (decide (m.length ≤ 32) && m.all termC) = false by rw [decide_eq_false h1]; rfl]
  clear h1 hn
  go_enter Tryz.func120, Tryz.ntmps120
  go_wp2_with fail
  go_ret
  exact ⟨rfl, rfl⟩
end Go.Proofs.YtnaamjpiaekmeaaGreat
namespace Go.Proofs.YtnaamjpiaekmeaaGreat
open Go.RowKit
end Go.Proofs.YtnaamjpiaekmeaaGreat
namespace Go.Proofs.YtnaamjpiaekmeaaGreat
open Go.RowKit
set_option maxRecDepth 100000 in
set_option maxHeartbeats 1000000 in
theorem pname_any (m : List UInt8) (hm : m.length ≤ maxLen) (w : World) : Calls Tryz.prog 87 #[encStr m] w fun e w' => e = .returned (.bool (nameB m)) ∧ Fr [] w w' := by
 cases m with
 | nil =>
   go_enter Tryz.func87, Tryz.ntmps87
   go_wp2_with fail
   go_ret
   exact ⟨rfl, Fr.refl _ _⟩
 | cons c t =>
   have hf := pfits_more (c :: t) hm
   have hix := fun wx => run_index_str (P := Tryz.prog) wx 9 (c :: t) 0 0 c Tryz.underlying9 rfl rfl
   have hle := pletter_any c
   have hnb : nameB (c :: t) = (letterB c && (decide ((c :: t).length ≤ 32) && (c :: t).all moreB)) := by
    show (decide (1 ≤ (c :: t).length ∧ (c :: t).length ≤ 32) && letterB c && (c :: t).all moreB) = _
    rw [show decide (1 ≤ (c :: t).length ∧ (c :: t).length ≤ 32) = decide ((c :: t).length ≤ 32) by simp]
    cases letterB c <;> simp
   obtain ⟨R, hR⟩ : ∃ R, R = nameB (c :: t) := ⟨_, rfl⟩
   rw [← hR] at hnb ⊢
   obtain ⟨b, hb⟩ : ∃ b, b = (decide ((c :: t).length ≤ 32) && (c :: t).all moreB) := ⟨_, rfl⟩
   rw [← hb] at hnb hf
   have hne : (c :: t).isEmpty = false := rfl
   obtain ⟨l, hl⟩ : ∃ l, l = letterB c := ⟨_, rfl⟩
   rw [← hl] at hnb hle
   have HF := Lib.hid hf
   have HLE := Lib.hid hle
   have HNB := Lib.hid hnb
   obtain ⟨m, hmm⟩ : ∃ m, m = c :: t := ⟨_, rfl⟩
   rw [← hmm] at HF hix hne ⊢
   clear hf hle hnb hR hb hl hmm hm
   unfold moreV at HF
   cases l with
   | false =>
     go_enter Tryz.func87, Tryz.ntmps87
     go_wp2_with (first | (go_at_call 119; refine (HLE.out _).mono ?_; rintro e w1 ⟨rfl, rfl⟩))
     go_ret
     exact ⟨by rw [HNB.out]; rfl, Fr.refl _ _⟩
   | true =>
     go_enter Tryz.func87, Tryz.ntmps87
     go_wp2_with (first | (go_at_call 119; refine (HLE.out _).mono ?_; rintro e w1 ⟨rfl, rfl⟩) | (go_at_call 120; refine (HF.out _).mono ?_; rintro e w1 ⟨rfl, rfl⟩))
     go_ret
     exact ⟨by rw [HNB.out]; rfl, Fr.refl _ _⟩
set_option maxRecDepth 100000 in
set_option maxHeartbeats 1000000 in
theorem pisterm_any (m : List UInt8) (hm : m.length ≤ maxLen) (w : World) : Calls Tryz.prog 88 #[encStr m] w fun e w' => e = .returned (.bool (termB m)) ∧ Fr [] w w' := by
 cases m with
 | nil =>
   go_enter Tryz.func88, Tryz.ntmps88
   go_wp2_with fail
   go_ret
   exact ⟨rfl, Fr.refl _ _⟩
 | cons c t =>
   have hf := pfits_term (c :: t) hm
   have hnb : termB (c :: t) = (decide ((c :: t).length ≤ 32) && (c :: t).all termC) := by
    unfold termB
    simp
   obtain ⟨R, hR⟩ : ∃ R, R = termB (c :: t) := ⟨_, rfl⟩
   rw [← hR] at hnb ⊢
   have hne : (c :: t).isEmpty = false := rfl
   rw [← hnb] at hf
   have HF := Lib.hid hf
   obtain ⟨m, hmm⟩ : ∃ m, m = c :: t := ⟨_, rfl⟩
   rw [← hmm] at HF hne ⊢
   clear hf hnb hR hmm hm
   unfold termV at HF
   go_enter Tryz.func88, Tryz.ntmps88
   go_wp2_with (go_at_call 120; refine (HF.out _).mono ?_; rintro e w1 ⟨rfl, rfl⟩)
   go_ret
   exact ⟨rfl, Fr.refl _ _⟩
end Go.Proofs.YtnaamjpiaekmeaaGreat
