/- The document's lexer (layer 12): Name, Term. Written by wip/tools/gen_lb.py. -/
import Derived.Test.YtamoalnbcmnciaaLx
namespace Go.Proofs.Ytamoalnbcmnciaa
open Go.RowKit

set_option maxRecDepth 100000 in
set_option maxHeartbeats 1000000 in
theorem rname_any (m : List UInt8) (hm : m.length ≤ maxLen) (w : World) : Calls Try.prog 23 #[encStr m] w fun e w' => e = .returned (.bool (nameB m)) ∧ w = w' := by
  have hm' : m.length ≤ 9223372036854775807 := by simpa [maxLen] using hm
  obtain ⟨R, hR⟩ : ∃ R, R = nameB m := ⟨_, rfl⟩
  rw [← hR]
  have HR := Lib.hid hR
  clear hR hm
  by_cases h1 : m.length < 1
  · have hd1 : decide ((m.length : Int) < 1) = true := decide_eq_true (by omega)
    have HRF := Lib.hid (show R = false by rw [HR.out]; unfold nameB; rw [decide_eq_false (by omega)]; rfl)
    clear h1
    go_enter Try.func23, Try.ntmps23
    go_wp2_with fail
    go_ret
    exact ⟨by rw [HRF.out]; rfl, rfl⟩
  · have hd1 : decide ((m.length : Int) < 1) = false := decide_eq_false (by omega)
    by_cases h2 : 32 < m.length
    · have hd2 : decide (32 < (m.length : Int)) = true := decide_eq_true (by omega)
      have HRF := Lib.hid (show R = false by rw [HR.out]; unfold nameB; rw [decide_eq_false (by omega)]; rfl)
      clear h1 h2
      go_enter Try.func23, Try.ntmps23
      go_wp2_with fail
      go_ret
      exact ⟨by rw [HRF.out]; rfl, rfl⟩
    · have hd2 : decide (32 < (m.length : Int)) = false := decide_eq_false (by omega)
      obtain ⟨c, hc⟩ : ∃ c, m[0]? = some c := ⟨m[0]'(by omega), List.getElem?_eq_getElem _⟩
      have hix0 := fun wx => run_index_str (P := Try.prog) wx 9 m 0 0 c Try.underlying9 rfl hc
      have hnb : nameB m = (letterB c && m.all moreB) := by
        unfold nameB
        rw [decide_eq_true (by omega)]
        cases m with
        | nil => cases hc
        | cons x t =>
          have : x = c := by simpa using hc
          rw [this]
          rfl
      have hle := rletter_any c
      cases hlt : letterB c with
      | false =>
        rw [hlt] at hle
        have HLE := Lib.hid hle
        have HRF := Lib.hid (show R = false by rw [HR.out, hnb, hlt]; rfl)
        clear hle hlt hnb hc
        go_enter Try.func23, Try.ntmps23
        go_wp2_with (go_at_call 41; refine (HLE.out _).mono ?_; rintro e w1 ⟨rfl, rfl⟩)
        go_ret
        exact ⟨by rw [HRF.out]; rfl, rfl⟩
      | true =>
        rw [hlt] at hle
        have HLE := Lib.hid hle
        have HRA := Lib.hid (show R = m.all moreB by rw [HR.out, hnb, hlt]; rfl)
        clear hle hlt hnb hc
        go_enter Try.func23, Try.ntmps23
        go_wp2_with (go_at_call 41; refine (HLE.out _).mono ?_; rintro e w1 ⟨rfl, rfl⟩)
        go_loopw [3] (AllRel moreB _ m) (fun iv _ => m.length - (intOf iv).toNat)
        case atStart => exact ⟨0, Nat.zero_le _, rfl, fun j hj => by omega, rfl⟩
        case round =>
          obtain ⟨k, hk, rfl, hall, rfl⟩ := hrel
          have HA := Lib.hid hall
          clear hall
          by_cases hkn : k < m.length
          · have hd3 : decide (k < m.length) = true := decide_eq_true hkn
            obtain ⟨d, hd⟩ : ∃ d, d = m[k]'hkn := ⟨_, rfl⟩
            have hix := fun wx => run_index_str (P := Try.prog) wx 9 m (k : Int) k d Try.underlying9 rfl (by rw [hd, List.getElem?_eq_getElem])
            have HC := Lib.hid hd
            have hin := rmore_any d
            clear hd
            cases ho : moreB d with
            | false =>
              rw [ho] at hin
              have HI := Lib.hid hin
              have HO := Lib.hid ho
              clear ho hin
              go_wp2_with (go_at_call 42; refine (HI.out _).mono ?_; rintro e w1 ⟨rfl, rfl⟩)
              go_ret
              exact ⟨by rw [HRA.out, all_no hkn (by rw [← HC.out]; exact HO.out)]; rfl, rfl⟩
            | true =>
              rw [ho] at hin
              have HI := Lib.hid hin
              have HO := Lib.hid ho
              clear ho hin
              go_wp2_with (go_at_call 42; refine (HI.out _).mono ?_; rintro e w1 ⟨rfl, rfl⟩)
              exact ⟨⟨k + 1, by omega, by go_num, all_next HA.out hkn (by rw [← HC.out]; exact HO.out), rfl⟩, by simp [intOf]; omega⟩
          · have hd3 : decide (k < m.length) = false := decide_eq_false hkn
            have HRT := Lib.hid (show R = true by rw [HRA.out]; exact all_yes (fun j hj => HA.out j (by omega) hj))
            go_wp2_with fail
            go_ret
            exact ⟨by rw [HRT.out]; rfl, rfl⟩
set_option maxRecDepth 100000 in
set_option maxHeartbeats 1000000 in
theorem rterm_any (m : List UInt8) (hm : m.length ≤ maxLen) (w : World) : Calls Try.prog 25 #[encStr m] w fun e w' => e = .returned (.bool (termB m)) ∧ w = w' := by
  have hm' : m.length ≤ 9223372036854775807 := by simpa [maxLen] using hm
  obtain ⟨R, hR⟩ : ∃ R, R = termB m := ⟨_, rfl⟩
  rw [← hR]
  have HR := Lib.hid hR
  clear hR hm
  by_cases h1 : m.length < 1
  · have hd1 : decide ((m.length : Int) < 1) = true := decide_eq_true (by omega)
    have HRF := Lib.hid (show R = false by rw [HR.out]; unfold termB; rw [decide_eq_false (by omega)]; rfl)
    clear h1
    go_enter Try.func25, Try.ntmps25
    go_wp2_with fail
    go_ret
    exact ⟨by rw [HRF.out]; rfl, rfl⟩
  · have hd1 : decide ((m.length : Int) < 1) = false := decide_eq_false (by omega)
    by_cases h2 : 32 < m.length
    · have hd2 : decide (32 < (m.length : Int)) = true := decide_eq_true (by omega)
      have HRF := Lib.hid (show R = false by rw [HR.out]; unfold termB; rw [decide_eq_false (by omega)]; rfl)
      clear h1 h2
      go_enter Try.func25, Try.ntmps25
      go_wp2_with fail
      go_ret
      exact ⟨by rw [HRF.out]; rfl, rfl⟩
    · have hd2 : decide (32 < (m.length : Int)) = false := decide_eq_false (by omega)
      have HRA := Lib.hid (show R = m.all termC by rw [HR.out]; unfold termB; rw [decide_eq_true (by omega)]; rfl)
      go_enter Try.func25, Try.ntmps25
      go_wp2_with fail
      go_loopw [3] (AllRel termC w m) (fun iv _ => m.length - (intOf iv).toNat)
      case atStart => exact ⟨0, Nat.zero_le _, rfl, fun j hj => by omega, rfl⟩
      case round =>
        obtain ⟨k, hk, rfl, hall, rfl⟩ := hrel
        have HA := Lib.hid hall
        clear hall
        by_cases hkn : k < m.length
        · have hd3 : decide (k < m.length) = true := decide_eq_true hkn
          obtain ⟨d, hd⟩ : ∃ d, d = m[k]'hkn := ⟨_, rfl⟩
          have hix := fun wx => run_index_str (P := Try.prog) wx 9 m (k : Int) k d Try.underlying9 rfl (by rw [hd, List.getElem?_eq_getElem])
          have HC := Lib.hid hd
          clear hd
          obtain ⟨n, hn⟩ : ∃ n, n = d.toNat := ⟨_, rfl⟩
          rw [← hn] at hix
          have HN := Lib.hid hn
          clear hn
          rcases (show (n < 32) ∨ (32 ≤ n ∧ n < 39) ∨ (n = 39) ∨ (40 ≤ n ∧ n < 92) ∨ (n = 92) ∨ (93 ≤ n ∧ n < 127) ∨ (127 ≤ n) by omega) with hw | hw | hw | hw | hw | hw | hw
          · -- n < 32
            have q0 : decide ((n : Int) < 32) = true := decide_eq_true (by omega)
            have q1 : decide (126 < (n : Int)) = false := decide_eq_false (by omega)
            have r0 : ((n : Int) == 39) = false := by rw [beq_eq_false_iff_ne]; omega
            have r1 : ((n : Int) == 92) = false := by rw [beq_eq_false_iff_ne]; omega
            have ho : termC d = false := by unfold termC; rw [← HN.out]; simp; omega
            have HO := Lib.hid ho
            clear ho hw
            go_wp2_with fail
            go_ret
            exact ⟨by rw [HRA.out, all_no hkn (by rw [← HC.out]; exact HO.out)]; rfl, rfl⟩
          · -- 32 ≤ n ∧ n < 39
            have q0 : decide ((n : Int) < 32) = false := decide_eq_false (by omega)
            have q1 : decide (126 < (n : Int)) = false := decide_eq_false (by omega)
            have r0 : ((n : Int) == 39) = false := by rw [beq_eq_false_iff_ne]; omega
            have r1 : ((n : Int) == 92) = false := by rw [beq_eq_false_iff_ne]; omega
            have ho : termC d = true := by unfold termC; rw [← HN.out]; simp; omega
            have HO := Lib.hid ho
            clear ho hw
            go_wp2_with fail
            exact ⟨⟨k + 1, by omega, by go_num, all_next HA.out hkn (by rw [← HC.out]; exact HO.out), rfl⟩, by simp [intOf]; omega⟩
          · -- n = 39
            have q0 : decide ((n : Int) < 32) = false := decide_eq_false (by omega)
            have q1 : decide (126 < (n : Int)) = false := decide_eq_false (by omega)
            have r0 : ((n : Int) == 39) = true := by rw [hw]; rfl
            have r1 : ((n : Int) == 92) = false := by rw [beq_eq_false_iff_ne]; omega
            have ho : termC d = false := by unfold termC; rw [← HN.out]; simp; omega
            have HO := Lib.hid ho
            clear ho hw
            go_wp2_with fail
            go_ret
            exact ⟨by rw [HRA.out, all_no hkn (by rw [← HC.out]; exact HO.out)]; rfl, rfl⟩
          · -- 40 ≤ n ∧ n < 92
            have q0 : decide ((n : Int) < 32) = false := decide_eq_false (by omega)
            have q1 : decide (126 < (n : Int)) = false := decide_eq_false (by omega)
            have r0 : ((n : Int) == 39) = false := by rw [beq_eq_false_iff_ne]; omega
            have r1 : ((n : Int) == 92) = false := by rw [beq_eq_false_iff_ne]; omega
            have ho : termC d = true := by unfold termC; rw [← HN.out]; simp; omega
            have HO := Lib.hid ho
            clear ho hw
            go_wp2_with fail
            exact ⟨⟨k + 1, by omega, by go_num, all_next HA.out hkn (by rw [← HC.out]; exact HO.out), rfl⟩, by simp [intOf]; omega⟩
          · -- n = 92
            have q0 : decide ((n : Int) < 32) = false := decide_eq_false (by omega)
            have q1 : decide (126 < (n : Int)) = false := decide_eq_false (by omega)
            have r0 : ((n : Int) == 39) = false := by rw [beq_eq_false_iff_ne]; omega
            have r1 : ((n : Int) == 92) = true := by rw [hw]; rfl
            have ho : termC d = false := by unfold termC; rw [← HN.out]; simp; omega
            have HO := Lib.hid ho
            clear ho hw
            go_wp2_with fail
            go_ret
            exact ⟨by rw [HRA.out, all_no hkn (by rw [← HC.out]; exact HO.out)]; rfl, rfl⟩
          · -- 93 ≤ n ∧ n < 127
            have q0 : decide ((n : Int) < 32) = false := decide_eq_false (by omega)
            have q1 : decide (126 < (n : Int)) = false := decide_eq_false (by omega)
            have r0 : ((n : Int) == 39) = false := by rw [beq_eq_false_iff_ne]; omega
            have r1 : ((n : Int) == 92) = false := by rw [beq_eq_false_iff_ne]; omega
            have ho : termC d = true := by unfold termC; rw [← HN.out]; simp; omega
            have HO := Lib.hid ho
            clear ho hw
            go_wp2_with fail
            exact ⟨⟨k + 1, by omega, by go_num, all_next HA.out hkn (by rw [← HC.out]; exact HO.out), rfl⟩, by simp [intOf]; omega⟩
          · -- 127 ≤ n
            have q0 : decide ((n : Int) < 32) = false := decide_eq_false (by omega)
            have q1 : decide (126 < (n : Int)) = true := decide_eq_true (by omega)
            have r0 : ((n : Int) == 39) = false := by rw [beq_eq_false_iff_ne]; omega
            have r1 : ((n : Int) == 92) = false := by rw [beq_eq_false_iff_ne]; omega
            have ho : termC d = false := by unfold termC; rw [← HN.out]; simp; omega
            have HO := Lib.hid ho
            clear ho hw
            go_wp2_with fail
            go_ret
            exact ⟨by rw [HRA.out, all_no hkn (by rw [← HC.out]; exact HO.out)]; rfl, rfl⟩
        · have hd3 : decide (k < m.length) = false := decide_eq_false hkn
          have HRT := Lib.hid (show R = true by rw [HRA.out]; exact all_yes (fun j hj => HA.out j (by omega) hj))
          go_wp2_with fail
          go_ret
          exact ⟨by rw [HRT.out]; rfl, rfl⟩
end Go.Proofs.Ytamoalnbcmnciaa
