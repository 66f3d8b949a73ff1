/- The document's disk (layer 11): Right. Its walk is written by wip/tools/gen_right.py. -/
import Derived.Test.YtmchnaojlnjmjaaGreatDskMath
import Derived.Test.YtmchnaojlnjmjaaGreatDirA
import Derived.Test.YtmchnaojlnjmjaaGreatStr
import Derived.LoopTactic
import Derived.BigQuiet
namespace Go.Proofs.YtmchnaojlnjmjaaGreat
open Go.RowKit Go.Maps

def RightRel (w : World) (m : List UInt8) (iv : Value) (wx : World) : Prop := ∃ k : Nat, k ≤ m.length ∧ iv = .int .i64 (k : Int) ∧ (∀ j, j < k → ∀ h : j < m.length, okByte (m[j]'h) = true) ∧ Fr [] w wx
theorem right_next {m : List UInt8} {k : Nat} (h : ∀ j, j < k → ∀ h : j < m.length, okByte (m[j]'h) = true) (hk : k < m.length) (ho : okByte (m[k]'hk) = true) : ∀ j, j < k + 1 → ∀ h : j < m.length, okByte (m[j]'h) = true := by
  intro j hj hl
  by_cases e : j = k
  · subst e; exact ho
  · exact h j (by omega) hl
theorem right_no {m : List UInt8} {k : Nat} (hk : k < m.length) (ho : okByte (m[k]'hk) = false) : rightB m = false := by
  unfold rightB
  rw [Bool.and_eq_false_iff]
  right
  rw [List.all_eq_false]
  exact ⟨_, List.getElem_mem hk, by rw [ho]; simp⟩
theorem right_yes {m : List UInt8} (h1 : 1 ≤ m.length) (h2 : m.length ≤ 80) (h : ∀ j (h : j < m.length), okByte (m[j]'h) = true) : rightB m = true := by
  unfold rightB
  rw [Bool.and_eq_true]
  refine ⟨decide_eq_true ⟨h1, h2⟩, List.all_eq_true.2 (fun x hx => ?_)⟩
  obtain ⟨j, hj, rfl⟩ := List.getElem_of_mem hx
  exact h j hj
set_option maxRecDepth 100000 in
set_option maxHeartbeats 1000000 in
theorem kright_any (m : List UInt8) (hm : m.length ≤ maxLen) (w : World) : Calls Tryz.prog 57 #[encStr m] w fun e w' => e = .returned (.bool (rightB m)) ∧ Fr [] w w' := by
  have hm' : m.length ≤ 9223372036854775807 := by simpa [maxLen] using hm
  obtain ⟨R, hR⟩ : ∃ R, R = rightB m := ⟨_, rfl⟩
  rw [← hR]
  have HR := Lib.hid hR
  clear hR hm
  by_cases h1 : m.length < 1
  · have hd1 : decide ((m.length : Int) < 1) = true := decide_eq_true (by omega)
    have HRF := Lib.hid (show R = false by rw [HR.out]; unfold rightB; rw [decide_eq_false (by omega)]; rfl)
    clear h1
    go_enter Tryz.func57, Tryz.ntmps57
    go_wp2_with fail
    go_ret
    exact ⟨by rw [HRF.out]; rfl, Fr.refl _ _⟩
  · have hd1 : decide ((m.length : Int) < 1) = false := decide_eq_false (by omega)
    by_cases h2 : 80 < m.length
    · have hd2 : decide (80 < (m.length : Int)) = true := decide_eq_true (by omega)
      have HRF := Lib.hid (show R = false by rw [HR.out]; unfold rightB; rw [decide_eq_false (by omega)]; rfl)
      clear h1 h2
      go_enter Tryz.func57, Tryz.ntmps57
      go_wp2_with fail
      go_ret
      exact ⟨by rw [HRF.out]; rfl, Fr.refl _ _⟩
    · have hd2 : decide (80 < (m.length : Int)) = false := decide_eq_false (by omega)
      go_enter Tryz.func57, Tryz.ntmps57
      go_wp2_with fail
      go_loopw [3] (RightRel w m) (fun iv _ => m.length - (intOf iv).toNat)
      case atStart => exact ⟨0, Nat.zero_le _, rfl, fun j hj => by omega, Fr.refl _ _⟩
      case round =>
        obtain ⟨k, hk, rfl, hall, hf⟩ := hrel
        have HA := Lib.hid hall
        have HF := Lib.hid hf
        clear hall hf
        by_cases hkn : k < m.length
        · have hd3 : decide (k < m.length) = true := decide_eq_true hkn
          obtain ⟨c, hc⟩ : ∃ c, c = m[k]'hkn := ⟨_, rfl⟩
          have hix := fun wx => run_index_str (P := Tryz.prog) wx 9 m (k : Int) k c Tryz.underlying9 rfl (by rw [hc, List.getElem?_eq_getElem])
          have HC := Lib.hid hc
          clear hc
          obtain ⟨n, hn⟩ : ∃ n, n = c.toNat := ⟨_, rfl⟩
          rw [← hn] at hix
          have HN := Lib.hid hn
          clear hn
          rcases (show (n < 45) ∨ (n = 45) ∨ (n = 46) ∨ (n = 47) ∨ (48 ≤ n ∧ n ≤ 57) ∨ (58 ≤ n ∧ n ≤ 96) ∨ (97 ≤ n ∧ n ≤ 122) ∨ (122 < n) by omega) with hw | hw | hw | hw | hw | hw | hw | hw
          · -- n < 45
            have q0 : decide (97 ≤ (n : Int)) = false := decide_eq_false (by omega)
            have q1 : decide ((n : Int) ≤ 122) = true := decide_eq_true (by omega)
            have q2 : decide (48 ≤ (n : Int)) = false := decide_eq_false (by omega)
            have q3 : decide ((n : Int) ≤ 57) = true := decide_eq_true (by omega)
            have r0 : ((n : Int) == 45) = false := by rw [beq_eq_false_iff_ne]; omega
            have r1 : ((n : Int) == 46) = false := by rw [beq_eq_false_iff_ne]; omega
            have ho : okByte c = false := by unfold okByte; rw [← HN.out]; simp; omega
            have HO := Lib.hid ho
            clear ho hw
            go_wp2_with fail
            go_ret
            exact ⟨by rw [HR.out, right_no hkn (by rw [← HC.out]; exact HO.out)]; rfl, HF.out⟩
          · -- n = 45
            have q0 : decide (97 ≤ (n : Int)) = false := decide_eq_false (by omega)
            have q1 : decide ((n : Int) ≤ 122) = true := decide_eq_true (by omega)
            have q2 : decide (48 ≤ (n : Int)) = false := decide_eq_false (by omega)
            have q3 : decide ((n : Int) ≤ 57) = true := decide_eq_true (by omega)
            have r0 : ((n : Int) == 45) = true := by rw [hw]; rfl
            have r1 : ((n : Int) == 46) = false := by rw [beq_eq_false_iff_ne]; omega
            have ho : okByte c = true := by unfold okByte; rw [← HN.out]; simp; omega
            have HO := Lib.hid ho
            clear ho hw
            go_wp2_with fail
            exact ⟨⟨k + 1, by omega, by go_num, right_next HA.out hkn (by rw [← HC.out]; exact HO.out), HF.out⟩, by simp [intOf]; omega⟩
          · -- n = 46
            have q0 : decide (97 ≤ (n : Int)) = false := decide_eq_false (by omega)
            have q1 : decide ((n : Int) ≤ 122) = true := decide_eq_true (by omega)
            have q2 : decide (48 ≤ (n : Int)) = false := decide_eq_false (by omega)
            have q3 : decide ((n : Int) ≤ 57) = true := decide_eq_true (by omega)
            have r0 : ((n : Int) == 45) = false := by rw [beq_eq_false_iff_ne]; omega
            have r1 : ((n : Int) == 46) = true := by rw [hw]; rfl
            have ho : okByte c = true := by unfold okByte; rw [← HN.out]; simp; omega
            have HO := Lib.hid ho
            clear ho hw
            go_wp2_with fail
            exact ⟨⟨k + 1, by omega, by go_num, right_next HA.out hkn (by rw [← HC.out]; exact HO.out), HF.out⟩, by simp [intOf]; omega⟩
          · -- n = 47
            have q0 : decide (97 ≤ (n : Int)) = false := decide_eq_false (by omega)
            have q1 : decide ((n : Int) ≤ 122) = true := decide_eq_true (by omega)
            have q2 : decide (48 ≤ (n : Int)) = false := decide_eq_false (by omega)
            have q3 : decide ((n : Int) ≤ 57) = true := decide_eq_true (by omega)
            have r0 : ((n : Int) == 45) = false := by rw [beq_eq_false_iff_ne]; omega
            have r1 : ((n : Int) == 46) = false := by rw [beq_eq_false_iff_ne]; omega
            have ho : okByte c = false := by unfold okByte; rw [← HN.out]; simp; omega
            have HO := Lib.hid ho
            clear ho hw
            go_wp2_with fail
            go_ret
            exact ⟨by rw [HR.out, right_no hkn (by rw [← HC.out]; exact HO.out)]; rfl, HF.out⟩
          · -- 48 ≤ n ∧ n ≤ 57
            have q0 : decide (97 ≤ (n : Int)) = false := decide_eq_false (by omega)
            have q1 : decide ((n : Int) ≤ 122) = true := decide_eq_true (by omega)
            have q2 : decide (48 ≤ (n : Int)) = true := decide_eq_true (by omega)
            have q3 : decide ((n : Int) ≤ 57) = true := decide_eq_true (by omega)
            have r0 : ((n : Int) == 45) = false := by rw [beq_eq_false_iff_ne]; omega
            have r1 : ((n : Int) == 46) = false := by rw [beq_eq_false_iff_ne]; omega
            have ho : okByte c = true := by unfold okByte; rw [← HN.out]; simp; omega
            have HO := Lib.hid ho
            clear ho hw
            go_wp2_with fail
            exact ⟨⟨k + 1, by omega, by go_num, right_next HA.out hkn (by rw [← HC.out]; exact HO.out), HF.out⟩, by simp [intOf]; omega⟩
          · -- 58 ≤ n ∧ n ≤ 96
            have q0 : decide (97 ≤ (n : Int)) = false := decide_eq_false (by omega)
            have q1 : decide ((n : Int) ≤ 122) = true := decide_eq_true (by omega)
            have q2 : decide (48 ≤ (n : Int)) = true := decide_eq_true (by omega)
            have q3 : decide ((n : Int) ≤ 57) = false := decide_eq_false (by omega)
            have r0 : ((n : Int) == 45) = false := by rw [beq_eq_false_iff_ne]; omega
            have r1 : ((n : Int) == 46) = false := by rw [beq_eq_false_iff_ne]; omega
            have ho : okByte c = false := by unfold okByte; rw [← HN.out]; simp; omega
            have HO := Lib.hid ho
            clear ho hw
            go_wp2_with fail
            go_ret
            exact ⟨by rw [HR.out, right_no hkn (by rw [← HC.out]; exact HO.out)]; rfl, HF.out⟩
          · -- 97 ≤ n ∧ n ≤ 122
            have q0 : decide (97 ≤ (n : Int)) = true := decide_eq_true (by omega)
            have q1 : decide ((n : Int) ≤ 122) = true := decide_eq_true (by omega)
            have q2 : decide (48 ≤ (n : Int)) = true := decide_eq_true (by omega)
            have q3 : decide ((n : Int) ≤ 57) = false := decide_eq_false (by omega)
            have r0 : ((n : Int) == 45) = false := by rw [beq_eq_false_iff_ne]; omega
            have r1 : ((n : Int) == 46) = false := by rw [beq_eq_false_iff_ne]; omega
            have ho : okByte c = true := by unfold okByte; rw [← HN.out]; simp; omega
            have HO := Lib.hid ho
            clear ho hw
            go_wp2_with fail
            exact ⟨⟨k + 1, by omega, by go_num, right_next HA.out hkn (by rw [← HC.out]; exact HO.out), HF.out⟩, by simp [intOf]; omega⟩
          · -- 122 < n
            have q0 : decide (97 ≤ (n : Int)) = true := decide_eq_true (by omega)
            have q1 : decide ((n : Int) ≤ 122) = false := decide_eq_false (by omega)
            have q2 : decide (48 ≤ (n : Int)) = true := decide_eq_true (by omega)
            have q3 : decide ((n : Int) ≤ 57) = false := decide_eq_false (by omega)
            have r0 : ((n : Int) == 45) = false := by rw [beq_eq_false_iff_ne]; omega
            have r1 : ((n : Int) == 46) = false := by rw [beq_eq_false_iff_ne]; omega
            have ho : okByte c = false := by unfold okByte; rw [← HN.out]; simp; omega
            have HO := Lib.hid ho
            clear ho hw
            go_wp2_with fail
            go_ret
            exact ⟨by rw [HR.out, right_no hkn (by rw [← HC.out]; exact HO.out)]; rfl, HF.out⟩
        · have hd3 : decide (k < m.length) = false := decide_eq_false hkn
          have HRT := Lib.hid (show R = true by rw [HR.out]; exact right_yes (by omega) (by omega) (fun j hj => HA.out j (by omega) hj))
          go_wp2_with fail
          go_ret
          exact ⟨by rw [HRT.out]; rfl, HF.out⟩
end Go.Proofs.YtmchnaojlnjmjaaGreat
