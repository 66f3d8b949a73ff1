/- The program's lexer (layer 12): run. Written by wip/tools/gen_lk.py. -/
import Derived.Test.YtcmgnhjffhaajaaLexJ
import Derived.Test.YtcmgnhjffhaajaaLexCs
import Derived.Test.YtcmgnhjffhaajaaLexBl
import Derived.LoopTactic
namespace Go.Proofs.Ytcmgnhjffhaajaa
open Go.RowKit

theorem run_zero {p : UInt8 → Bool} {m : List UInt8} {k : Nat} (h2 : k ≤ m.length) (hall : ∀ j, 0 ≤ j → j < k → ∀ h : j < m.length, p (m[j]'h) = true) (hend : ∀ h : k < m.length, p (m[k]'h) = false) : (m.takeWhile p).length = k := by
  have := run_at (a := 0) (Nat.zero_le _) h2 hall hend
  rw [List.drop_zero, List.drop_zero] at this
  rw [this, List.length_take]
  omega
theorem takeWhile_le (p : UInt8 → Bool) (m : List UInt8) : (m.takeWhile p).length ≤ m.length := (List.takeWhile_prefix p (l := m)).length_le
theorem takeWhile_full {p : UInt8 → Bool} : ∀ {m : List UInt8}, (m.takeWhile p).length = m.length ↔ m.all p = true
  | [] => by simp
  | c :: t => by
    rw [List.takeWhile_cons, List.all_cons]
    cases h : p c with
    | false => simp
    | true => simpa using takeWhile_full (m := t)
def moreV : Value := .func (.func 45) #[] #[]
set_option maxRecDepth 100000 in
set_option maxHeartbeats 1000000 in
theorem prun_more (m : List UInt8) (hm : m.length ≤ maxLen) (w : World) : Calls Try.prog 63 #[encStr m, moreV] w fun e w' => e = .returned (.int .i64 ((m.takeWhile moreB).length : Int)) ∧ w = w' := by
  have hm' : m.length ≤ 9223372036854775807 := by simpa [maxLen] using hm
  obtain ⟨R, hR⟩ : ∃ R, R = (m.takeWhile moreB).length := ⟨_, rfl⟩
  rw [← hR]
  have HR := Lib.hid hR
  unfold moreV
  clear hR hm
  go_enter Try.func63, Try.ntmps63
  go_wp2_with fail
  go_loopw [8] (RunRel moreB w m 0) (fun iv _ => m.length - (intOf iv).toNat)
  case atStart => exact ⟨0, Nat.le_refl _, Nat.zero_le _, rfl, fun j _ hj => by omega, rfl⟩
  case round =>
    obtain ⟨k, -, hk, rfl, hall, rfl⟩ := hrel
    have HA := Lib.hid hall
    clear hall
    by_cases hkn : k < m.length
    · have hd3 : decide (k < m.length) = true := decide_eq_true hkn
      obtain ⟨d, hd⟩ : ∃ d, d = m[k]'hkn := ⟨_, rfl⟩
      have hix := fun wx => run_index_str (P := Try.prog) wx 9 m (k : Int) k d Try.underlying9 rfl (by rw [hd, List.getElem?_eq_getElem])
      have HC := Lib.hid hd
      have hin := pmore_any d
      clear hd
      cases ho : moreB d with
      | false =>
        rw [ho] at hin
        have HI := Lib.hid hin
        have HO := Lib.hid ho
        clear ho hin
        go_wp2_with (go_at_call 45; refine (HI.out _).mono ?_; rintro e w1 ⟨rfl, rfl⟩)
        go_ret
        exact ⟨by rw [HR.out, run_zero (k := k) (by omega) HA.out (fun h => by rw [← HC.out]; exact HO.out)]; rfl, rfl⟩
      | true =>
        rw [ho] at hin
        have HI := Lib.hid hin
        have HO := Lib.hid ho
        clear ho hin
        go_wp2_with (go_at_call 45; refine (HI.out _).mono ?_; rintro e w1 ⟨rfl, rfl⟩)
        exact ⟨⟨k + 1, by omega, by omega, by go_num, run_next HA.out hkn (by rw [← HC.out]; exact HO.out), rfl⟩, by simp [intOf]; omega⟩
    · have hd3 : decide (k < m.length) = false := decide_eq_false hkn
      have HRT := Lib.hid (show R = m.length by rw [HR.out, run_zero (k := m.length) (Nat.le_refl _) (fun j h1 h2 h => HA.out j h1 (by omega) h) (fun h => absurd h (Nat.lt_irrefl _))])
      go_wp2_with fail
      go_ret
      exact ⟨by rw [HRT.out]; rfl, rfl⟩
def termV : Value := .func (.func 46) #[] #[]
set_option maxRecDepth 100000 in
set_option maxHeartbeats 1000000 in
theorem prun_term (m : List UInt8) (hm : m.length ≤ maxLen) (w : World) : Calls Try.prog 63 #[encStr m, termV] w fun e w' => e = .returned (.int .i64 ((m.takeWhile termC).length : Int)) ∧ w = w' := by
  have hm' : m.length ≤ 9223372036854775807 := by simpa [maxLen] using hm
  obtain ⟨R, hR⟩ : ∃ R, R = (m.takeWhile termC).length := ⟨_, rfl⟩
  rw [← hR]
  have HR := Lib.hid hR
  unfold termV
  clear hR hm
  go_enter Try.func63, Try.ntmps63
  go_wp2_with fail
  go_loopw [8] (RunRel termC w m 0) (fun iv _ => m.length - (intOf iv).toNat)
  case atStart => exact ⟨0, Nat.le_refl _, Nat.zero_le _, rfl, fun j _ hj => by omega, rfl⟩
  case round =>
    obtain ⟨k, -, hk, rfl, hall, rfl⟩ := hrel
    have HA := Lib.hid hall
    clear hall
    by_cases hkn : k < m.length
    · have hd3 : decide (k < m.length) = true := decide_eq_true hkn
      obtain ⟨d, hd⟩ : ∃ d, d = m[k]'hkn := ⟨_, rfl⟩
      have hix := fun wx => run_index_str (P := Try.prog) wx 9 m (k : Int) k d Try.underlying9 rfl (by rw [hd, List.getElem?_eq_getElem])
      have HC := Lib.hid hd
      have hin := pterm_any d
      clear hd
      cases ho : termC d with
      | false =>
        rw [ho] at hin
        have HI := Lib.hid hin
        have HO := Lib.hid ho
        clear ho hin
        go_wp2_with (go_at_call 46; refine (HI.out _).mono ?_; rintro e w1 ⟨rfl, rfl⟩)
        go_ret
        exact ⟨by rw [HR.out, run_zero (k := k) (by omega) HA.out (fun h => by rw [← HC.out]; exact HO.out)]; rfl, rfl⟩
      | true =>
        rw [ho] at hin
        have HI := Lib.hid hin
        have HO := Lib.hid ho
        clear ho hin
        go_wp2_with (go_at_call 46; refine (HI.out _).mono ?_; rintro e w1 ⟨rfl, rfl⟩)
        exact ⟨⟨k + 1, by omega, by omega, by go_num, run_next HA.out hkn (by rw [← HC.out]; exact HO.out), rfl⟩, by simp [intOf]; omega⟩
    · have hd3 : decide (k < m.length) = false := decide_eq_false hkn
      have HRT := Lib.hid (show R = m.length by rw [HR.out, run_zero (k := m.length) (Nat.le_refl _) (fun j h1 h2 h => HA.out j h1 (by omega) h) (fun h => absurd h (Nat.lt_irrefl _))])
      go_wp2_with fail
      go_ret
      exact ⟨by rw [HRT.out]; rfl, rfl⟩
end Go.Proofs.Ytcmgnhjffhaajaa
