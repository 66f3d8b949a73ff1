/- The program's lexer (layer 12): fits. -/
import Derived.Test.YtcmgnhjffhaajaaLexK
namespace Go.Proofs.Ytcmgnhjffhaajaa
open Go.RowKit

set_option maxRecDepth 100000 in
set_option maxHeartbeats 1000000 in
theorem pfits_more (m : List UInt8) (hm : m.length ≤ maxLen) (w : World) : Calls Try.prog 44 #[encStr m, moreV] w fun e w' => e = .returned (.bool (decide (m.length ≤ 32) && m.all moreB)) ∧ w = w' := by
  have hm' : m.length ≤ 9223372036854775807 := by simpa [maxLen] using hm
  have hr := prun_more m hm
  obtain ⟨n, hn⟩ : ∃ n, n = (m.takeWhile moreB).length := ⟨_, rfl⟩
  rw [← hn] at hr
  have HR := Lib.hid hr
  obtain ⟨fv, hfv⟩ : ∃ fv, fv = moreV := ⟨_, rfl⟩
  rw [← hfv] at HR ⊢
  clear hr hm hfv
  by_cases h1 : m.length ≤ 32
  · have hd1 : decide ((m.length : Int) ≤ 32) = true := decide_eq_true (by omega)
    by_cases h2 : n = m.length
    · have hd2 : decide (n = m.length) = true := decide_eq_true h2
      have hd3 : ((n : Int) == (m.length : Int)) = true := by rw [h2]; simp
      have hd4 : (n == m.length) = true := by rw [h2]; simp
      rw [show (decide (m.length ≤ 32) && m.all moreB) = true by rw [decide_eq_true h1, takeWhile_full.1 (hn ▸ h2)]; rfl]
      have HH := Lib.hid h2
      clear h1 h2 hn
      go_enter Try.func44, Try.ntmps44
      go_wp2_with (go_at_call 63; refine (HR.out _).mono ?_; rintro e w1 ⟨rfl, rfl⟩)
      go_ret
      exact ⟨rfl, rfl⟩
    · have hd2 : decide (n = m.length) = false := decide_eq_false h2
      have hd3 : ((n : Int) == (m.length : Int)) = false := by rw [beq_eq_false_iff_ne]; omega
      have hd4 : (n == m.length) = false := by rw [beq_eq_false_iff_ne]; exact h2
      rw [show (decide (m.length ≤ 32) && m.all moreB) = false by
        cases hq : m.all moreB with
        | false => simp
        | true => exact absurd (hn.trans (takeWhile_full.2 hq)) h2]
      have HH := Lib.hid h2
      clear h1 h2 hn
      go_enter Try.func44, Try.ntmps44
      go_wp2_with (go_at_call 63; refine (HR.out _).mono ?_; rintro e w1 ⟨rfl, rfl⟩)
      go_ret
      exact ⟨rfl, rfl⟩
  · have hd1 : decide ((m.length : Int) ≤ 32) = false := decide_eq_false (by omega)
    rw [show (decide (m.length ≤ 32) && m.all moreB) = false by rw [decide_eq_false h1]; rfl]
    clear h1 hn
    go_enter Try.func44, Try.ntmps44
    go_wp2_with fail
    go_ret
    exact ⟨rfl, rfl⟩
set_option maxRecDepth 100000 in
set_option maxHeartbeats 1000000 in
theorem pfits_term (m : List UInt8) (hm : m.length ≤ maxLen) (w : World) : Calls Try.prog 44 #[encStr m, termV] w fun e w' => e = .returned (.bool (decide (m.length ≤ 32) && m.all termC)) ∧ w = w' := by
  have hm' : m.length ≤ 9223372036854775807 := by simpa [maxLen] using hm
  have hr := prun_term m hm
  obtain ⟨n, hn⟩ : ∃ n, n = (m.takeWhile termC).length := ⟨_, rfl⟩
  rw [← hn] at hr
  have HR := Lib.hid hr
  obtain ⟨fv, hfv⟩ : ∃ fv, fv = termV := ⟨_, rfl⟩
  rw [← hfv] at HR ⊢
  clear hr hm hfv
  by_cases h1 : m.length ≤ 32
  · have hd1 : decide ((m.length : Int) ≤ 32) = true := decide_eq_true (by omega)
    by_cases h2 : n = m.length
    · have hd2 : decide (n = m.length) = true := decide_eq_true h2
      have hd3 : ((n : Int) == (m.length : Int)) = true := by rw [h2]; simp
      have hd4 : (n == m.length) = true := by rw [h2]; simp
      rw [show (decide (m.length ≤ 32) && m.all termC) = true by rw [decide_eq_true h1, takeWhile_full.1 (hn ▸ h2)]; rfl]
      have HH := Lib.hid h2
      clear h1 h2 hn
      go_enter Try.func44, Try.ntmps44
      go_wp2_with (go_at_call 63; refine (HR.out _).mono ?_; rintro e w1 ⟨rfl, rfl⟩)
      go_ret
      exact ⟨rfl, rfl⟩
    · have hd2 : decide (n = m.length) = false := decide_eq_false h2
      have hd3 : ((n : Int) == (m.length : Int)) = false := by rw [beq_eq_false_iff_ne]; omega
      have hd4 : (n == m.length) = false := by rw [beq_eq_false_iff_ne]; exact h2
      rw [show (decide (m.length ≤ 32) && m.all termC) = false by
        cases hq : m.all termC with
        | false => simp
        | true => exact absurd (hn.trans (takeWhile_full.2 hq)) h2]
      have HH := Lib.hid h2
      clear h1 h2 hn
      go_enter Try.func44, Try.ntmps44
      go_wp2_with (go_at_call 63; refine (HR.out _).mono ?_; rintro e w1 ⟨rfl, rfl⟩)
      go_ret
      exact ⟨rfl, rfl⟩
  · have hd1 : decide ((m.length : Int) ≤ 32) = false := decide_eq_false (by omega)
    rw [show (decide (m.length ≤ 32) && m.all termC) = false by rw [decide_eq_false h1]; rfl]
    clear h1 hn
    go_enter Try.func44, Try.ntmps44
    go_wp2_with fail
    go_ret
    exact ⟨rfl, rfl⟩
end Go.Proofs.Ytcmgnhjffhaajaa
