/- The program's lexer (layer 12): IsName, IsTerm. -/
import Derived.Test.YtcmgnhjffhaajaaLexKf
import Derived.Test.YtcmgnhjffhaajaaLexHs
namespace Go.Proofs.Ytcmgnhjffhaajaa
open Go.RowKit

set_option maxRecDepth 100000 in
set_option maxHeartbeats 1000000 in
theorem pname_any (m : List UInt8) (hm : m.length ≤ maxLen) (w : World) : Calls Try.prog 23 #[encStr m] w fun e w' => e = .returned (.bool (nameB m)) ∧ Fr [] w w' := by
  cases m with
  | nil =>
    go_enter Try.func23, Try.ntmps23
    go_wp2_with fail
    go_ret
    exact ⟨rfl, Fr.refl _ _⟩
  | cons c t =>
    have hf := pfits_more (c :: t) hm
    have hix := fun wx => run_index_str (P := Try.prog) wx 9 (c :: t) 0 0 c Try.underlying9 rfl rfl
    have hle := pletter_any c
    have hnb : nameB (c :: t) = (letterB c && (decide ((c :: t).length ≤ 32) && (c :: t).all moreB)) := by
      show (decide (1 ≤ (c :: t).length ∧ (c :: t).length ≤ 32) && letterB c && (c :: t).all moreB) = _
      rw [show decide (1 ≤ (c :: t).length ∧ (c :: t).length ≤ 32) = decide ((c :: t).length ≤ 32) by simp]
      cases letterB c <;> simp
    obtain ⟨R, hR⟩ : ∃ R, R = nameB (c :: t) := ⟨_, rfl⟩
    rw [← hR] at hnb ⊢
    obtain ⟨b, hb⟩ : ∃ b, b = (decide ((c :: t).length ≤ 32) && (c :: t).all moreB) := ⟨_, rfl⟩
    rw [← hb] at hnb hf
    have hne : (c :: t).isEmpty = false := rfl
    obtain ⟨l, hl⟩ : ∃ l, l = letterB c := ⟨_, rfl⟩
    rw [← hl] at hnb hle
    have HF := Lib.hid hf
    have HLE := Lib.hid hle
    have HNB := Lib.hid hnb
    obtain ⟨m, hmm⟩ : ∃ m, m = c :: t := ⟨_, rfl⟩
    rw [← hmm] at HF hix hne ⊢
    clear hf hle hnb hR hb hl hmm hm
    unfold moreV at HF
    cases l with
    | false =>
      go_enter Try.func23, Try.ntmps23
      go_wp2_with (first | (go_at_call 43; refine (HLE.out _).mono ?_; rintro e w1 ⟨rfl, rfl⟩))
      go_ret
      exact ⟨by rw [HNB.out]; rfl, Fr.refl _ _⟩
    | true =>
      go_enter Try.func23, Try.ntmps23
      go_wp2_with (first | (go_at_call 43; refine (HLE.out _).mono ?_; rintro e w1 ⟨rfl, rfl⟩) | (go_at_call 44; refine (HF.out _).mono ?_; rintro e w1 ⟨rfl, rfl⟩))
      go_ret
      exact ⟨by rw [HNB.out]; rfl, Fr.refl _ _⟩
set_option maxRecDepth 100000 in
set_option maxHeartbeats 1000000 in
theorem pisterm_any (m : List UInt8) (hm : m.length ≤ maxLen) (w : World) : Calls Try.prog 24 #[encStr m] w fun e w' => e = .returned (.bool (termB m)) ∧ Fr [] w w' := by
  cases m with
  | nil =>
    go_enter Try.func24, Try.ntmps24
    go_wp2_with fail
    go_ret
    exact ⟨rfl, Fr.refl _ _⟩
  | cons c t =>
    have hf := pfits_term (c :: t) hm
    have hnb : termB (c :: t) = (decide ((c :: t).length ≤ 32) && (c :: t).all termC) := by
      unfold termB
      simp
    obtain ⟨R, hR⟩ : ∃ R, R = termB (c :: t) := ⟨_, rfl⟩
    rw [← hR] at hnb ⊢
    have hne : (c :: t).isEmpty = false := rfl
    rw [← hnb] at hf
    have HF := Lib.hid hf
    obtain ⟨m, hmm⟩ : ∃ m, m = c :: t := ⟨_, rfl⟩
    rw [← hmm] at HF hne ⊢
    clear hf hnb hR hmm hm
    unfold termV at HF
    go_enter Try.func24, Try.ntmps24
    go_wp2_with (go_at_call 44; refine (HF.out _).mono ?_; rintro e w1 ⟨rfl, rfl⟩)
    go_ret
    exact ⟨rfl, Fr.refl _ _⟩
theorem prog_is : ProgIs := ⟨fun m w hm => pname_any m hm w, fun m w hm => pisterm_any m hm w⟩
end Go.Proofs.Ytcmgnhjffhaajaa
