/- The program's sets of words (layer 19): Has, Same, Is. -/
import Derived.Test.YtmcekpgmebanaaaWlD
import Derived.Test.YtmcekpgmebanaaaBaW
import Derived.Test.YtmcekpgmebanaaaWlEq
set_option linter.unusedVariables false
set_option linter.unusedSimpArgs false
namespace Go.Proofs.Ytmcekpgmebanaaa
open Go.RowKit Go.Maps Go.Sort
set_option maxRecDepth 100000 in
theorem pcontains (l : Words) (x : List UInt8) (v : Value) (w : World) (h : strsAt w v l) : Calls Try.prog 28 #[v, encStr x] w fun e w' => e = .returned (.bool (decide (x ∈ l))) ∧ w' = w := by
  rcases strs_cases h with ⟨a, c, rfl, rfl⟩ | ⟨b, off, c, rfl, hl, hc⟩
  · exact Try.slices_Contains_string_empty a c (baW x) w
  · have := Try.slices_Contains_string b off l.length c (l.map baW) (baW x) w (by simp) hl hc
    rw [List.take_of_length_le (by simp)] at this
    have e : Lib.containsS (l.map baW) (baW x) = decide (x ∈ l) := by
      rw [Bool.eq_iff_iff, Lib.containsS_iff, baW_mem, decide_eq_true_eq]
    rw [e] at this
    exact this
set_option maxRecDepth 100000 in
theorem prog_whas : ProgWHas := by
  intro l x v w h
  have HC := Lib.hid (pcontains l x v w h)
  obtain ⟨a0, c0, rfl, -, -⟩ := h.form
  obtain ⟨r, hr⟩ : ∃ r, r = decide (x ∈ l) := ⟨_, rfl⟩
  rw [← hr] at HC ⊢
  clear h hr
  go_enter Try.func15, Try.ntmps15
  go_wp2_with (go_at_call 28; refine HC.out.mono ?_; rintro e w1 ⟨rfl, rfl⟩)
  go_ret
  exact ⟨rfl, Fr.refl _ _⟩
set_option maxRecDepth 100000 in
theorem prog_wsame : ProgWSame := by
  intro l m v u w h k
  have HC := Lib.hid (pequal l m v u w h k)
  obtain ⟨a0, c0, rfl, -, -⟩ := h.form
  obtain ⟨a1, c1, rfl, -, -⟩ := k.form
  obtain ⟨r, hr⟩ : ∃ r, r = decide (l = m) := ⟨_, rfl⟩
  rw [← hr] at HC ⊢
  clear h k hr
  go_enter Try.func17, Try.ntmps17
  go_wp2_with (go_at_call 29; refine HC.out.mono ?_; rintro e w1 ⟨rfl, hf⟩)
  go_ret
  exact ⟨rfl, hf⟩
end Go.Proofs.Ytmcekpgmebanaaa
