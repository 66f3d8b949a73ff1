/- What the statements of layer 6 call beside seven: awake. -/
import Derived.Test.YtjddagkjgkdbkaaSevG
namespace Go.Proofs.Ytjddagkjgkdbkaa
open Go.RowKit

theorem ref_unpack_yes (b : List UInt8) (sv : Value) (w : World) (h : bytesAt w sv b) (hl : b.length ≤ 1000000) (hok : okU b = true) :
    Calls Try.prog 12 #[sv] w (Unpack2 w (unpackOf b)) :=
  (ref_unpack_any b sv w h hl).mono fun e w' ⟨h, hf⟩ => by
    rcases h with ⟨_, h⟩ | ⟨h, _⟩
    · exact ⟨h, hf⟩
    · rw [hok] at h; cases h
theorem ref_unpack_no (b : List UInt8) (sv : Value) (w : World) (h : bytesAt w sv b) (hl : b.length ≤ 1000000) (hok : okU b = false) :
    Calls Try.prog 12 #[sv] w fun e w' => e = .returned (.tuple #[.slice none 0 0, .bool false]) ∧ Fr [] w w' :=
  (ref_unpack_any b sv w h hl).mono fun e w' ⟨h, hf⟩ => by
    rcases h with ⟨h, _⟩ | ⟨_, h⟩
    · rw [hok] at h; cases h
    · exact ⟨h, hf⟩
theorem sev_ex1 : okU [129, 128] = true := by decide +kernel
theorem sev_ex2 : unpackOf [129, 128] = [1] := by decide +kernel
theorem sev_ex3 : packOf ([[255]] : List (List UInt8)).flatten = [255, 129] := by decide +kernel
theorem sev_ex4 : wholeB [129, 0] = false := by decide +kernel
set_option maxRecDepth 100000 in
theorem awake_any (w : World) :
    Calls Try.prog 6 #[] w fun e w' => e = .returned (.bool true) ∧ Fr [] w w' := by
  have hb1 := bytesAt_new w [129, 128] 5 2 rfl (by simp [maxLen]) _ rfl
  have H1 := Lib.hid (unpack_yes [129, 128] _ _ hb1 (by decide) sev_ex1)
  rw [sev_ex2] at H1
  clear hb1
  go_enter Try.func6, Try.ntmps6
  go_wp2_with (go_at_call 8; refine H1.out.mono ?_; rintro e w1 ⟨⟨v, rfl, hb⟩, hf1⟩; obtain ⟨a1, c1, rfl, hle1, hmx1⟩ := hb.form)
  have hb2 := bytesAt_new w1 [255] 5 1 rfl (by simp [maxLen]) _ rfl
  have hp2 := partsAt_new1 _ _ _ 22 hb2
  rw [World.size_alloc] at hp2
  refine (pack_any [[255]] _ _ hp2 (by decide)).mono ?_
  rintro e w2 ⟨v2, rfl, hb3, hf2⟩
  rw [sev_ex3] at hb3
  have hf12 : Fr [] w1 w2 := (((Fr.alloc w1 _).trans (Fr.alloc _ _) (by simp) (n := []) (by simp)).trans hf2 (by simp) (by simp))
  have hcv := run_conv_bytes (P := Try.prog) hb3 22 5 9 Try.underlying22 Try.underlying5 Try.underlying9
  obtain ⟨b, off, rfl, hcell0⟩ := byteAt (hb.below hf12) 0 (by decide)
  have hcell : w2.cell? ⟨b, off, none⟩ = some (.int .u8 1) := hcell0
  clear hcell0
  have hw := Lib.hid (whole_any [129, 0] _ _ (bytesAt_new w2 [129, 0] 5 2 rfl (by simp [maxLen]) _ rfl))
  rw [sev_ex4] at hw
  have hf02 : Fr [] w w2 := ((Fr.alloc w _).trans hf1 (by simp) (n := []) (by simp)).trans hf12 (by simp) (by simp)
  clear hb hb2 hp2 hb3 hf1 hf2 hf12
  go_wp2_with (go_at_call 11; refine hw.out.mono ?_; rintro e w3 ⟨rfl, rfl⟩)
  go_ret
  exact ⟨rfl, hf02.trans (Fr.alloc _ _) (by simp) (by simp)⟩
end Go.Proofs.Ytjddagkjgkdbkaa
