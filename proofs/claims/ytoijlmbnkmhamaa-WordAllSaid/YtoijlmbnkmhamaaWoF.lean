/- The laws of layer 18: awake. -/
import Derived.Test.YtoijlmbnkmhamaaWoE
namespace Go.Proofs.Ytoijlmbnkmhamaa
open Go.RowKit

theorem all22 : AllV 2 2 (wordsW 2 3) := by
  refine .inr ⟨by decide, by decide, by decide, some (wordsW 2 3), ⟨3, fun i hi => ?_, .inl ⟨?_, rfl⟩⟩, rfl⟩
  · unfold goesW
    match i, hi with
    | 0, _ => decide
    | 1, _ => decide
    | 2, _ => decide
  · unfold goesW
    decide
def AwA (w : World) (e : Ending) (w' : World) : Prop := ∃ b off c, e = .returned (.slice (some ⟨b, off, none⟩) 7 c) ∧ w'.cell? ⟨b, off, none⟩ = some (.string ⟨#[]⟩) ∧ w'.cell? ⟨b, off + 6, none⟩ = some (.string ⟨#[1, 1]⟩) ∧ 7 ≤ c ∧ c ≤ maxLen ∧ Fr [] w w'
theorem wall22 (w : World) : Calls Try.prog 12 #[.int .i64 2, .int .i64 2] w (AwA w) := by
  refine (wall_good 2 2 (by decide) w).mono ?_
  rintro e w' ⟨l, v, rfl, ha, hs, hf⟩
  obtain rfl := ha.one all22
  obtain ⟨a, c, rfl, h1, h2⟩ := hs.form
  have hl : (wordsW 2 3).length = 7 := by decide
  obtain ⟨b, off, rfl, h0⟩ := str_cell hs 0 (by rw [hl]; decide)
  obtain ⟨b', off', e, h6⟩ := str_cell hs 6 (by rw [hl]; decide)
  cases e
  rw [hl] at h1 ⊢
  exact ⟨b, off, c, rfl, h0, h6, h1, by simpa [maxLen] using h2, hf⟩
theorem wcat33 (q : Nat) (w : World) (h : strsAt w (.slice (some ⟨q, 0, none⟩) 2 2) [[97, 98], [99, 100]]) :
    Calls Try.prog 9 #[.int .i64 3, .slice (some ⟨q, 0, none⟩) 2 2] w fun e w' => e = .returned (.string ⟨#[97, 98, 99]⟩) ∧ Fr [] w w' :=
  wcat_any 3 (by decide) (by decide) [[97, 98], [99, 100]] (by decide) _ w h
theorem wtext11 (q : Nat) (w : World) (h : strsAt w (.slice (some ⟨q, 0, none⟩) 2 2) [[97], [98]]) :
    Calls Try.prog 14 #[.string ⟨#[1]⟩, .slice (some ⟨q, 0, none⟩) 2 2] w fun e w' => e = .returned (.string ⟨#[39, 98, 39]⟩) ∧ Fr [] w w' :=
  wtext_any [1] [[97], [98]] (by decide) (by decide) _ w h
theorem two_strs (w : World) (x y : List UInt8) (X Y : Array UInt8) (hX : X = x.toArray) (hY : Y = y.toArray) : strsAt (w.alloc (.cells #[.string ⟨X⟩, .string ⟨Y⟩] 9)) (.slice (some ⟨w.heap.size, 0, none⟩) 2 2) [x, y] := by
  subst hX hY
  exact cellsAt_new w [encStr x, encStr y] 9 2 rfl (by simp [maxLen])
set_option maxRecDepth 100000 in
set_option maxHeartbeats 2000000 in
theorem wawake_any (w : World) : Calls Try.prog 6 #[] w fun e w' => e = .returned (.bool true) ∧ Fr [] w w' := by
  go_enter Try.func6, Try.ntmps6
  go_wp2_with (first
    | (go_at_call 12; refine (wall22 _).mono ?_; rintro e w1 ⟨b, off, c, rfl, c0, c6, hc7, hcm, hf1⟩)
    | (go_at_call 9; refine (wcat33 _ _ (two_strs w1 [97, 98] [99, 100] _ _ rfl rfl)).mono ?_; rintro e w2 ⟨rfl, hf2⟩; have hf12 := (Fr.alloc w1 (.cells #[.string ⟨#[97, 98]⟩, .string ⟨#[99, 100]⟩] 9)).trans hf2 (by simp) (n := []) (by simp); have e0 := hf12.cell c0 (by simp); have e6 := hf12.cell c6 (by simp))
    | (go_at_call 14; refine (wtext11 _ _ (two_strs w2 [97] [98] _ _ rfl rfl)).mono ?_; rintro e w3 ⟨rfl, hf3⟩))
  go_ret
  exact ⟨rfl, (hf1.trans hf12 (by simp) (n := []) (by simp)).trans ((Fr.alloc w2 (.cells #[.string ⟨#[97]⟩, .string ⟨#[98]⟩] 9)).trans hf3 (by simp) (n := []) (by simp)) (by simp) (by simp)⟩
end Go.Proofs.Ytoijlmbnkmhamaa
