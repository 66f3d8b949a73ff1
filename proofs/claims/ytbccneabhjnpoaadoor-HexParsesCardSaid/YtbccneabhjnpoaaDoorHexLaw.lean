/- What the statements of layer 5 call beside hex: awake and digit. -/
import Derived.Test.YtbccneabhjnpoaaDoorHexC
namespace Go.Proofs.YtbccneabhjnpoaaDoor
open Go.RowKit

theorem digit_any (v : Nat) (w : World) (hv : v < 16) :
    Calls Tryd.prog 6 #[.int .i64 v] w fun e w' => e = .returned (.string ⟨#[hxd v]⟩) ∧ w = w' := by
  have hx : ∀ v, v < 16 → ((⟨dk.toArray⟩ : ByteArray).extract v (v + 1)) = ⟨#[hxd v]⟩ := by decide +kernel
  have HX := Lib.hid (hx v hv)
  clear hx
  go_enter Tryd.func6, Tryd.ntmps6
  go_wp2_with fail
  go_ret
  refine ⟨?_, rfl⟩
  trace_state
  exact congrArg (fun x => Ending.returned (.string x)) HX.out

theorem unhex_ex : unhex [48, 48, 97, 98] = [0, 171] := by decide +kernel
theorem good_ex : goodD [48, 48, 97, 98] = true := by decide +kernel
theorem good_ex2 : goodD [48, 48, 65, 66] = false := by decide +kernel
theorem good_ex3 : goodD [48, 48, 97] = false := by decide +kernel
theorem hex_ex : hexOf [0, 171] = [48, 48, 97, 98] := by decide +kernel
set_option maxRecDepth 100000 in
theorem awake_any (w : World) (hr : digsAt w) :
    Calls Tryd.prog 5 #[] w fun e w' => e = .returned (.bool true) ∧ Fr [] w w' := by
  go_enter Tryd.func5, Tryd.ntmps5
  go_wp2_with (go_at_call 7; refine (parse_yes [48, 48, 97, 98] _ hr (by simp) good_ex).mono ?_; rintro e w1 ⟨⟨v, rfl, hb⟩, hf⟩; rw [unhex_ex] at hb)
  have hb1 := bytesAt_new w1 [0, 171] 5 2 rfl (by simp [maxLen]) _ rfl
  have hf2 : Fr [] w (w1.alloc (.cells (cellsB [0, 171]).toArray 5)) := hf.trans (Fr.alloc _ _) (by simp) (by simp)
  refine (text_any [0, 171] _ _ hb1 (hr.below hf2) (by simp)).mono ?_
  rintro e w3 ⟨rfl, hf3⟩
  rw [hex_ex]
  have hf13 : Fr [] w w3 := hf2.trans hf3 (by simp) (by simp)
  have hb3 : bytesAt w3 v [0, 171] := hb.below (((Fr.alloc _ _ : Fr [] w1 _)).trans hf3 (by simp) (by simp))
  have hcv := run_conv_bytes (P := Tryd.prog) hb3 22 5 9 Tryd.underlying22 Tryd.underlying5 Tryd.underlying9
  have H2 := Lib.hid (is_any [48, 48, 65, 66] w3 (hr.below hf13) (by simp))
  have H3 := Lib.hid (fun w4 (hf4 : Fr [] w w4) => is_any [48, 48, 97] w4 (hr.below hf4) (by simp))
  rw [good_ex2] at H2
  rw [good_ex3] at H3
  clear hb1 hf2 hb3
  go_wp2_with (first
    | (go_at_call 9; with_reducible refine H2.out.mono ?_; rintro e w4 ⟨rfl, hf4⟩; have hf14 : Fr [] w w4 := hf13.trans hf4 (by simp) (by simp))
    | (go_at_call 9; with_reducible refine (H3.out w4 hf14).mono ?_; rintro e w5 ⟨rfl, hf5⟩))
  go_ret
  exact ⟨rfl, hf14.trans hf5 (by simp) (by simp)⟩
end Go.Proofs.YtbccneabhjnpoaaDoor
