/- FrameOpens: Open returns the specified payload or error for any bytes. -/
import Derived.Test.YtijdffpekonklaaFraBurst
namespace Go.Proofs.Ytijdffpekonklaa
open Go.RowKit

set_option maxRecDepth 100000 in
theorem opens_no (bs : List UInt8) (y : Nat) (sv : Value) (w : World) (h : bytesAt w sv bs) (hl : ¬ 1000 < bs.length) (hy : whyF bs = y) (hy0 : 0 < y) :
    Calls Try.prog 4 #[sv] w fun e w' => e = .returned (.bool true) ∧ Fr [] w w' := by
  obtain ⟨a0, c0, rfl, hle, hmx⟩ := h.form
  simp only [maxLen] at hmx
  have hb1 : decide (1000 < (bs.length : Int)) = false := decide_eq_false (by omega)
  have hb2 : ((y : Int) == 0) = false := by rw [beq_eq_false_iff_ne]; omega
  have hb3 : ((y : Int) != 0) = true := by rw [bne_iff_ne]; omega
  have HO := Lib.hid (open_no bs y _ w h (by omega) hy hy0)
  have HR := Lib.hid (fun wx (hx : Fr [] w wx) => rfr_no bs y _ wx (h.below hx) (by omega) hy hy0)
  clear h hy hy0
  go_enter Try.func4, Try.ntmps4
  go_wp2_with (first
    | (go_at_call 11; refine HO.out.mono ?_; rintro e w1 ⟨rfl, hf1⟩; unfold no3)
    | (go_at_call 13; refine (HR.out _ hf1).mono ?_; rintro e w2 ⟨rfl, hf2⟩; unfold bad4)
    | (go_at_call 7; refine (awake_any _).mono ?_; rintro e w3 ⟨rfl, hf3⟩))
  go_ret
  exact ⟨rfl, (hf1.trans hf2 (by simp) (n := []) (by simp)).trans hf3 (by simp) (by simp)⟩
theorem endF_rest {bs : List UInt8} (h : whyF bs = 0) : endF bs + 4 ≤ bs.length ∧ (restF bs ≠ [] ↔ endF bs + 4 < bs.length) := by
  have := (whyF_ok h).2.1
  refine ⟨this, ?_⟩
  rw [restF, Ne, List.drop_eq_nil_iff]
  omega
set_option maxRecDepth 100000 in
theorem opens_more (bs : List UInt8) (sv : Value) (w : World) (h : bytesAt w sv bs) (hl : ¬ 1000 < bs.length) (hy : whyF bs = 0) (hr : restF bs ≠ []) :
    Calls Try.prog 4 #[sv] w fun e w' => e = .returned (.bool true) ∧ Fr [] w w' := by
  obtain ⟨a0, c0, rfl, hle, hmx⟩ := h.form
  simp only [maxLen] at hmx
  have hb1 : decide (1000 < (bs.length : Int)) = false := decide_eq_false (by omega)
  have hlt := (endF_rest hy).2.1 hr
  have HO := Lib.hid (open_more bs _ w h (by omega) hy hr)
  have HR := Lib.hid (fun wx (hx : Fr [] w wx) => rfr_yes bs _ wx (h.below hx) (by omega) hy)
  obtain ⟨f, hf⟩ : ∃ f, f = endF bs + 4 := ⟨_, rfl⟩
  unfold Front7 at HR
  rw [← hf] at HR hlt
  have hb2 : decide (f < bs.length) = true := decide_eq_true hlt
  clear h hy hr hf
  go_enter Try.func4, Try.ntmps4
  go_wp2_with (first
    | (go_at_call 11; refine HO.out.mono ?_; rintro e w1 ⟨rfl, hf1⟩; unfold no3)
    | (go_at_call 13; refine (HR.out _ hf1).mono ?_; rintro e w2 ⟨lv, rfl, -, hf2⟩)
    | (go_at_call 7; refine (awake_any _).mono ?_; rintro e w3 ⟨rfl, hf3⟩))
  go_ret
  exact ⟨rfl, (hf1.trans hf2 (by simp) (n := []) (by simp)).trans hf3 (by simp) (by simp)⟩
set_option maxRecDepth 100000 in
theorem opens_yes (bs : List UInt8) (sv : Value) (w : World) (h : bytesAt w sv bs) (hl : ¬ 1000 < bs.length) (hy : whyF bs = 0) (hr : restF bs = []) :
    Calls Try.prog 4 #[sv] w fun e w' => e = .returned (.bool true) ∧ Fr [] w w' := by
  obtain ⟨a0, c0, rfl, hle, hmx⟩ := h.form
  simp only [maxLen] at hmx
  have hb1 : decide (1000 < (bs.length : Int)) = false := decide_eq_false (by omega)
  have he := endF_rest hy
  have hlt : endF bs + 4 = bs.length := by
    have : ¬ endF bs + 4 < bs.length := fun q => he.2.2 q hr
    omega
  have HB := Lib.hid h
  have HO := Lib.hid (open_yes bs _ w h (by omega) hy hr)
  have HR := Lib.hid (fun wx (hx : Fr [] w wx) => rfr_yes bs _ wx (h.below hx) (by omega) hy)
  unfold Front7 at HR
  rw [hlt] at HR
  have hll := (found_seal hy).2
  have hse := whyF_left hy hr
  have HS := Lib.hid (fun lv wx (hx : bytesAt wx lv (loadF bs)) => ref_seal_any (kindF bs) (loadF bs) lv wx hx (by have := congrArg List.length hse; rw [sealF_length] at this; omega))
  rw [← hse] at HS
  obtain ⟨k, hk⟩ : ∃ k, k = kindF bs := ⟨_, rfl⟩
  obtain ⟨X, hX⟩ : ∃ X, X = loadF bs := ⟨_, rfl⟩
  rw [← hk, ← hX] at HO HR HS
  clear h hy hr he hlt hll hse hk hX
  go_enter Try.func4, Try.ntmps4
  go_wp2_with (first
    | (go_at_call 11; refine HO.out.mono ?_; rintro e w1 ⟨v1, rfl, hx1, hf1⟩; obtain ⟨a1, n1, c1, rfl⟩ := hx1.slice)
    | (go_at_call 13; refine (HR.out _ hf1).mono ?_; rintro e w2 ⟨v2, rfl, hx2, hf2⟩; obtain ⟨a2, n2, c2, rfl⟩ := hx2.slice))
  have HX1 := Lib.hid (hx1.below hf2)
  have HX2 := Lib.hid hx2
  have HF := Lib.hid (hf1.trans hf2 (by simp) (n := []) (by simp))
  clear hx1 hx2 hf1 hf2 HO HR
  refine wp_region_G [] [(0, false), (1, false), (2, false), (3, false), (4, false), (5, false), (6, false), (7, false), (8, false), (9, false), (10, false), (11, false), (12, false), (13, false), (14, false), (15, false), (16, false), (19, false), (20, false), (17, true), (18, false), (21, false), (22, false), (23, false), (24, true), (25, false), (26, false)] 92 rfl (by kernel_rfl) (by kernel_rfl) (by kernel_rfl) (fun c a d v w h => by cases d <;> exact h) (fun w3 hf3 => ?_)
  simp only [List.map_cons, List.map_nil, List.getElem?_toArray, List.getElem?_cons_succ, List.getElem?_cons_zero, Option.getD_some]
  have HA := Lib.hid (show Later [] w3 _ from Later.conv (P := Try.prog) (HX1.out.below hf3) (by simp) 22 5 9 Try.underlying22 Try.underlying5 Try.underlying9)
  have HBB := Lib.hid (show Later [] w3 _ from Later.conv (P := Try.prog) (HX2.out.below hf3) (by simp) 22 5 9 Try.underlying22 Try.underlying5 Try.underlying9)
  have HC := Lib.hid (show Later [] w3 _ from Later.conv (P := Try.prog) ((HB.out.below HF.out).below hf3) (by simp) 22 5 9 Try.underlying22 Try.underlying5 Try.underlying9)
  repeat (apply wpG_t; · (intro w' hf'; have c1 := HA.out w' hf'; have c2 := HBB.out w' hf'; have c3 := HC.out w' hf'; go_wp2_with fail; exact ⟨rfl, rfl⟩))
  refine wpG_x ?_
  go_wp2_with (go_at_call 9; refine (HS.out _ _ (HX2.out.below hf3)).mono ?_; rintro e w4 ⟨v4, rfl, hown4, hf4⟩)
  refine ⟨hf4, rfl, ?_⟩
  have HD := Lib.hid (show Later [] w4 _ from Later.conv (P := Try.prog) (bytesAt_of_owns hown4) (by simp) 22 5 9 Try.underlying22 Try.underlying5 Try.underlying9)
  repeat (apply wpG_t; · (intro w' hf'; have c1 := HD.out w' hf'; go_wp2_with fail; exact ⟨rfl, rfl⟩))
  refine wpG_x ?_
  go_wp2_with (go_at_call 7; refine (awake_any _).mono ?_; rintro e w6 ⟨rfl, hf6⟩)
  refine ⟨hf6, rfl, ?_⟩
  repeat (apply wpG_t; · (intro w' hf'; go_wp2_with fail; exact ⟨rfl, rfl⟩))
  refine wpG_end ?_
  go_wp2_with fail
  go_ret
  exact ⟨rfl, ((HF.out.trans hf3 (by simp) (n := []) (by simp)).trans hf4 (by simp) (n := []) (by simp)).trans hf6 (by simp) (by simp)⟩
theorem opens_any (bs : List UInt8) (sv : Value) (w : World) (h : bytesAt w sv bs) :
    Calls Try.prog 4 #[sv] w fun e w' => e = .returned (.bool true) ∧ Fr [] w w' := by
  by_cases hl : 1000 < bs.length
  · obtain ⟨a0, c0, rfl, hle, hmx⟩ := h.form
    simp only [maxLen] at hmx
    have hb1 : decide (1000 < (bs.length : Int)) = true := decide_eq_true (by omega)
    clear h
    go_enter Try.func4, Try.ntmps4
    go_wp2_with (go_at_call 7; refine (awake_any _).mono ?_; rintro e w' ⟨rfl, hf⟩)
    go_ret
    exact ⟨rfl, hf⟩
  · by_cases hy : whyF bs = 0
    · by_cases hr : restF bs = []
      · exact opens_yes bs sv w h hl hy hr
      · exact opens_more bs sv w h hl hy hr
    · exact opens_no bs _ sv w h hl rfl (by omega)
end Go.Proofs.Ytijdffpekonklaa
