/- FrameSeals: Seal and Len return the specified results, and Open restores the payload. -/
import Derived.Test.YtijdffpekonklaaFraBurst
namespace Go.Proofs.Ytijdffpekonklaa
open Go.RowKit

set_option maxRecDepth 100000 in
theorem seals_in (k : UInt8) (load : List UInt8) (n : Int) (sv : Value) (w : World) (h : bytesAt w sv load) (hl : ¬ 1000 < load.length) (hn : -9223372036854775808 ≤ n ∧ n ≤ 9223372036854775807)
    (hin : (∃ m : Nat, n = m ∧ m ≤ 1048576) ∨ n < 0 ∨ 1048576 < n) :
    Calls Try.prog 3 #[.int .u8 (k.toNat : Int), sv, .int .i64 n] w fun e w' => e = .returned (.bool true) ∧ Fr [] w w' := by
  obtain ⟨a0, c0, rfl, hle, hmx⟩ := h.form
  simp only [maxLen] at hmx
  have hb1 : decide (1000 < (load.length : Int)) = false := decide_eq_false (by omega)
  have HB := Lib.hid h
  have HS := Lib.hid (seal_any k load _ w h (by omega))
  have HR := Lib.hid (fun wx (hx : Fr [] w wx) => ref_seal_any k load _ wx (h.below hx) (by omega))
  have HL := Lib.hid (fun wx => flen_yes load.length wx (by omega))
  rw [← sealF_length k] at HL
  have HO := Lib.hid (fun sx wx (hx : bytesAt wx sx (sealF k load)) => open_seal k load sx wx hx (by omega))
  have hsl := seal_len k load (by omega)
  obtain ⟨X, hX⟩ : ∃ X, X = sealF k load := ⟨_, rfl⟩
  rw [← hX] at HS HR HL HO hsl
  clear h hX
  go_enter Try.func3, Try.ntmps3
  go_wp2_with (first
    | (go_at_call 8; refine HS.out.mono ?_; rintro e w1 ⟨v1, rfl, hx1, hf1⟩; obtain ⟨a1, c1, rfl, hle1, -⟩ := hx1.form))
  refine wp_region_G [] [(0, false), (1, false), (2, false), (3, false), (4, false), (5, false), (6, false), (7, true), (8, false), (9, false), (10, false), (11, false), (12, false), (13, false), (15, false), (16, false), (14, true), (17, false), (18, false)] 82 rfl (by kernel_rfl) (by kernel_rfl) (by kernel_rfl) (fun c a d v w h => by cases d <;> exact h) (fun w2 hf2 => ?_)
  simp only [List.map_cons, List.map_nil, List.getElem?_toArray, List.getElem?_cons_succ, List.getElem?_cons_zero, Option.getD_some]
  have hA : Later [] w2 _ := Later.conv (P := Try.prog) (hx1.below hf2) (by simp) 22 5 9 Try.underlying22 Try.underlying5 Try.underlying9
  have HA := Lib.hid hA
  clear hA
  repeat (apply wpG_t; · (intro w' hf'; have c1 := HA.out w' hf'; go_wp2_with fail; exact ⟨rfl, rfl⟩))
  refine wpG_x ?_
  go_wp2_with (go_at_call 9; refine (HR.out _ (hf1.trans hf2 (by simp) (by simp))).mono ?_; rintro e w3 ⟨v3, rfl, hown3, hf3⟩)
  refine ⟨hf3, rfl, ?_⟩
  have hB : Later [] w3 _ := Later.conv (P := Try.prog) (bytesAt_of_owns hown3) (by simp) 22 5 9 Try.underlying22 Try.underlying5 Try.underlying9
  have HBB := Lib.hid hB
  clear hB
  repeat (apply wpG_t; · (intro w' hf'; have c1 := HBB.out w' hf'; go_wp2_with fail; exact ⟨rfl, rfl⟩))
  refine wpG_x ?_
  go_wp2_with (go_at_call 10; refine (HL.out _).mono ?_; rintro e w4 ⟨rfl, rfl⟩)
  refine ⟨Fr.refl _ _, rfl, ?_⟩
  repeat (apply wpG_t; · (intro w' hf'; go_wp2_with fail; exact ⟨rfl, rfl⟩))
  refine wpG_end ?_
  have hf03 : Fr [] w w3 := (hf1.trans hf2 (by simp) (n := []) (by simp)).trans hf3 (by simp) (by simp)
  have hx3 := hx1.below (hf2.trans hf3 (by simp) (n := []) (by simp))
  have HF := Lib.hid hf03
  clear hx1 hf1 hf2 hf3 hown3 HA HBB hf03 HS HR HL
  go_upto_region 9 with (first
    | (go_at_call 11; refine (HO.out _ _ hx3).mono ?_; rintro e w5 ⟨v5, rfl, hb5, hf5⟩; obtain ⟨a5, n5, c5, rfl⟩ := hb5.slice; have d1 := run_conv_bytes (P := Try.prog) hb5 22 5 9 Try.underlying22 Try.underlying5 Try.underlying9; have d2 := run_conv_bytes (P := Try.prog) (HB.out.below (HF.out.trans hf5 (by simp) (by simp))) 22 5 9 Try.underlying22 Try.underlying5 Try.underlying9))
  have hf05 : Fr [] w w5 := HF.out.trans hf5 (by simp) (by simp)
  clear d1 d2 hb5 hx3 hf5 HF HO HB
  rcases hin with ⟨m, rfl, hm⟩ | hin | hin
  · have e1 : decide (0 ≤ (m : Int)) = true := decide_eq_true (by omega)
    have e2 : decide ((m : Int) ≤ 1048576) = true := decide_eq_true (by omega)
    have hfl := form_len10 m (by omega)
    have HFM := Lib.hid (fun wx => ref_form_any m wx (by omega))
    have HLN := Lib.hid (fun wx => flen_yes m wx hm)
    obtain ⟨F, hF⟩ : ∃ F, F = form m := ⟨_, rfl⟩
    rw [← hF] at HFM HLN hfl
    clear hF
    go_wp2_with (first
      | (go_at_call 12; refine (HFM.out _).mono ?_; rintro e w6 ⟨v6, rfl, hown6, hf6⟩; obtain ⟨a6, c6, rfl, -, -⟩ := (bytesAt_of_owns hown6).form)
      | (go_at_call 10; refine (HLN.out _).mono ?_; rintro e w7 ⟨rfl, rfl⟩)
      | (go_at_call 7; refine (awake_any _).mono ?_; rintro e w8 ⟨rfl, hf8⟩))
    go_ret
    exact ⟨rfl, (hf05.trans hf6 (by simp) (n := []) (by simp)).trans hf8 (by simp) (by simp)⟩
  · have e1 : decide (0 ≤ n) = false := decide_eq_false (by omega)
    have HLN := Lib.hid (fun wx => flen_no n wx (.inl hin))
    clear hin
    go_wp2_with (first
      | (go_at_call 10; refine (HLN.out _).mono ?_; rintro e w7 ⟨rfl, rfl⟩)
      | (go_at_call 7; refine (awake_any _).mono ?_; rintro e w8 ⟨rfl, hf8⟩))
    go_ret
    exact ⟨rfl, hf05.trans hf8 (by simp) (by simp)⟩
  · have e1 : decide (0 ≤ n) = true := decide_eq_true (by omega)
    have e2 : decide (n ≤ 1048576) = false := decide_eq_false (by omega)
    have HLN := Lib.hid (fun wx => flen_no n wx (.inr hin))
    clear hin
    go_wp2_with (first
      | (go_at_call 10; refine (HLN.out _).mono ?_; rintro e w7 ⟨rfl, rfl⟩)
      | (go_at_call 7; refine (awake_any _).mono ?_; rintro e w8 ⟨rfl, hf8⟩))
    go_ret
    exact ⟨rfl, hf05.trans hf8 (by simp) (by simp)⟩
theorem seals_any (m : Nat) (load : List UInt8) (n : Int) (sv : Value) (w : World) (hm : m < 256) (h : bytesAt w sv load) (hn : -9223372036854775808 ≤ n ∧ n ≤ 9223372036854775807) :
    Calls Try.prog 3 #[.int .u8 (m : Int), sv, .int .i64 n] w fun e w' => e = .returned (.bool true) ∧ Fr [] w w' := by
  obtain ⟨k, rfl⟩ := u8_of_nat m hm
  by_cases hl : 1000 < load.length
  · obtain ⟨a0, c0, rfl, hle, hmx⟩ := h.form
    simp only [maxLen] at hmx
    have hb1 : decide (1000 < (load.length : Int)) = true := decide_eq_true (by omega)
    clear h
    go_enter Try.func3, Try.ntmps3
    go_wp2_with (go_at_call 7; refine (awake_any _).mono ?_; rintro e w' ⟨rfl, hf⟩)
    go_ret
    exact ⟨rfl, hf⟩
  · refine seals_in k load n sv w h hl hn ?_
    by_cases h0 : 0 ≤ n
    · obtain ⟨j, rfl⟩ := Int.eq_ofNat_of_zero_le h0
      by_cases hj : j ≤ 1048576
      · exact .inl ⟨j, rfl, hj⟩
      · exact .inr (.inr (by omega))
    · exact .inr (.inl (by omega))
end Go.Proofs.Ytijdffpekonklaa
