/- SevenUnpacks: Unpack returns the specified bytes or false for any bytes. -/
import Derived.Test.YtjddagkjgkdbkaaSevLaw
namespace Go.Proofs.Ytjddagkjgkdbkaa
open Go.RowKit

theorem wholeB_take (b : List UInt8) (k : Nat) (h : k < b.length) : wholeB (b.take (k + 1)) = (wholeB (b.take k) && decide (128 ≤ (b[k]'h).toNat)) := by
  rw [List.take_succ_eq_append_getElem h, wholeB, List.all_append]
  simp [wholeB]
def WFlag (b : List UInt8) (f i : Value) : Prop := ∃ (k : Nat) (g : Bool), k ≤ b.length ∧ i = .int .i64 (k : Int) ∧ f = .bool g ∧ g = wholeB (b.take k)
set_option maxRecDepth 100000 in
theorem unpacks_yes (b : List UInt8) (sv : Value) (w : World) (h : bytesAt w sv b) (hl : ¬ 300 < b.length) (hok : okU b = true) :
    Calls Try.prog 4 #[sv] w fun e w' => e = .returned (.bool true) ∧ Fr [] w w' := by
  obtain ⟨a0, c0, rfl, hle, hmx⟩ := h.form
  simp only [maxLen] at hmx
  have hb1 : decide (300 < (b.length : Int)) = false := decide_eq_false (by omega)
  have HB := Lib.hid h
  clear h
  have HU := Lib.hid (fun wx (hx : Fr [] w wx) => unpack_yes b _ wx (HB.out.below hx) (by omega) hok)
  have HRU := Lib.hid (fun wx (hx : Fr [] w wx) => ref_unpack_yes b _ wx (HB.out.below hx) (by omega) hok)
  have HPU := Lib.hid (pack_unpack hok)
  have HWB := Lib.hid (okU_parts hok).1
  have hul : (unpackOf b).length ≤ 300 := by rw [unpackOf_length]; omega
  obtain ⟨X, hX⟩ : ∃ X, X = unpackOf b := ⟨_, rfl⟩
  rw [← hX] at HU HRU HPU hul
  clear hX hok
  go_enter Try.func4, Try.ntmps4
  go_wp2_with (first
    | (go_at_call 8; refine (HU.out _ (Fr.refl _ _)).mono ?_; rintro e w1 ⟨⟨v1, rfl, hx1⟩, hf1⟩)
    | (go_at_call 12; refine (HRU.out _ hf1).mono ?_; rintro e w2 ⟨⟨v2, rfl, hx2⟩, hf2⟩))
  go_loop [7, 8] (WFlag b) (fun _ s => b.length - (intOf s).toNat)
  case atStart => exact ⟨0, true, Nat.zero_le _, rfl, rfl, rfl⟩
  case round =>
    obtain ⟨k, g, hk, rfl, rfl, hg⟩ := hrel
    have HG := Lib.hid hg
    clear hg
    by_cases hkn : k < b.length
    · have hd : decide (k < b.length) = true := decide_eq_true hkn
      obtain ⟨bb, off, rfl, hc⟩ := byteAt (HB.out.below (hf1.trans hf2 (by simp) (n := []) (by simp))) k hkn
      have hst := wholeB_take b k hkn
      rw [← HG.out] at hst
      have HST := Lib.hid hst
      clear hst
      by_cases h128 : (b[k]'hkn).toNat < 128
      · have hd2 : decide (((b[k]'hkn).toNat : Int) < 128) = true := decide_eq_true (by omega)
        have HE := Lib.hid (show wholeB (b.take (k + 1)) = false by rw [HST.out, decide_eq_false (by omega), Bool.and_false])
        clear h128
        go_wp2_with fail
        exact ⟨⟨k + 1, false, by omega, by go_num, rfl, HE.out.symm⟩, by simp [intOf]; omega⟩
      · have hd2 : decide (((b[k]'hkn).toNat : Int) < 128) = false := decide_eq_false (by omega)
        have HE := Lib.hid (show wholeB (b.take (k + 1)) = g by rw [HST.out, decide_eq_true (by omega), Bool.and_true])
        clear h128
        go_wp2_with fail
        exact ⟨⟨k + 1, g, by omega, by go_num, rfl, HE.out.symm⟩, by simp [intOf]; omega⟩
    · have hd : decide (k < b.length) = false := decide_eq_false hkn
      obtain rfl : k = b.length := by omega
      have hg1 : g = true := by rw [HG.out, List.take_length]; exact HWB.out
      subst hg1
      have hf02 : Fr [] w w2 := hf1.trans hf2 (by simp) (by simp)
      have hx1' := hx1.below hf2
      clear hx1 hf1 hf2 HU HRU HG
      obtain ⟨a1, c1, rfl, hle1, hmx1⟩ := hx1'.form
      obtain ⟨a2, c2, rfl, hle2, hmx2⟩ := hx2.form
      have HX1 := Lib.hid hx1'
      have HX2 := Lib.hid hx2
      have HF := Lib.hid hf02
      clear hx1' hx2 hf02
      go_wp2_with fail
      refine wp_region_G [] [(0, false), (1, false), (2, false), (3, false), (4, false), (5, false), (6, false), (7, false), (8, false), (9, false), (10, false), (11, false), (13, false), (12, true), (14, false), (15, false), (16, false), (17, false), (18, false), (19, false), (20, false), (24, false), (25, false), (21, true), (22, true), (23, false), (26, false), (27, false), (28, false), (29, false), (30, true), (31, false), (32, false)] 66 rfl (by kernel_rfl) (by kernel_rfl) (by kernel_rfl) (fun c a d v w h => by cases d <;> exact h) (fun w3 hf3 => ?_)
      simp only [List.map_cons, List.map_nil, List.getElem?_toArray, List.getElem?_cons_succ, List.getElem?_cons_zero, Option.getD_some]
      have hA : Later [] w3 _ := Later.conv (P := Try.prog) (HX1.out.below hf3) (by simp) 22 5 9 Try.underlying22 Try.underlying5 Try.underlying9
      have hB : Later [] w3 _ := Later.conv (P := Try.prog) (HX2.out.below hf3) (by simp) 22 5 9 Try.underlying22 Try.underlying5 Try.underlying9
      have hC : Later [] w3 _ := Later.conv (P := Try.prog) ((HB.out.below HF.out).below hf3) (by simp) 22 5 9 Try.underlying22 Try.underlying5 Try.underlying9
      have hw := whole_any b _ w3 ((HB.out.below HF.out).below hf3)
      rw [HWB.out] at hw
      have HW := Lib.hid hw
      have HA := Lib.hid hA
      have HBB := Lib.hid hB
      have HC := Lib.hid hC
      clear hw hA hB hC
      repeat (apply wpG_t; · (intro w' hf'; have c1 := HA.out w' hf'; have c2 := HBB.out w' hf'; have c3 := HC.out w' hf'; go_wp2_with fail; exact ⟨rfl, rfl⟩))
      refine wpG_x ?_
      go_wp2_with (go_at_call 11; refine HW.out.mono ?_; rintro e w4 ⟨rfl, rfl⟩)
      refine ⟨Fr.refl _ _, rfl, ?_⟩
      repeat (apply wpG_t; · (intro w' hf'; have c1 := HA.out w' hf'; have c2 := HBB.out w' hf'; have c3 := HC.out w' hf'; go_wp2_with fail; exact ⟨rfl, rfl⟩))
      refine wpG_x ?_
      go_wp2_with fail
      refine ⟨Fr.alloc _ _, rfl, ?_⟩
      have hp := partsAt_new1 w3 _ _ 22 (HX1.out.below hf3)
      have hpk := pack_any [X] _ _ hp (by simp; omega)
      rw [show ([X] : List (List UInt8)).flatten = X from by simp, HPU.out] at hpk
      have HPK := Lib.hid hpk
      clear hp hpk
      refine wpG_x ?_
      go_wp2_with (go_at_call 9; refine HPK.out.mono ?_; rintro e w5 ⟨v5, rfl, hb5, hf5⟩)
      have hf45 : Fr [] w3 w5 := (Fr.alloc _ _).trans hf5 (by simp) (by simp)
      refine ⟨hf5, rfl, ?_⟩
      have hA : Later [] w5 _ := Later.conv (P := Try.prog) hb5 (by simp) 22 5 9 Try.underlying22 Try.underlying5 Try.underlying9
      have HC5 := Lib.hid (Later.next HC.out hf45)
      have HA5 := Lib.hid hA
      clear hA
      repeat (apply wpG_t; · (intro w' hf'; have c1 := HA5.out w' hf'; have c3 := HC5.out w' hf'; go_wp2_with fail; exact ⟨rfl, rfl⟩))
      refine wpG_x ?_
      go_wp2_with (go_at_call 6; refine (awake_any _).mono ?_; rintro e w6 ⟨rfl, hf6⟩)
      refine ⟨hf6, rfl, ?_⟩
      repeat (apply wpG_t; · (intro w' hf'; go_wp2_with fail; exact ⟨rfl, rfl⟩))
      refine wpG_end ?_
      go_wp2_with fail
      go_ret
      exact ⟨rfl, ((HF.out.trans hf3 (by simp) (n := []) (by simp)).trans hf45 (by simp) (n := []) (by simp)).trans hf6 (by simp) (by simp)⟩
set_option maxRecDepth 100000 in
theorem unpacks_no (b : List UInt8) (sv : Value) (w : World) (h : bytesAt w sv b) (hl : ¬ 300 < b.length) (hok : okU b = false) :
    Calls Try.prog 4 #[sv] w fun e w' => e = .returned (.bool true) ∧ Fr [] w w' := by
  obtain ⟨a0, c0, rfl, hle, hmx⟩ := h.form
  simp only [maxLen] at hmx
  have hb1 : decide (300 < (b.length : Int)) = false := decide_eq_false (by omega)
  have HB := Lib.hid h
  clear h
  have HU := Lib.hid (fun wx (hx : Fr [] w wx) => unpack_no b _ wx (HB.out.below hx) (by omega) hok)
  have HRU := Lib.hid (fun wx (hx : Fr [] w wx) => ref_unpack_no b _ wx (HB.out.below hx) (by omega) hok)
  clear hok
  go_enter Try.func4, Try.ntmps4
  go_wp2_with (first
    | (go_at_call 8; refine (HU.out _ (Fr.refl _ _)).mono ?_; rintro e w1 ⟨rfl, hf1⟩)
    | (go_at_call 12; refine (HRU.out _ hf1).mono ?_; rintro e w2 ⟨rfl, hf2⟩))
  go_loop [7, 8] (WFlag b) (fun _ s => b.length - (intOf s).toNat)
  case atStart => exact ⟨0, true, Nat.zero_le _, rfl, rfl, rfl⟩
  case round =>
    obtain ⟨k, g, hk, rfl, rfl, hg⟩ := hrel
    have HG := Lib.hid hg
    clear hg
    by_cases hkn : k < b.length
    · have hd : decide (k < b.length) = true := decide_eq_true hkn
      obtain ⟨bb, off, rfl, hc⟩ := byteAt (HB.out.below (hf1.trans hf2 (by simp) (n := []) (by simp))) k hkn
      have hst := wholeB_take b k hkn
      rw [← HG.out] at hst
      have HST := Lib.hid hst
      clear hst
      by_cases h128 : (b[k]'hkn).toNat < 128
      · have hd2 : decide (((b[k]'hkn).toNat : Int) < 128) = true := decide_eq_true (by omega)
        have HE := Lib.hid (show wholeB (b.take (k + 1)) = false by rw [HST.out, decide_eq_false (by omega), Bool.and_false])
        clear h128
        go_wp2_with fail
        exact ⟨⟨k + 1, false, by omega, by go_num, rfl, HE.out.symm⟩, by simp [intOf]; omega⟩
      · have hd2 : decide (((b[k]'hkn).toNat : Int) < 128) = false := decide_eq_false (by omega)
        have HE := Lib.hid (show wholeB (b.take (k + 1)) = g by rw [HST.out, decide_eq_true (by omega), Bool.and_true])
        clear h128
        go_wp2_with fail
        exact ⟨⟨k + 1, g, by omega, by go_num, rfl, HE.out.symm⟩, by simp [intOf]; omega⟩
    · have hd : decide (k < b.length) = false := decide_eq_false hkn
      obtain rfl : k = b.length := by omega
      have hg1 : g = wholeB b := by rw [HG.out, List.take_length]
      have HG1 := Lib.hid hg1
      have hf02 : Fr [] w w2 := hf1.trans hf2 (by simp) (by simp)
      clear hf1 hf2 HU HRU HG hg1
      have HF := Lib.hid hf02
      clear hf02
      go_wp2_with fail
      refine wp_region_G [] [(0, false), (1, false), (2, false), (3, false), (4, false), (5, false), (6, false), (7, false), (8, false), (9, false), (10, false), (11, false), (13, false), (12, true), (14, false), (15, false), (16, false), (17, false), (18, false), (19, false), (20, false), (24, false), (25, false), (21, true), (22, true), (23, false), (26, false), (27, false), (28, false), (29, false), (30, true), (31, false), (32, false)] 66 rfl (by kernel_rfl) (by kernel_rfl) (by kernel_rfl) (fun c a d v w h => by cases d <;> exact h) (fun w3 hf3 => ?_)
      simp only [List.map_cons, List.map_nil, List.getElem?_toArray, List.getElem?_cons_succ, List.getElem?_cons_zero, Option.getD_some]
      have hA : Later [] w3 _ := Later.conv (P := Try.prog) (bytesAt.nil w3) (by simp) 22 5 9 Try.underlying22 Try.underlying5 Try.underlying9
      have hC : Later [] w3 _ := Later.conv (P := Try.prog) ((HB.out.below HF.out).below hf3) (by simp) 22 5 9 Try.underlying22 Try.underlying5 Try.underlying9
      have hw := whole_any b _ w3 ((HB.out.below HF.out).below hf3)
      rw [← HG1.out] at hw
      have HW := Lib.hid hw
      have HA := Lib.hid hA
      have HC := Lib.hid hC
      clear hw hA hC
      repeat (apply wpG_t; · (intro w' hf'; have c1 := HA.out w' hf'; have c3 := HC.out w' hf'; go_wp2_with fail; exact ⟨rfl, rfl⟩))
      refine wpG_x ?_
      go_wp2_with (go_at_call 11; refine HW.out.mono ?_; rintro e w4 ⟨rfl, rfl⟩)
      refine ⟨Fr.refl _ _, rfl, ?_⟩
      repeat (apply wpG_t; · (intro w' hf'; have c1 := HA.out w' hf'; have c3 := HC.out w' hf'; go_wp2_with fail; exact ⟨rfl, rfl⟩))
      refine wpG_x ?_
      go_wp2_with fail
      refine ⟨Fr.refl _ _, rfl, ?_⟩
      refine wpG_x ?_
      go_wp2_with fail
      refine ⟨Fr.refl _ _, rfl, ?_⟩
      repeat (apply wpG_t; · (intro w' hf'; have c1 := HA.out w' hf'; have c3 := HC.out w' hf'; go_wp2_with fail; exact ⟨rfl, rfl⟩))
      refine wpG_x ?_
      go_wp2_with (go_at_call 6; refine (awake_any _).mono ?_; rintro e w6 ⟨rfl, hf6⟩)
      refine ⟨hf6, rfl, ?_⟩
      repeat (apply wpG_t; · (intro w' hf'; go_wp2_with fail; exact ⟨rfl, rfl⟩))
      refine wpG_end ?_
      go_wp2_with fail
      go_ret
      exact ⟨rfl, (HF.out.trans hf3 (by simp) (n := []) (by simp)).trans hf6 (by simp) (by simp)⟩
set_option maxRecDepth 100000 in
theorem unpacks_any (b : List UInt8) (sv : Value) (w : World) (h : bytesAt w sv b) :
    Calls Try.prog 4 #[sv] w fun e w' => e = .returned (.bool true) ∧ Fr [] w w' := by
  by_cases hl : 300 < b.length
  · obtain ⟨a0, c0, rfl, hle, hmx⟩ := h.form
    simp only [maxLen] at hmx
    have hb1 : decide (300 < (b.length : Int)) = true := decide_eq_true (by omega)
    go_enter Try.func4, Try.ntmps4
    go_wp2_with (go_at_call 6; refine (awake_any _).mono ?_; rintro e w' ⟨rfl, hf⟩)
    go_ret
    exact ⟨rfl, hf⟩
  · cases hok : okU b with
    | true => exact unpacks_yes b sv w h hl hok
    | false => exact unpacks_no b sv w h hl hok
end Go.Proofs.Ytjddagkjgkdbkaa
