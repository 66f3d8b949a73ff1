/- WordTexts (layer 18): the law. -/
import Derived.Test.YtoijlmbnkmhamaaWoF
namespace Go.Proofs.Ytoijlmbnkmhamaa
open Go.RowKit

def WtR (s : List UInt8) (terms : List (List UInt8)) (tv iv : Value) : Prop := ∃ i : Nat, i ≤ s.length ∧ iv = .int .i64 (i : Int) ∧ tv = .string ⟨(txtW s terms i).toArray⟩ ∧ ∀ j, j < i → ∀ h : j < s.length, (s[j]'h).toNat < terms.length
set_option maxRecDepth 100000 in
set_option maxHeartbeats 4000000 in
theorem texts_good (s : List UInt8) (terms : List (List UInt8)) (h1 : s.length ≤ 50) (h2 : terms.length ≤ 100) (ht : ∀ x ∈ terms, x.length ≤ 1048576) (v : Value) (w : World) (h : strsAt w v terms) :
    Calls Try.prog 5 #[.string ⟨s.toArray⟩, v] w fun e w' => e = .returned (.bool true) ∧ Fr [] w w' := by
  obtain ⟨a1, c1, rfl, hc1, hm1⟩ := h.form
  have d1 : decide (50 < (s.length : Int)) = false := decide_eq_false (by omega)
  have d2 : decide (100 < (terms.length : Int)) = false := decide_eq_false (by omega)
  have HT := Lib.hid (wtext_any s terms (by omega) ht _ w h)
  have HL := Lib.hid h
  have HTL := Lib.hid ht
  have HLN := Lib.hid (txtW_len s terms ht)
  obtain ⟨Z, hZ⟩ : ∃ Z, Z = (textW s terms).toArray := ⟨_, rfl⟩
  rw [← hZ] at HT
  have HZ := Lib.hid hZ
  clear h ht hZ
  go_enter Try.func5, Try.ntmps5
  go_wp2_with fail
  go_loop [5, 6] (WtR s terms) (fun _ iv => s.length - (intOf iv).toNat)
  case atStart => exact ⟨0, Nat.zero_le _, rfl, rfl, fun j hj => by omega⟩
  case round =>
    obtain ⟨i, hi, rfl, rfl, hall⟩ := hrel
    have HALL := Lib.hid hall
    clear hall
    by_cases hin : i < s.length
    · have hd : decide (i < s.length) = true := decide_eq_true hin
      have hix := fun wx => run_index_str (P := Try.prog) wx 9 s (i : Int) i (s[i]'hin) Try.underlying9 rfl (List.getElem?_eq_getElem hin)
      have h8 : (s[i]'hin).toNat < 256 := (s[i]'hin).toNat_lt
      by_cases hb : terms.length ≤ (s[i]'hin).toNat
      · have d3 : decide (terms.length ≤ (s[i]'hin).toNat) = true := decide_eq_true hb
        have d3' : decide ((terms.length : Int) ≤ ((s[i]'hin).toNat : Int)) = true := decide_eq_true (by omega)
        have hz0 : Z = #[] := by
          rw [HZ.out]
          unfold textW
          rw [if_neg (by intro e; rw [e] at hin; simp at hin), belowW_false i hin (by omega)]
          rfl
        subst hz0
        clear hb
        go_wp2_with (first
          | (go_at_call 6; refine (wawake_any _).mono ?_; rintro e w9 ⟨rfl, hf9⟩)
          | (go_at_call 14; refine HT.out.mono ?_; rintro e w2 ⟨rfl, hf2⟩))
        go_ret
        exact ⟨rfl, hf2.trans hf9 (by simp) (by simp)⟩
      · have d3 : decide (terms.length ≤ (s[i]'hin).toNat) = false := decide_eq_false hb
        have d3' : decide ((terms.length : Int) ≤ ((s[i]'hin).toNat : Int)) = false := decide_eq_false (by omega)
        have hbg : (s[i]'hin).toNat < terms.length := by omega
        have HALL2 := Lib.hid (show ∀ j, j < i + 1 → ∀ h : j < s.length, (s[j]'h).toNat < terms.length from fun j hj hjl => by
          by_cases e : j = i
          · subst e; exact hbg
          · exact HALL.out j (by omega) hjl)
        obtain ⟨b1, off1, rfl, k0⟩ := str_cell HL.out _ hbg
        have hnx := txtW_next s terms i hin hbg
        have hxl := HTL.out _ (List.getElem_mem hbg)
        obtain ⟨X, hX⟩ : ∃ X, X = terms[(s[i]'hin).toNat]'hbg := ⟨_, rfl⟩
        rw [← hX] at k0 hnx hxl
        obtain ⟨x, hx⟩ : ∃ x, x = (s[i]'hin).toNat := ⟨_, rfl⟩
        rw [← hx] at hix k0 h8 hbg d3 d3'
        have hTl : (txtW s terms i).length ≤ 1000000000 := by have := HLN.out i; omega
        obtain ⟨T, hT⟩ : ∃ T, T = txtW s terms i := ⟨_, rfl⟩
        rw [← hT] at hnx hTl ⊢
        have HNX := Lib.hid hnx
        have HX2 := Lib.hid hx
        by_cases hi0 : i = 0
        · have d0 : decide (0 < i) = false := decide_eq_false (by omega)
          have d0' : decide (0 < (i : Int)) = false := decide_eq_false (by omega)
          obtain ⟨Y0, hY0⟩ : ∃ Y, Y = T.toArray := ⟨_, rfl⟩
          obtain ⟨Y1, hY1⟩ : ∃ Y, Y = (T ++ [39]).toArray := ⟨_, rfl⟩
          obtain ⟨Y2, hY2⟩ : ∃ Y, Y = (T ++ [39] ++ X).toArray := ⟨_, rfl⟩
          obtain ⟨Y3, hY3⟩ : ∃ Y, Y = (T ++ [39] ++ X ++ [39]).toArray := ⟨_, rfl⟩
          have ca := fun wx => cat_w (P := Try.prog) (A := Y0) (B := #[39]) (C := Y1) (y := [39]) hY0 rfl hY1 (by simp; omega) wx
          have cb := fun wx => cat_w (P := Try.prog) (A := Y1) (B := X.toArray) (C := Y2) hY1 rfl hY2 (by simp; omega) wx
          have cc := fun wx => cat_w (P := Try.prog) (A := Y2) (B := #[39]) (C := Y3) (y := [39]) hY2 rfl hY3 (by simp; omega) wx
          rw [← hY0]
          have HY3 := Lib.hid (show Y3 = (txtW s terms (i + 1)).toArray by rw [hnx, if_pos hi0, List.append_nil, hY3]; simp)
          clear hi0 hT hnx hX hx hY0 hY1 hY2 hY3 hb
          go_wp2_with fail
          exact ⟨⟨i + 1, by omega, by go_num, by rw [HY3.out], HALL2.out⟩, by simp [intOf]; omega⟩
        · have d0 : decide (0 < i) = true := decide_eq_true (by omega)
          have d0' : decide (0 < (i : Int)) = true := decide_eq_true (by omega)
          obtain ⟨Y9, hY9⟩ : ∃ Y, Y = T.toArray := ⟨_, rfl⟩
          obtain ⟨Y0, hY0⟩ : ∃ Y, Y = (T ++ [32]).toArray := ⟨_, rfl⟩
          obtain ⟨Y1, hY1⟩ : ∃ Y, Y = (T ++ [32] ++ [39]).toArray := ⟨_, rfl⟩
          obtain ⟨Y2, hY2⟩ : ∃ Y, Y = (T ++ [32] ++ [39] ++ X).toArray := ⟨_, rfl⟩
          obtain ⟨Y3, hY3⟩ : ∃ Y, Y = (T ++ [32] ++ [39] ++ X ++ [39]).toArray := ⟨_, rfl⟩
          have c9 := fun wx => cat_w (P := Try.prog) (A := Y9) (B := #[32]) (C := Y0) (y := [32]) hY9 rfl hY0 (by simp; omega) wx
          have ca := fun wx => cat_w (P := Try.prog) (A := Y0) (B := #[39]) (C := Y1) (y := [39]) hY0 rfl hY1 (by simp; omega) wx
          have cb := fun wx => cat_w (P := Try.prog) (A := Y1) (B := X.toArray) (C := Y2) hY1 rfl hY2 (by simp; omega) wx
          have cc := fun wx => cat_w (P := Try.prog) (A := Y2) (B := #[39]) (C := Y3) (y := [39]) hY2 rfl hY3 (by simp; omega) wx
          rw [← hY9]
          have HY3 := Lib.hid (show Y3 = (txtW s terms (i + 1)).toArray by rw [hnx, if_neg hi0, hY3]; simp)
          clear hi0 hT hnx hX hx hY0 hY1 hY2 hY3 hY9 hb
          go_wp2_with fail
          exact ⟨⟨i + 1, by omega, by go_num, by rw [HY3.out], HALL2.out⟩, by simp [intOf]; omega⟩
    · have hd : decide (i < s.length) = false := decide_eq_false hin
      have hil : i = s.length := by omega
      have z1 : (Z == Z) = true := by simp
      cases he : s.isEmpty with
      | true =>
        have hz : Z = #[101, 110, 100] := by rw [HZ.out, List.isEmpty_iff.1 he]; rfl
        subst hz
        clear hil
        go_wp2_with (first
          | (go_at_call 6; refine (wawake_any _).mono ?_; rintro e w9 ⟨rfl, hf9⟩)
          | (go_at_call 14; refine HT.out.mono ?_; rintro e w2 ⟨rfl, hf2⟩))
        go_ret
        exact ⟨rfl, hf2.trans hf9 (by simp) (by simp)⟩
      | false =>
        have hz : (txtW s terms i).toArray = Z := by
          have hne : s ≠ [] := by intro e; rw [e] at he; simp at he
          rw [HZ.out, hil]
          unfold textW
          rw [if_neg hne, belowW_true (fun j hj => by have := HALL.out j (by omega) hj; omega)]
          rfl
        rw [hz]
        clear hil hz
        go_wp2_with (first
          | (go_at_call 6; refine (wawake_any _).mono ?_; rintro e w9 ⟨rfl, hf9⟩)
          | (go_at_call 14; refine HT.out.mono ?_; rintro e w2 ⟨rfl, hf2⟩))
        go_ret
        exact ⟨rfl, hf2.trans hf9 (by simp) (by simp)⟩
theorem texts_any (s : List UInt8) (terms : List (List UInt8)) (ht : ∀ x ∈ terms, x.length ≤ 1048576) (v : Value) (w : World) (h : strsAt w v terms) :
    Calls Try.prog 5 #[.string ⟨s.toArray⟩, v] w fun e w' => e = .returned (.bool true) ∧ Fr [] w w' := by
  by_cases h1 : 50 < s.length
  · have d1 : decide (50 < (s.length : Int)) = true := decide_eq_true (by omega)
    clear h h1 ht
    go_enter Try.func5, Try.ntmps5
    go_wp2_with (go_at_call 6; refine (wawake_any _).mono ?_; rintro e w1 ⟨rfl, hf1⟩)
    go_ret
    exact ⟨rfl, hf1⟩
  · by_cases h2 : 100 < terms.length
    · obtain ⟨a1, c1, rfl, hc1, hm1⟩ := h.form
      have d1 : decide (50 < (s.length : Int)) = false := decide_eq_false (by omega)
      have d2 : decide (100 < (terms.length : Int)) = true := decide_eq_true (by omega)
      clear h h1 h2 ht
      go_enter Try.func5, Try.ntmps5
      go_wp2_with (go_at_call 6; refine (wawake_any _).mono ?_; rintro e w1 ⟨rfl, hf1⟩)
      go_ret
      exact ⟨rfl, hf1⟩
    · exact texts_good s terms (by omega) (by omega) ht v w h
end Go.Proofs.Ytoijlmbnkmhamaa
