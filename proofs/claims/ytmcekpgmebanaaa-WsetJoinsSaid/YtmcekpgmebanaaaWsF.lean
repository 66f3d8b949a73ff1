/- WsetJoins (layer 19): the law, over any program that does what it must. -/
import Derived.Test.YtmcekpgmebanaaaWsE
import Derived.Test.YtmcekpgmebanaaaRowStr
set_option linter.unusedVariables false
set_option linter.unusedSimpArgs false
namespace Go.Proofs.Ytmcekpgmebanaaa
open Go.RowKit

set_option maxRecDepth 100000 in
theorem wsjoins_bad (hC : ProgWCat) (l m r : Words) (v u t : Value) (w : World) (h : strsAt w v l) (g : strsAt w u m) (i : strsAt w t r) (hb : fewW l = false ∨ (fewW l = true ∧ fewW m = false) ∨ (fewW l = true ∧ fewW m = true ∧ fewW r = false)) :
    Calls Try.prog 4 #[v, u, t] w fun e w' => e = .returned (.bool true) ∧ Fr [] w w' := by
  have HFL := Lib.hid (lfew_any l v w h)
  have HFM := Lib.hid (lfew_any m u w g)
  have HFR := Lib.hid (lfew_any r t w i)
  have HAW := Lib.hid (fun wx => wsawake_any hC wx)
  rcases hb with hb | ⟨hb, hb2⟩ | ⟨hb, hb2, hb3⟩
  · rw [hb] at HFL
    clear hC h g i hb HFM HFR
    go_enter Try.func4, Try.ntmps4
    go_wp2_with (first
      | (go_at_call 8; with_reducible refine (HFL.out).mono ?_; rintro e w1 ⟨rfl, rfl⟩)
      | (go_at_call 9; refine (HAW.out _).mono ?_; rintro e w1 ⟨rfl, hf1⟩))
    go_ret
    exact ⟨rfl, hf1⟩
  · rw [hb] at HFL
    rw [hb2] at HFM
    clear hC h g i hb hb2 HFR
    go_enter Try.func4, Try.ntmps4
    go_wp2_with (first
      | (go_at_call 8; with_reducible refine (HFL.out).mono ?_; rintro e w1 ⟨rfl, rfl⟩)
      | (go_at_call 8; with_reducible refine (HFM.out).mono ?_; rintro e w1 ⟨rfl, rfl⟩)
      | (go_at_call 9; refine (HAW.out _).mono ?_; rintro e w1 ⟨rfl, hf1⟩))
    go_ret
    exact ⟨rfl, hf1⟩
  · rw [hb] at HFL
    rw [hb2] at HFM
    rw [hb3] at HFR
    clear hC h g i hb hb2 hb3
    go_enter Try.func4, Try.ntmps4
    go_wp2_with (first
      | (go_at_call 8; with_reducible refine (HFL.out).mono ?_; rintro e w1 ⟨rfl, rfl⟩)
      | (go_at_call 8; with_reducible refine (HFM.out).mono ?_; rintro e w1 ⟨rfl, rfl⟩)
      | (go_at_call 8; with_reducible refine (HFR.out).mono ?_; rintro e w1 ⟨rfl, rfl⟩)
      | (go_at_call 9; refine (HAW.out _).mono ?_; rintro e w1 ⟨rfl, hf1⟩))
    go_ret
    exact ⟨rfl, hf1⟩
def bothW (A B : Words) : Words := A.filter fun x => decide (x ∈ B)
theorem bothW_next {A B : Words} {i : Nat} (h : i < A.length) : bothW (A.take (i + 1)) B = bothW (A.take i) B ++ (if A[i]'h ∈ B then [A[i]'h] else []) := by
  unfold bothW
  rw [List.take_succ_eq_append_getElem h, List.filter_append, List.filter_cons, List.filter_nil]
  congr 1
  by_cases c : A[i]'h ∈ B
  · rw [if_pos c, if_pos (decide_eq_true c)]
  · rw [if_neg c, if_neg (by simpa using c)]
def JoinR (w4 : World) (A B : Words) (v iv : Value) (wx : World) : Prop := ∃ i : Nat, i ≤ A.length ∧ iv = .int .i64 (i : Int) ∧ RowS w4 wx v (bothW (A.take i) B)
theorem of_few {l : Words} (h : fewW l = true) : (ofW l).length ≤ 60 ∧ (∀ x ∈ ofW l, x.length ≤ 20) := by
  obtain ⟨h1, h2⟩ := few_parts h
  exact ⟨Nat.le_trans (ofW_len l) h1, fun x hx => h2 x (mem_ofW.1 hx)⟩
theorem row_one (l : Words) : ∀ u ∈ l.map encStr, u.oneCell' = true := fun u hu => by obtain ⟨y, -, rfl⟩ := List.mem_map.1 hu; rfl
set_option maxRecDepth 100000 in
set_option maxHeartbeats 8000000 in
theorem wsjoins_good (hU : ProgWUnion) (hM : ProgWMeet) (hC : ProgWCat) (l m r : Words) (v u t : Value) (w : World) (h : strsAt w v l) (g : strsAt w u m) (i : strsAt w t r) (hfl : fewW l = true) (hfm : fewW m = true) (hfr : fewW r = true) :
    Calls Try.prog 4 #[v, u, t] w fun e w' => e = .returned (.bool true) ∧ Fr [] w w' := by
  obtain ⟨iS, hiS, hS0, hS1, hS2⟩ := info_parts infoStrS
  have HFL := Lib.hid (lfew_any l v w h)
  have HFM := Lib.hid (lfew_any m u w g)
  have HFR := Lib.hid (lfew_any r t w i)
  rw [hfl] at HFL
  rw [hfm] at HFM
  rw [hfr] at HFR
  have HAW := Lib.hid (fun wx => wsawake_any hC wx)
  have HO1 := Lib.hid (rof_any l v w h (by have := (few_short hfl).1; omega) (few_short hfl).max)
  have HO2 := Lib.hid (fun wx (hf : Fr [] w wx) => rof_any m u wx (g.below hf) (by have := (few_short hfm).1; omega) (few_short hfm).max)
  have HO3 := Lib.hid (fun wx (hf : Fr [] w wx) => rof_any r t wx (i.below hf) (by have := (few_short hfr).1; omega) (few_short hfr).max)
  obtain ⟨a60, a20⟩ := of_few hfl
  obtain ⟨b60, b20⟩ := of_few hfm
  obtain ⟨c60, c20⟩ := of_few hfr
  have hA := set_ofW l
  have hB := set_ofW m
  have hR := set_ofW r
  obtain ⟨A, hAe⟩ : ∃ A, A = ofW l := ⟨_, rfl⟩
  obtain ⟨B, hBe⟩ : ∃ B, B = ofW m := ⟨_, rfl⟩
  obtain ⟨R, hRe⟩ : ∃ R, R = ofW r := ⟨_, rfl⟩
  rw [← hAe] at HO1 a60 a20 hA
  rw [← hBe] at HO2 b60 b20 hB
  rw [← hRe] at HO3 c60 c20 hR
  have HS := Lib.hid (And.intro hA (And.intro hB hR))
  have H20 := Lib.hid (And.intro a20 (And.intro b20 c20))
  clear hC h g i hfl hfm hfr hA hB hR hAe hBe hRe a20 b20 c20
  go_enter Try.func4, Try.ntmps4
  go_upto_region 6 with (first
    | (go_at_call 8; with_reducible refine (HFL.out).mono ?_; rintro e w1 ⟨rfl, rfl⟩)
    | (go_at_call 8; with_reducible refine (HFM.out).mono ?_; rintro e w1 ⟨rfl, rfl⟩)
    | (go_at_call 8; with_reducible refine (HFR.out).mono ?_; rintro e w1 ⟨rfl, rfl⟩)
    | (go_at_call 12; refine (HO3.out _ HF2.out).mono ?_; rintro e w3 ⟨v3, rfl, hs3, hf3⟩; have HS3 := Lib.hid hs3; have HS13 := Lib.hid (HS12.out.below hf3); have HS23 := Lib.hid (HS2.out.below hf3); have HF3 := Lib.hid (HF2.out.tr hf3); clear hs3 hf3)
    | (go_at_call 12; refine (HO2.out _ HF1.out).mono ?_; rintro e w2 ⟨v2, rfl, hs2, hf2⟩; have HS2 := Lib.hid hs2; have HS12 := Lib.hid (HS1.out.below hf2); have HF2 := Lib.hid (HF1.out.tr hf2); clear hs2 hf2)
    | (go_at_call 12; refine (HO1.out).mono ?_; rintro e w1 ⟨v1, rfl, hs1, hf1⟩; have HS1 := Lib.hid hs1; have HF1 := Lib.hid hf1; clear hs1 hf1))
  clear HFL HFM HFR HO1 HO2 HO3 HS1 HS2 HS12 HF1 HF2
  obtain ⟨p1, q1, rfl, hq1, hz1⟩ := HS13.out.form
  obtain ⟨p2, q2, rfl, hq2, hz2⟩ := HS23.out.form
  obtain ⟨p3, q3, rfl, hq3, hz3⟩ := HS3.out.form
  have hown0 : (w3.alloc (.cells #[] 9)).ownsRow w3.heap.size 9 1 (.slice (some ⟨w3.heap.size, 0, none⟩) 0 0) 0 [] := owns_of_heap (cur := []) (heap_alloc_new _ _) (Nat.le_refl _) rfl (Nat.le_refl _) (by decide) rfl
  have HO0 := Lib.hid hown0
  have HZA := Lib.hid (Fr.alloc w3 (.cells #[] 9))
  clear hown0
  go_upto_region 7 with (first
    | (at_builtin; have := w5; refine wpL_appendC rfl _ _ 22 rfl w3.heap.size 9 iS (.string ⟨#[]⟩) 16 Try.underlying22 hiS hS0 hS1 hS2 rfl _ _ _ rfl HO5.out (.slice p3 R.length q3) (R.map encStr) rfl (HS3.out.below HF5.out) (row_one R) (by rw [List.length_map]; omega) (by rw [List.length_map]; simp only [maxLen]; omega) HF5.out.size ?_; intro v6 w6 hown6 hf6; have HF6 := Lib.hid (Fr.own HF5.out HO5.out hf6); rw [List.length_map] at hown6; have HO6 := Lib.hid hown6; obtain ⟨a6, e6, rfl, he6, hm6⟩ := owns_slice hown6; clear hown6 hf6)
    | (at_builtin; have := w4; refine wpL_appendC rfl _ _ 22 rfl w3.heap.size 9 iS (.string ⟨#[]⟩) 16 Try.underlying22 hiS hS0 hS1 hS2 rfl _ _ _ rfl HO4.out (.slice p2 B.length q2) (B.map encStr) rfl (HS23.out.below HF4.out) (row_one B) (by rw [List.length_map]; omega) (by rw [List.length_map]; simp only [maxLen]; omega) HF4.out.size ?_; intro v5 w5 hown5 hf5; have HF5 := Lib.hid (Fr.own HF4.out HO4.out hf5); rw [List.length_map] at hown5; have HO5 := Lib.hid hown5; obtain ⟨a5, e5, rfl, he5, hm5⟩ := owns_slice hown5; clear hown5 hf5)
    | (at_builtin; refine wpL_appendC rfl _ _ 22 rfl w3.heap.size 9 iS (.string ⟨#[]⟩) 16 Try.underlying22 hiS hS0 hS1 hS2 rfl _ 0 _ rfl HO0.out (.slice p1 A.length q1) (A.map encStr) rfl (HS13.out.below HZA.out) (row_one A) (by rw [List.length_map]; omega) (by rw [List.length_map]; simp only [maxLen]; omega) HZA.out.size ?_; intro v4 w4 hown4 hf4; have HF4 := Lib.hid (Fr.own HZA.out HO0.out hf4); rw [List.length_map, Nat.zero_add] at hown4; have HO4 := Lib.hid hown4; obtain ⟨a4, e4, rfl, he4, hm4⟩ := owns_slice hown4; clear hown4 hf4))
  have HALL := Lib.hid (strs_of_owns (l := A ++ (B ++ R)) HO6.out (by simp))
  clear HO4 HO5 HO0 HF4 HF5 HO6
  have HF36 := Lib.hid HF6.out
  have HFW6 := Lib.hid (HF3.out.tr HF6.out)
  obtain ⟨nl, hnl⟩ : ∃ nl, nl = A.length + B.length + R.length := ⟨_, rfl⟩
  rw [← hnl] at he6 HALL ⊢
  have hnl2 : nl ≤ 180 := by omega
  have HSH := Lib.hid (show ShortW (A ++ (B ++ R)) from ⟨by simp; omega, fun x hx => by
    have h20 := H20.out
    rcases List.mem_append.1 hx with hx | hx
    · have := h20.1 x hx; omega
    · rcases List.mem_append.1 hx with hx | hx
      · have := h20.2.1 x hx; omega
      · have := h20.2.2 x hx; omega⟩)
  have hfl3 : [A, B, R].flatten = A ++ (B ++ R) := by simp
  have HU := Lib.hid (fun vv wx (hh : setsAt wx vv [A, B, R]) => hU [A, B, R] vv wx hh (fun l hl => by
    simp only [List.mem_cons, List.not_mem_nil, or_false] at hl
    rcases hl with rfl | rfl | rfl
    · exact HS.out.1
    · exact HS.out.2.1
    · exact HS.out.2.2) (by rw [hfl3]; exact HSH.out))
  rw [hfl3] at HU
  have HU0 : Hid (∀ wx, Calls Try.prog 18 #[.slice none 0 0] wx (GotS [] wx)) := Lib.hid (fun wx => hU [] (.slice none 0 0) wx (sets_nil wx) (fun l hl => by cases hl) ⟨by simp, by simp⟩)
  have HRO := Lib.hid (fun vv wx (hh : strsAt wx vv (A ++ (B ++ R))) => rof_any _ vv wx hh (by have := HSH.out.1; omega) HSH.out.max)
  have HME := Lib.hid (fun va vb wx (h1 : strsAt wx va A) (h2 : strsAt wx vb B) => hM A B va vb wx h1 h2 HS.out.1 HS.out.2.1 ⟨by omega, fun x hx => by have := H20.out.1 x hx; omega⟩ ⟨by omega, fun x hx => by have := H20.out.2.1 x hx; omega⟩)
  have HSU := Lib.hid (fun va vb wx (h1 : strsAt wx va (ofW (A ++ (B ++ R)))) (h2 : strsAt wx vb (ofW (A ++ (B ++ R)))) => rsm_val _ _ va vb wx h1 h2 true (by simp))
  have HSB := Lib.hid (fun va vb wx (h1 : strsAt wx va (bothW A B)) (h2 : strsAt wx vb (bothW A B)) => rsm_val _ _ va vb wx h1 h2 true (by simp))
  clear hfl3 hU hM hnl
  go_wp2_with fail
  go_loopw [8, 9] (JoinR w6 A B) (fun _ iv _ => A.length - (intOf iv).toNat)
  case atStart => exact ⟨0, Nat.zero_le _, rfl, World.ownsRow_nil _ _ _ _, Fr.refl _ _⟩
  case round =>
    obtain ⟨i, hi, rfl, hrow⟩ := hrel
    have HROW := Lib.hid hrow
    have hf3r : Fr [] w3 wr := HF36.out.tr hrow.2
    by_cases hin : i < A.length
    · have hd : decide (i < A.length) = true := decide_eq_true hin
      obtain ⟨b, off, rfl, hc⟩ := str_cell (HS13.out.below hf3r) i hin
      have hnx := bothW_next (B := B) hin
      obtain ⟨a8, c8, rfl, hc8, hm8⟩ := hrow.form
      obtain ⟨x, hx⟩ : ∃ x, x = A[i]'hin := ⟨_, rfl⟩
      rw [← hx] at hc hnx
      have HHAS := Lib.hid (rhas_any B x _ wr (HS23.out.below hf3r))
      have hbl : (bothW (A.take i) B).length ≤ 60 := by
        unfold bothW
        refine Nat.le_trans (List.length_filter_le _ _) ?_
        rw [List.length_take]; omega
      obtain ⟨L, hL⟩ : ∃ L, L = bothW (A.take i) B := ⟨_, rfl⟩
      rw [← hL] at hnx hbl HROW hc8 ⊢
      by_cases hxb : x ∈ B
      · rw [decide_eq_true hxb] at HHAS
        rw [if_pos hxb] at hnx
        have HNX := Lib.hid hnx
        clear hL hx hrow hnx hxb hf3r
        go_wp2_with (first
          | (go_at_call 16; refine (HHAS.out).mono ?_; rintro e w7 ⟨rfl, rfl⟩)
          | (at_builtin; refine wpL_append1 rfl _ _ 22 rfl w6.heap.size 9 iS (.string ⟨#[]⟩) 16 Try.underlying22 hiS hS0 hS1 hS2 rfl _ L.length (L.map encStr) rfl HROW.out.1 (encStr x) rfl rfl (by omega) (by simp only [maxLen]; omega) HROW.out.2.size ?_; intro v9 w9 hown9 hf9 _; have HR9 := Lib.hid (HROW.out.push hown9 hf9); clear hown9 hf9))
        rw [← HNX.out] at HR9
        go_roundw
        case rel => exact ⟨i + 1, by omega, by go_num, HR9.out⟩
        case measure => simp [intOf]; omega
      · rw [decide_eq_false hxb] at HHAS
        rw [if_neg hxb, List.append_nil] at hnx
        have HNX := Lib.hid hnx
        clear hL hx hrow hnx hxb hf3r
        go_wp2_with (go_at_call 16; refine (HHAS.out).mono ?_; rintro e w7 ⟨rfl, rfl⟩)
        rw [← HNX.out] at HROW
        go_roundw
        case rel => exact ⟨i + 1, by omega, by go_num, by rw [← HNX.out]; exact HROW.out⟩
        case measure => simp [intOf]; omega
    · have hd : decide (i < A.length) = false := decide_eq_false hin
      obtain rfl : i = A.length := by omega
      rw [List.take_length] at hrow HROW
      obtain ⟨a8, c8, rfl, hc8, hm8⟩ := hrow.form
      have HB := Lib.hid hrow.strs
      have HA3 := Lib.hid (HS13.out.below hf3r)
      have HA4 := Lib.hid (HS23.out.below hf3r)
      have HA5 := Lib.hid (HS3.out.below hf3r)
      have HAL := Lib.hid (HALL.out.below hrow.2)
      have HWR := Lib.hid (HFW6.out.tr hrow.2)
      obtain ⟨nb, hnb⟩ : ∃ nb, nb = (bothW A B).length := ⟨_, rfl⟩
      rw [← hnb] at hc8 HB ⊢
      clear hrow hf3r HROW hnb
      go_wp2_with (first
        | (go_at_call 18; refine (HU.out _ _ (sets_new3 wr 22 _ _ _ A B R HA3.out HA4.out HA5.out)).mono ?_; rintro e w7 ⟨v7, rfl, hs7, hf7⟩; have hf07 := (Fr.alloc wr (.cells #[.slice p1 A.length q1, .slice p2 B.length q2, .slice p3 R.length q3] 22)).tr hf7; have HS7 := Lib.hid hs7; have HF7 := Lib.hid hf07; clear hs7 hf7 hf07)
        | (go_at_call 12; refine (HRO.out _ _ (HAL.out.below HF7.out)).mono ?_; rintro e w8 ⟨v8, rfl, hs8, hf8⟩; have HS8 := Lib.hid hs8; have HS78 := Lib.hid (HS7.out.below hf8); have HF8 := Lib.hid (HF7.out.tr hf8); clear hs8 hf8)
        | (go_at_call 10; have := w11; refine (HSB.out _ _ _ HS11.out (HB.out.below HF11.out)).mono ?_; rintro e w12 ⟨rfl, hf12⟩; have HF12 := Lib.hid (HF11.out.tr hf12); clear hf12)
        | (go_at_call 10; refine (HSU.out _ _ _ HS78.out HS8.out).mono ?_; rintro e w9 ⟨rfl, hf9⟩; have HF9 := Lib.hid (HF8.out.tr hf9); clear hf9)
        | (go_at_call 18; refine (HU0.out _).mono ?_; rintro e w10 ⟨v10, rfl, hs10, hf10⟩; obtain ⟨a10, c10, e10, hc10, hm10⟩ := hs10.form; have e10' : v10 = .slice a10 0 c10 := e10; clear e10; subst e10'; have HF10 := Lib.hid (HF9.out.tr hf10); clear hs10 hf10)
        | (go_at_call 19; refine (HME.out _ _ _ (HA3.out.below HF10.out) (HA4.out.below HF10.out)).mono ?_; rintro e w11 ⟨v11, rfl, hs11, hf11⟩; have HS11 := Lib.hid hs11; have HF11 := Lib.hid (HF10.out.tr hf11); clear hs11 hf11)
        | (go_at_call 9; refine (HAW.out _).mono ?_; rintro e w20 ⟨rfl, hf20⟩))
      go_ret
      exact ⟨rfl, (HWR.out.tr HF12.out).tr hf20⟩
theorem wsjoins_any (hU : ProgWUnion) (hM : ProgWMeet) (hC : ProgWCat) (l m r : Words) (v u t : Value) (w : World) (h : strsAt w v l) (g : strsAt w u m) (i : strsAt w t r) :
    Calls Try.prog 4 #[v, u, t] w fun e w' => e = .returned (.bool true) ∧ Fr [] w w' := by
  cases hfl : fewW l with
  | false => exact wsjoins_bad hC l m r v u t w h g i (.inl hfl)
  | true =>
    cases hfm : fewW m with
    | false => exact wsjoins_bad hC l m r v u t w h g i (.inr (.inl ⟨hfl, hfm⟩))
    | true =>
      cases hfr : fewW r with
      | false => exact wsjoins_bad hC l m r v u t w h g i (.inr (.inr ⟨hfl, hfm, hfr⟩))
      | true => exact wsjoins_good hU hM hC l m r v u t w h g i hfl hfm hfr
end Go.Proofs.Ytmcekpgmebanaaa
