/- Stage 17: KeyTexts: the text of any key, that it is read as it, and which of two keys is ahead. (Made by gen_kyo.py.) -/
import Derived.Test.YtjlkcdmeiakkbaaDoorKyH
import Derived.Test.YtjlkcdmeiakkbaaDoorKyK
import Derived.Test.YtjlkcdmeiakkbaaDoorKyM
set_option linter.unusedVariables false
set_option linter.unusedSimpArgs false
namespace Go.Proofs.YtjlkcdmeiakkbaaDoor
open Go.RowKit

set_option maxRecDepth 100000 in
theorem texts_in (h1 h2 : List UInt8) (k1 k2 : Int) (w : World) (hl1 : h1.length = 32) (hl2 : h2.length = 32) (hv : VarsAt w) (hk : (1 ≤ k1 ∧ k1 ≤ 4)) :
    Calls Tryd.prog 3 #[.agg (keyC h1 k1), .agg (keyC h2 k2)] w fun e w' => e = .returned (.bool true) ∧ Fr [] w w' := by
  have hTl := keyT_length_le (k := k1) hl1
  have hTl2 := keyT_length_le (k := k2) hl2
  have HT := Lib.hid (fun wx (hx : VarsAt wx) => ktext_any h1 k1 wx hl1 hx)
  have HR1 := Lib.hid (fun wx => rktext_any h1 k1 wx hl1)
  have HR2 := Lib.hid (fun wx => rktext_any h2 k2 wx hl2)
  have HLe := Lib.hid (fun wx (hx : VarsAt wx) => kless_any h1 h2 k1 k2 wx hl1 hl2 hx)
  have HRL := Lib.hid (fun wx => rless_any (keyT h1 k1) (keyT h2 k2) wx (by simp [maxLen]; omega) (by simp [maxLen]; omega))
  have HP := Lib.hid (fun wx (hx : VarsAt wx) => kparse_any (keyT h1 k1) wx (by omega) hx)
  unfold encStr at HRL
  have hcs1 := sizeK (k := k1) hl1
  have hcs2 := sizeK (k := k2) hl2
  have hc11 := keyC_one h1 k1
  have hZC : (keyC zeroH 0).size = (keyC h1 k1).size := by rw [keyC_size rfl, keyC_size hl1]
  have hzz := zeroK
  have hne : keyT h1 k1 ≠ [] := fun q => (keyT_nil hl1).1 q hk
  have hp := keyP_text hl1 hk.1 hk.2
  have hkd : keyD (keyT h1 k1) = (h1, k1) := by unfold keyD; rw [hp]; rfl
  have heq := equal_keys h1 h1 k1 k1 hl1 hl1
  rw [decide_eq_true ⟨rfl, rfl⟩] at heq
  rw [hp, hkd] at HP
  obtain ⟨C1, hC1⟩ : ∃ C, C = keyC h1 k1 := ⟨_, rfl⟩
  obtain ⟨C2, hC2⟩ : ∃ C, C = keyC h2 k2 := ⟨_, rfl⟩
  obtain ⟨Z, hZ⟩ : ∃ C, C = keyC zeroH 0 := ⟨_, rfl⟩
  have hKP : KP (h1, k1) (some (h1, k1)).isSome = .tuple #[.agg C1, .bool true] := by rw [hC1]; rfl
  rw [hKP] at HP
  rw [← hC1] at heq HT HR1 HLe hcs1 hc11 hZC
  rw [← hZ] at hzz hZC
  rw [← hC2] at HR2 HLe hcs2
  rw [← hC1, ← hC2]
  generalize keyT h1 k1 = T at *
  generalize keyT h2 k2 = T2 at *
  have hem : T.isEmpty = false := by cases T with | nil => exact (hne rfl).elim | cons _ _ => rfl
  have hTT : (T == T) = true := beq_self_eq_true T
  have HV := Lib.hid hv
  obtain ⟨L, hL⟩ : ∃ L, L = lessB T T2 := ⟨_, rfl⟩
  rw [← hL] at HLe HRL
  have hLL : (L != L) = false := by simp
  clear hL hne hp hkd hKP hC1 hC2 hZ hTl hTl2 hv hl1 hl2 hk
  go_enter Tryd.func3, Tryd.ntmps3
  go_wp2_with (first
    | (refine wpL_boxArr rfl _ _ rfl C1 rfl ?_; intro w1 hh1 hf1 hs1; refine wpL_boxArr rfl _ _ rfl C2 rfl ?_; intro w2 hh2 hf2 hs2; have hf12 := hf1.trans hf2 (by simp) (n := []) (by simp); have hh12 := hf2.heap hh1.out (by simp))
    | (refine wpList_load_row rfl _ _ rfl w.heap.size rfl _ C1 _ _ hh12 Tryd.underlying24 rfl hcs1 ?_)
    | (go_at_call 7; refine (HT.out _ (HV.out.below hf12)).mono ?_; rintro e w3 ⟨rfl, hf3⟩))
  have hf13 := hf12.trans hf3 (by simp) (n := []) (by simp)
  refine wp_region_G [] [(0, false), (1, false), (2, true), (3, false), (4, false), (5, false), (6, false), (8, false), (10, false), (7, true), (9, true), (11, true), (12, true), (13, false), (14, false)] 46 rfl (by kernel_rfl) (by kernel_rfl) (by kernel_rfl) (fun c a d v w h => by cases d <;> exact h) (fun w4 hf4 => ?_)
  simp only [List.map_cons, List.map_nil, List.getElem?_toArray, List.getElem?_cons_succ, List.getElem?_cons_zero, Option.getD_some]
  have L1 : Later [] w4 (fun w' => w'.heap[w.heap.size]? = some (.cells C1 24 (0, 0))) := fun w' hf' => hf'.heap (hf4.heap (hf3.heap hh12 (by simp)) (by simp)) (by simp)
  have L2 : Later [] w4 (fun w' => w'.heap[w1.heap.size]? = some (.cells C2 24 (0, 0))) := fun w' hf' => hf'.heap (hf4.heap (hf3.heap hh2.out (by simp)) (by simp)) (by simp)
  have hf14 := hf13.trans hf4 (by simp) (n := []) (by simp)
  repeat (apply wpG_t; · (intro w' hf'; have c1 := L1 w' hf'; go_wp2_with (refine wpList_load_row rfl _ _ rfl w.heap.size rfl _ C1 _ _ c1 Tryd.underlying24 rfl hcs1 ?_); exact ⟨rfl, rfl⟩))
  refine wpG_x ?_
  go_wp2_with (go_at_call 8; refine (HR1.out _).mono ?_; rintro e w5 ⟨rfl, hf5⟩)
  refine ⟨hf5, rfl, ?_⟩
  have L1 := L1.next hf5
  have L2 := L2.next hf5
  have hf15 := hf14.trans hf5 (by simp) (n := []) (by simp)
  repeat (apply wpG_t; · (intro w' hf'; have c1 := L1 w' hf'; have c2 := L2 w' hf'; go_wp2_with (first | (refine wpL_loadW rfl _ _ rfl w.heap.size rfl _ C1 _ _ c1 Tryd.underlying24 rfl hcs1 ?_) | (refine wpL_loadW rfl _ _ rfl w1.heap.size rfl _ C2 _ _ c2 Tryd.underlying24 rfl hcs2 ?_)); exact ⟨rfl, rfl⟩))
  refine wpG_x ?_
  go_wp2_with (go_at_call 9; refine (HLe.out _ (HV.out.below hf15)).mono ?_; rintro e w6 ⟨rfl, hf6⟩)
  refine ⟨hf6, rfl, ?_⟩
  refine wpG_x ?_
  go_wp2_with (go_at_call 8; refine (HR1.out _).mono ?_; rintro e w7 ⟨rfl, hf7⟩)
  refine ⟨hf7, rfl, ?_⟩
  refine wpG_x ?_
  go_wp2_with (go_at_call 8; refine (HR2.out _).mono ?_; rintro e w8 ⟨rfl, hf8⟩)
  refine ⟨hf8, rfl, ?_⟩
  refine wpG_x ?_
  go_wp2_with (go_at_call 10; refine (HRL.out _).mono ?_; rintro e w9 ⟨rfl, hf9⟩)
  refine ⟨hf9, rfl, ?_⟩
  have hf69 := ((hf6.trans hf7 (by simp) (n := []) (by simp)).trans hf8 (by simp) (n := []) (by simp)).trans hf9 (by simp) (n := []) (by simp)
  have hf19 := hf15.trans hf69 (by simp) (n := []) (by simp)
  have hh9 := L1 w9 hf69
  have hlt9 := lt_k hh9
  repeat (apply wpG_t; · (intro w' hf'; go_wp2_with fail; exact ⟨rfl, rfl⟩))
  refine wpG_end ?_
  clear L1 L2 hf12 hf13 hf14 hf15 hf69 hf3 hf4 hf5 hf6 hf7 hf8 hf9 hf1 hf2 hh12 hh2
  go_wp2_with (first
    | (go_at_call 11; refine (HP.out _ (HV.out.below hf19)).mono ?_; rintro e wa ⟨rfl, hfa⟩; refine Hid.out ?_))
  refine Lib.hid ?_
  have hf1a := hf19.trans hfa (by simp) (n := []) (by simp)
  have hha := hfa.heap hh9 (by simp)
  have hlta := lt_k hha
  go_wp2_with (first
    | (refine wpL_newArr rfl 24 rfl Z hzz ?_; intro wb hhb hfb hsb; refine wpL_storeArr rfl _ _ _ rfl wa.heap.size C1 Z rfl rfl _ hhb.out hcs1 hZC hc11 ?_; intro wc hhc hfc hsc; have hf1c : Fr [] w wc := (hf1a.trans hfb (by simp) (n := []) (by simp)).trans hfc (by simp) (by simp; have := hf1a.size; omega); have hhc1 := hfc.heap (hfb.heap hha (by simp)) (by simp; omega))
    | (refine wpL_loadW rfl _ _ rfl wa.heap.size rfl _ C1 _ _ hhc.out Tryd.underlying24 rfl hcs1 ?_)
    | (refine wpL_loadW rfl _ _ rfl w.heap.size rfl _ C1 _ _ hhc1 Tryd.underlying24 rfl hcs1 ?_)
    | (go_at_call 12; refine (awake_any _ (HV.out.below hf1c)).mono ?_; rintro e wd ⟨rfl, hfd⟩))
  go_ret
  exact ⟨rfl, hf1c.trans hfd (by simp) (by simp)⟩
set_option maxRecDepth 100000 in
theorem texts_out (h1 h2 : List UInt8) (k1 k2 : Int) (w : World) (hl1 : h1.length = 32) (hl2 : h2.length = 32) (hv : VarsAt w) (hk : ¬ (1 ≤ k1 ∧ k1 ≤ 4)) :
    Calls Tryd.prog 3 #[.agg (keyC h1 k1), .agg (keyC h2 k2)] w fun e w' => e = .returned (.bool true) ∧ Fr [] w w' := by
  have hTl := keyT_length_le (k := k1) hl1
  have hTl2 := keyT_length_le (k := k2) hl2
  have HT := Lib.hid (fun wx (hx : VarsAt wx) => ktext_any h1 k1 wx hl1 hx)
  have HR1 := Lib.hid (fun wx => rktext_any h1 k1 wx hl1)
  have HR2 := Lib.hid (fun wx => rktext_any h2 k2 wx hl2)
  have HLe := Lib.hid (fun wx (hx : VarsAt wx) => kless_any h1 h2 k1 k2 wx hl1 hl2 hx)
  have HRL := Lib.hid (fun wx => rless_any (keyT h1 k1) (keyT h2 k2) wx (by simp [maxLen]; omega) (by simp [maxLen]; omega))
  have HP := Lib.hid (fun wx (hx : VarsAt wx) => kparse_any (keyT h1 k1) wx (by omega) hx)
  unfold encStr at HRL
  have hcs1 := sizeK (k := k1) hl1
  have hcs2 := sizeK (k := k2) hl2
  have hc11 := keyC_one h1 k1
  have hZC : (keyC zeroH 0).size = (keyC h1 k1).size := by rw [keyC_size rfl, keyC_size hl1]
  have hzz := zeroK
  have hp : keyP (keyT h1 k1) = none := by rw [keyT_off hk]; rfl
  have hkd : keyD (keyT h1 k1) = (zeroH, 0) := by unfold keyD; rw [hp]; rfl
  have hszz := sizeK (h := zeroH) (k := 0) rfl
  have hz1 := keyC_one zeroH 0
  rw [keyT_off hk] at HT HR1 HLe HRL HP hkd hp
  rw [hp, hkd] at HP
  obtain ⟨C1, hC1⟩ : ∃ C, C = keyC h1 k1 := ⟨_, rfl⟩
  obtain ⟨C2, hC2⟩ : ∃ C, C = keyC h2 k2 := ⟨_, rfl⟩
  obtain ⟨Z, hZ⟩ : ∃ C, C = keyC zeroH 0 := ⟨_, rfl⟩
  have hKP : KP (zeroH, 0) (none : Option (List UInt8 × Int)).isSome = .tuple #[.agg Z, .bool false] := by rw [hZ]; rfl
  rw [hKP] at HP
  rw [← hC1] at HT HR1 HLe hcs1 hc11
  rw [← hZ] at hzz hszz hz1
  rw [← hC2] at HR2 HLe hcs2
  rw [← hC1, ← hC2]
  clear hZC
  have hZC : Z.size = Z.size := rfl
  generalize keyT h2 k2 = T2 at *
  have HV := Lib.hid hv
  obtain ⟨L, hL⟩ : ∃ L, L = lessB [] T2 := ⟨_, rfl⟩
  rw [← hL] at HLe HRL
  have hLL : (L != L) = false := by simp
  clear hL hp hkd hKP hC1 hC2 hZ hTl hTl2 hv hl1 hl2 hk hZC
  go_enter Tryd.func3, Tryd.ntmps3
  go_wp2_with (first
    | (refine wpL_boxArr rfl _ _ rfl C1 rfl ?_; intro w1 hh1 hf1 hs1; refine wpL_boxArr rfl _ _ rfl C2 rfl ?_; intro w2 hh2 hf2 hs2; have hf12 := hf1.trans hf2 (by simp) (n := []) (by simp); have hh12 := hf2.heap hh1.out (by simp))
    | (refine wpList_load_row rfl _ _ rfl w.heap.size rfl _ C1 _ _ hh12 Tryd.underlying24 rfl hcs1 ?_)
    | (go_at_call 7; refine (HT.out _ (HV.out.below hf12)).mono ?_; rintro e w3 ⟨rfl, hf3⟩))
  have hf13 := hf12.trans hf3 (by simp) (n := []) (by simp)
  refine wp_region_G [] [(0, false), (1, false), (2, true), (3, false), (4, false), (5, false), (6, false), (8, false), (10, false), (7, true), (9, true), (11, true), (12, true), (13, false), (14, false)] 46 rfl (by kernel_rfl) (by kernel_rfl) (by kernel_rfl) (fun c a d v w h => by cases d <;> exact h) (fun w4 hf4 => ?_)
  simp only [List.map_cons, List.map_nil, List.getElem?_toArray, List.getElem?_cons_succ, List.getElem?_cons_zero, Option.getD_some]
  have L1 : Later [] w4 (fun w' => w'.heap[w.heap.size]? = some (.cells C1 24 (0, 0))) := fun w' hf' => hf'.heap (hf4.heap (hf3.heap hh12 (by simp)) (by simp)) (by simp)
  have L2 : Later [] w4 (fun w' => w'.heap[w1.heap.size]? = some (.cells C2 24 (0, 0))) := fun w' hf' => hf'.heap (hf4.heap (hf3.heap hh2.out (by simp)) (by simp)) (by simp)
  have hf14 := hf13.trans hf4 (by simp) (n := []) (by simp)
  repeat (apply wpG_t; · (intro w' hf'; have c1 := L1 w' hf'; go_wp2_with (refine wpList_load_row rfl _ _ rfl w.heap.size rfl _ C1 _ _ c1 Tryd.underlying24 rfl hcs1 ?_); exact ⟨rfl, rfl⟩))
  refine wpG_x ?_
  go_wp2_with (go_at_call 8; refine (HR1.out _).mono ?_; rintro e w5 ⟨rfl, hf5⟩)
  refine ⟨hf5, rfl, ?_⟩
  have L1 := L1.next hf5
  have L2 := L2.next hf5
  have hf15 := hf14.trans hf5 (by simp) (n := []) (by simp)
  repeat (apply wpG_t; · (intro w' hf'; have c1 := L1 w' hf'; have c2 := L2 w' hf'; go_wp2_with (first | (refine wpL_loadW rfl _ _ rfl w.heap.size rfl _ C1 _ _ c1 Tryd.underlying24 rfl hcs1 ?_) | (refine wpL_loadW rfl _ _ rfl w1.heap.size rfl _ C2 _ _ c2 Tryd.underlying24 rfl hcs2 ?_)); exact ⟨rfl, rfl⟩))
  refine wpG_x ?_
  go_wp2_with (go_at_call 9; refine (HLe.out _ (HV.out.below hf15)).mono ?_; rintro e w6 ⟨rfl, hf6⟩)
  refine ⟨hf6, rfl, ?_⟩
  refine wpG_x ?_
  go_wp2_with (go_at_call 8; refine (HR1.out _).mono ?_; rintro e w7 ⟨rfl, hf7⟩)
  refine ⟨hf7, rfl, ?_⟩
  refine wpG_x ?_
  go_wp2_with (go_at_call 8; refine (HR2.out _).mono ?_; rintro e w8 ⟨rfl, hf8⟩)
  refine ⟨hf8, rfl, ?_⟩
  refine wpG_x ?_
  go_wp2_with (go_at_call 10; refine (HRL.out _).mono ?_; rintro e w9 ⟨rfl, hf9⟩)
  refine ⟨hf9, rfl, ?_⟩
  have hf69 := ((hf6.trans hf7 (by simp) (n := []) (by simp)).trans hf8 (by simp) (n := []) (by simp)).trans hf9 (by simp) (n := []) (by simp)
  have hf19 := hf15.trans hf69 (by simp) (n := []) (by simp)
  have hh9 := L1 w9 hf69
  have hlt9 := lt_k hh9
  repeat (apply wpG_t; · (intro w' hf'; go_wp2_with fail; exact ⟨rfl, rfl⟩))
  refine wpG_end ?_
  clear L1 L2 hf12 hf13 hf14 hf15 hf69 hf3 hf4 hf5 hf6 hf7 hf8 hf9 hf1 hf2 hh12 hh2
  go_wp2_with (first
    | (go_at_call 11; refine (HP.out _ (HV.out.below hf19)).mono ?_; rintro e wa ⟨rfl, hfa⟩; refine Hid.out ?_))
  refine Lib.hid ?_
  have hf1a := hf19.trans hfa (by simp) (n := []) (by simp)
  have hha := hfa.heap hh9 (by simp)
  have hlta := lt_k hha
  go_wp2_with (first
    | (refine wpL_newArr rfl 24 rfl Z hzz ?_; intro wb hhb hfb hsb; refine wpL_storeArr rfl _ _ _ rfl wa.heap.size Z Z rfl rfl _ hhb.out hszz rfl hz1 ?_; intro wc hhc hfc hsc; have hf1c : Fr [] w wc := (hf1a.trans hfb (by simp) (n := []) (by simp)).trans hfc (by simp) (by simp; have := hf1a.size; omega); have hhc1 := hfc.heap (hfb.heap hha (by simp)) (by simp; omega))
    | (refine wpL_loadW rfl _ _ rfl wa.heap.size rfl _ Z _ _ hhc.out Tryd.underlying24 rfl hszz ?_)
    | (refine wpL_loadW rfl _ _ rfl w.heap.size rfl _ C1 _ _ hhc1 Tryd.underlying24 rfl hcs1 ?_)
    | (go_at_call 12; refine (awake_any _ (HV.out.below hf1c)).mono ?_; rintro e wd ⟨rfl, hfd⟩))
  go_ret
  exact ⟨rfl, hf1c.trans hfd (by simp) (by simp)⟩
theorem keyTexts_any (h1 h2 : List UInt8) (k1 k2 : Int) (w : World) (hl1 : h1.length = 32) (hl2 : h2.length = 32) (hv : VarsAt w) :
    Calls Tryd.prog 3 #[.agg (keyC h1 k1), .agg (keyC h2 k2)] w fun e w' => e = .returned (.bool true) ∧ Fr [] w w' := by
  by_cases hk : 1 ≤ k1 ∧ k1 ≤ 4
  · exact texts_in h1 h2 k1 k2 w hl1 hl2 hv hk
  · exact texts_out h1 h2 k1 k2 w hl1 hl2 hv hk
end Go.Proofs.YtjlkcdmeiakkbaaDoor
