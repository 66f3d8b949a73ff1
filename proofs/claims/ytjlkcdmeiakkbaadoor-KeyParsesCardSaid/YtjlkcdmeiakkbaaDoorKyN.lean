/- Stage 17: KeyParses: the key of any text, or that there is none. (Made by gen_kyn.py.) -/
import Derived.Test.YtjlkcdmeiakkbaaDoorKyI
import Derived.Test.YtjlkcdmeiakkbaaDoorKyJ
import Derived.Test.YtjlkcdmeiakkbaaDoorKyM
set_option linter.unusedVariables false
set_option linter.unusedSimpArgs false
namespace Go.Proofs.YtjlkcdmeiakkbaaDoor
open Go.RowKit

set_option maxRecDepth 100000 in
theorem parses_long (s : List UInt8) (w : World) (hl : 100 < s.length) (hv : VarsAt w) :
    Calls Tryd.prog 4 #[.string ⟨s.toArray⟩] w fun e w' => e = .returned (.bool true) ∧ Fr [] w w' := by
  have hd : decide (100 < (s.length : Int)) = true := decide_eq_true (by omega)
  have HV := Lib.hid hv
  clear hl hv
  go_enter Tryd.func4, Tryd.ntmps4
  go_wp2_with (go_at_call 12; refine (awake_any _ HV.out).mono ?_; rintro e w1 ⟨rfl, hf1⟩)
  go_ret
  exact ⟨rfl, hf1⟩
set_option maxRecDepth 100000 in
theorem parses_true (s : List UInt8) (w : World) (hl : s.length ≤ 100) (hv : VarsAt w) (h : List UInt8) (k : Int) (hp : keyP s = some (h, k)) :
    Calls Tryd.prog 4 #[.string ⟨s.toArray⟩] w fun e w' => e = .returned (.bool true) ∧ Fr [] w w' := by
  have hd : decide (100 < (s.length : Int)) = false := decide_eq_false (by omega)
  have HP := Lib.hid (fun wx (hx : VarsAt wx) => kparse_any s wx (by omega) hx)
  have HR := Lib.hid (fun wx => rparse_any s wx)
  have hkd : keyD s = (h, k) := by unfold keyD; rw [hp]; rfl
  rw [hp, hkd] at HP HR
  obtain ⟨hh, hk1, hk2, ht, -⟩ := keyP_spec hp
  have HT := Lib.hid (fun wx (hx : VarsAt wx) => ktext_any h k wx hh hx)
  rw [ht] at HT
  have heq := equal_keys h h k k hh hh
  have hcs := sizeK (k := k) hh
  have hc1 := keyC_one h k
  have hZC : (keyC zeroH 0).size = (keyC h k).size := by rw [keyC_size rfl, keyC_size hh]
  rw [decide_eq_true ⟨rfl, rfl⟩] at heq
  obtain ⟨C, hC⟩ : ∃ C, C = keyC h k := ⟨_, rfl⟩
  have hKP : KP (h, k) (some (h, k)).isSome = .tuple #[.agg C, .bool true] := by rw [hC]; rfl
  rw [hKP] at HP HR
  rw [← hC] at HT heq hcs hc1 hZC
  have hss : (s == s) = true := beq_self_eq_true s
  have hzz := zeroK
  obtain ⟨Z, hZ⟩ : ∃ Z, Z = keyC zeroH 0 := ⟨_, rfl⟩
  rw [← hZ] at hzz hZC
  clear hZ hh hk1 hk2 ht
  have HV := Lib.hid hv
  clear hl hv hp hkd hC hKP
  go_enter Tryd.func4, Tryd.ntmps4
  go_wp2_with (first
    | (go_at_call 11; refine (HP.out _ HV.out).mono ?_; rintro e w1 ⟨rfl, hf1⟩; refine Hid.out ?_))
  refine Lib.hid ?_
  go_wp2_with (first
    | (refine wpL_newArr rfl 24 rfl Z hzz ?_; intro w2 hh2 hf2 hs2; refine wpL_storeArr rfl _ _ _ rfl w1.heap.size C Z rfl rfl _ hh2.out hcs hZC hc1 ?_; intro w3 hh3 hf3 hs3; have hz1 := hf1.size; have hf13 : Fr [] w w3 := (hf1.trans hf2 (by simp) (n := []) (by simp)).trans hf3 (by simp) (by simp; omega); clear hz1)
    | (go_at_call 13; refine (HR.out _).mono ?_; rintro e w4 ⟨rfl, hf4⟩; have hf14 : Fr [] w w4 := hf13.trans hf4 (by simp) (by simp); refine Hid.out ?_))
  refine Lib.hid ?_
  go_wp2_with (first
    | (refine wpL_newArr rfl 24 rfl Z hzz ?_; intro w5 hh5 hf5 hs5; refine wpL_storeArr rfl _ _ _ rfl w4.heap.size C Z rfl rfl _ hh5.out hcs hZC hc1 ?_; intro w6 hh6 hf6 hs6; have hz4 := hf14.size; have hf16 : Fr [] w w6 := (hf14.trans hf5 (by simp) (n := []) (by simp)).trans hf6 (by simp) (by simp; omega); have hlt := lt_k (hf4.heap hh3.out (by simp)); have hh36 := hf6.heap (hf5.heap (hf4.heap hh3.out (by simp)) (by simp)) (by simp; omega); clear hz4 hlt)
    | (refine wpL_loadW rfl _ _ rfl w1.heap.size rfl _ C _ _ hh36 Tryd.underlying24 rfl hcs ?_)
    | (refine wpL_loadW rfl _ _ rfl w4.heap.size rfl _ C _ _ hh6.out Tryd.underlying24 rfl hcs ?_)
    | (go_at_call 7; refine (HT.out _ (HV.out.below hf16)).mono ?_; rintro e w7 ⟨rfl, hf7⟩; have hf17 := hf16.trans hf7 (by simp) (n := []) (by simp))
    | (go_at_call 12; refine (awake_any _ (HV.out.below hf17)).mono ?_; rintro e w8 ⟨rfl, hf8⟩))
  go_ret
  exact ⟨rfl, hf17.trans hf8 (by simp) (by simp)⟩
set_option maxRecDepth 100000 in
theorem parses_false (s : List UInt8) (w : World) (hl : s.length ≤ 100) (hv : VarsAt w) (hp : keyP s = none) :
    Calls Tryd.prog 4 #[.string ⟨s.toArray⟩] w fun e w' => e = .returned (.bool true) ∧ Fr [] w w' := by
  have hd : decide (100 < (s.length : Int)) = false := decide_eq_false (by omega)
  have HP := Lib.hid (fun wx (hx : VarsAt wx) => kparse_any s wx (by omega) hx)
  have HR := Lib.hid (fun wx => rparse_any s wx)
  have hkd : keyD s = (zeroH, 0) := by unfold keyD; rw [hp]; rfl
  rw [hp, hkd] at HP HR
  have heq := equal_keys zeroH zeroH 0 0 rfl rfl
  have hcs := sizeK (h := zeroH) (k := 0) rfl
  have hc1 := keyC_one zeroH 0
  rw [decide_eq_true ⟨rfl, rfl⟩] at heq
  obtain ⟨C, hC⟩ : ∃ C, C = keyC zeroH 0 := ⟨_, rfl⟩
  have hKP : KP (zeroH, 0) (none : Option (List UInt8 × Int)).isSome = .tuple #[.agg C, .bool false] := by rw [hC]; rfl
  rw [hKP] at HP HR
  rw [← hC] at heq hcs hc1
  have hzz := zeroK
  obtain ⟨Z, hZ⟩ : ∃ Z, Z = keyC zeroH 0 := ⟨_, rfl⟩
  have hZC : Z.size = C.size := by rw [hZ, hC]
  rw [← hZ] at hzz
  clear hZ
  have HV := Lib.hid hv
  clear hl hv hp hkd hC hKP
  go_enter Tryd.func4, Tryd.ntmps4
  go_wp2_with (first
    | (go_at_call 11; refine (HP.out _ HV.out).mono ?_; rintro e w1 ⟨rfl, hf1⟩; refine Hid.out ?_))
  refine Lib.hid ?_
  go_wp2_with (first
    | (refine wpL_newArr rfl 24 rfl Z hzz ?_; intro w2 hh2 hf2 hs2; refine wpL_storeArr rfl _ _ _ rfl w1.heap.size C Z rfl rfl _ hh2.out hcs hZC hc1 ?_; intro w3 hh3 hf3 hs3; have hz1 := hf1.size; have hf13 : Fr [] w w3 := (hf1.trans hf2 (by simp) (n := []) (by simp)).trans hf3 (by simp) (by simp; omega); clear hz1)
    | (go_at_call 13; refine (HR.out _).mono ?_; rintro e w4 ⟨rfl, hf4⟩; have hf14 : Fr [] w w4 := hf13.trans hf4 (by simp) (by simp); refine Hid.out ?_))
  refine Lib.hid ?_
  go_wp2_with (first
    | (refine wpL_newArr rfl 24 rfl Z hzz ?_; intro w5 hh5 hf5 hs5; refine wpL_storeArr rfl _ _ _ rfl w4.heap.size C Z rfl rfl _ hh5.out hcs hZC hc1 ?_; intro w6 hh6 hf6 hs6; have hz4 := hf14.size; have hf16 : Fr [] w w6 := (hf14.trans hf5 (by simp) (n := []) (by simp)).trans hf6 (by simp) (by simp; omega); have hlt := lt_k (hf4.heap hh3.out (by simp)); have hh36 := hf6.heap (hf5.heap (hf4.heap hh3.out (by simp)) (by simp)) (by simp; omega); clear hz4 hlt)
    | (refine wpL_loadW rfl _ _ rfl w1.heap.size rfl _ C _ _ hh36 Tryd.underlying24 rfl hcs ?_)
    | (refine wpL_loadW rfl _ _ rfl w4.heap.size rfl _ C _ _ hh6.out Tryd.underlying24 rfl hcs ?_)
    | (go_at_call 12; refine (awake_any _ (HV.out.below hf16)).mono ?_; rintro e w8 ⟨rfl, hf8⟩))
  go_ret
  exact ⟨rfl, hf16.trans hf8 (by simp) (by simp)⟩
theorem keyParses_any (s : List UInt8) (w : World) (hv : VarsAt w) :
    Calls Tryd.prog 4 #[.string ⟨s.toArray⟩] w fun e w' => e = .returned (.bool true) ∧ Fr [] w w' := by
  by_cases hl : s.length ≤ 100
  · cases hp : keyP s with
    | none => exact parses_false s w hl hv hp
    | some x => exact parses_true s w hl hv x.1 x.2 hp
  · exact parses_long s w (by omega) hv
end Go.Proofs.YtjlkcdmeiakkbaaDoor
