/- Stage 17: awake. -/
import Derived.Test.YtjlkcdmeiakkbaaGreatDoorKyG
set_option linter.unusedVariables false
set_option linter.unusedSimpArgs false
namespace Go.Proofs.YtjlkcdmeiakkbaaGreatDoor
open Go.RowKit

set_option maxRecDepth 100000 in
theorem awake_any (w : World) (hv : VarsAt w) :
    Calls Tryz.prog 5 #[] w fun e w' => e = .returned (.bool true) ∧ Fr [] w w' := by
  have H7 := Lib.hid (fun wx (hx : VarsAt wx) => kread_any [116, 45, 55] wx (by simp) hx)
  have H07 := Lib.hid (fun wx (hx : VarsAt wx) => kread_any [116, 45, 48, 55] wx (by simp) hx)
  have HW := Lib.hid (fun wx (hx : VarsAt wx) => kwrite_any ⟨4, zeroH, 0, 0⟩ wx rfl hx)
  rw [show (⟨4, zeroH, 0, 0⟩ : NameD).text = [106, 111, 117, 114, 110, 97, 108] from rfl] at HW
  rw [readN_t7] at H7
  rw [readN_t07] at H07
  have hb := built_name1 4
  have hzz := zeroNm
  have hs7 := sizeN (x := ⟨2, zeroH, 0, 7⟩) rfl
  have h17 := nameC_one ⟨2, zeroH, 0, 7⟩
  have hk7 := nameC_kd ⟨2, zeroH, 0, 7⟩
  have hn7 := nameC_n (x := ⟨2, zeroH, 0, 7⟩) rfl
  have hZ7 : (nameC zeroN).size = (nameC ⟨2, zeroH, 0, 7⟩).size := by rw [nameC_size rfl, nameC_size rfl]
  have hsz := sizeN (x := zeroN) rfl
  have h1z := nameC_one zeroN
  have hkz := nameC_kd zeroN
  have hnz := nameC_n (x := zeroN) rfl
  generalize nameC ⟨2, zeroH, 0, 7⟩ = C7 at *
  generalize nameC ⟨4, zeroH, 0, 0⟩ = C4 at *
  have hkz' : (nameC zeroN)[0]? = some (.int .i64 0) := hkz
  have hnz' : (nameC zeroN)[34]? = some (.int .i64 0) := hnz
  have hk7' : C7[0]? = some (.int .i64 2) := hk7
  have hn7' : C7[34]? = some (.int .i64 7) := hn7
  clear hkz hnz hk7 hn7
  generalize nameC zeroN = Z at *
  have HV := Lib.hid hv
  clear hv
  go_enter Tryz.func5, Tryz.ntmps5
  go_wp2_with (first
    | (go_at_call 8; with_reducible refine (H7.out _ HV.out).mono ?_; rintro e w1 ⟨rfl, hf1⟩; refine Hid.out ?_))
  refine Lib.hid ?_
  go_wp2_with (first
    | (refine wpL_newArr rfl 39 rfl Z hzz ?_; intro w2 hh2 hf2 hs2; refine wpL_storeArr rfl _ _ _ rfl w1.heap.size C7 Z rfl rfl _ hh2.out hs7 hZ7 h17 ?_; intro w3 hh3 hf3 hs3; have hz1 := hf1.size; have hf13 : Fr [] w w3 := (hf1.trans hf2 (by simp) (n := []) (by simp)).trans hf3 (by simp) (by simp; omega); clear hz1)
    | (go_at_call 8; refine (H07.out _ (HV.out.below hf13)).mono ?_; rintro e w4 ⟨rfl, hf4⟩; have hf14 : Fr [] w w4 := hf13.trans hf4 (by simp) (by simp); refine Hid.out ?_))
  refine Lib.hid ?_
  go_wp2_with (first
    | (refine wpL_newArr rfl 39 rfl Z hzz ?_; intro w5 hh5 hf5 hs5; refine wpL_storeArr rfl _ _ _ rfl w4.heap.size Z Z rfl rfl _ hh5.out hsz rfl h1z ?_; intro w6 hh6 hf6 hs6; have hz4 := hf14.size; have hf16 : Fr [] w w6 := (hf14.trans hf5 (by simp) (n := []) (by simp)).trans hf6 (by simp) (by simp; omega); have hlt := lt_k (hf4.heap hh3.out (by simp)); have hh36 := hf6.heap (hf5.heap (hf4.heap hh3.out (by simp)) (by simp)) (by simp; omega); have ca := (cell_of_heap hh36 0).trans hk7'; have cb := (cell_of_heap hh36 34).trans hn7'; have cc := (cell_of_heap hh6.out 0).trans hkz'; have cd := (cell_of_heap hh6.out 34).trans hnz'; clear hz4 hlt)
    | (refine wpL_build_want rfl _ _ rfl C4 _ rfl hb ?_)
    | (go_at_call 9; refine (HW.out _ (HV.out.below hf16)).mono ?_; rintro e w7 ⟨rfl, hf7⟩))
  go_ret
  exact ⟨rfl, hf16.trans hf7 (by simp) (by simp)⟩
end Go.Proofs.YtjlkcdmeiakkbaaGreatDoor
