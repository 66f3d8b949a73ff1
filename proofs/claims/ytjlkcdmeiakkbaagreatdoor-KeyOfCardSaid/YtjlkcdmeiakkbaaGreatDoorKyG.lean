/- Stage 17, the program: Read. -/
import Derived.Test.YtjlkcdmeiakkbaaGreatDoorKyF
set_option linter.unusedVariables false
set_option linter.unusedSimpArgs false
namespace Go.Proofs.YtjlkcdmeiakkbaaGreatDoor
open Go.RowKit

set_option maxRecDepth 100000 in
theorem kread_any (s : List UInt8) (w : World) (hl : s.length ≤ 1000000) (hv : VarsAt w) :
    Calls Tryz.prog 8 #[.string ⟨s.toArray⟩] w fun e w' => e = .returned (.agg (nameC (readN s))) ∧ Fr [] w w' := by
  have hzz := zeroNm
  have hb := built_name0
  have hcl := candN_length s
  have hs := sizeN hcl
  have h1 := nameC_one (candN s)
  have hsz := sizeN (x := zeroN) rfl
  have hz1 := nameC_one zeroN
  have hZs : (nameC zeroN).size = (nameC (candN s)).size := by rw [nameC_size (x := candN s) hcl]; rfl
  have HC := Lib.hid (fun wx (hv : VarsAt wx) => cand_any s wx hl hv)
  have HW := Lib.hid (fun wx (hv : VarsAt wx) => kwrite_any (candN s) wx hcl hv)
  have HV := Lib.hid hv
  have hR : readN s = if (candN s).text = s then candN s else zeroN := rfl
  obtain ⟨Z, hZ⟩ : ∃ Z, Z = nameC zeroN := ⟨_, rfl⟩
  obtain ⟨C, hC⟩ : ∃ C, C = nameC (candN s) := ⟨_, rfl⟩
  obtain ⟨X, hX⟩ : ∃ X, X = (candN s).text := ⟨_, rfl⟩
  rw [← hC] at hs h1 hZs HC HW
  rw [← hZ] at hzz hb hsz hz1 hZs
  rw [← hX] at HW hR
  by_cases hq : X = s
  · have hne : (X == s) = true := by rw [hq]; simp
    rw [hR, if_pos hq, ← hC]
    clear hZ hC hX hR hq hcl hv hl
    go_enter Tryz.func8, Tryz.ntmps8
    go_wp2_with (first
      | (refine wpL_newArr rfl 39 rfl Z hzz ?_; intro w1 hh1 hf1 hs1; refine Hid.out ?_))
    refine Lib.hid ?_
    go_wp2_with (first
      | (go_at_call 18; refine (HC.out _ (HV.out.below hf1)).mono ?_; rintro e w2 ⟨rfl, hf2⟩; have hh2 := hf2.heap hh1.out (by simp); have hlt2 := lt_k hh2; refine Hid.out ?_))
    refine Lib.hid ?_
    go_wp2_with (first
      | (refine wpL_newArr rfl 39 rfl Z hzz ?_; intro w3 hh3 hf3 hs3; refine wpL_storeArr rfl _ _ _ rfl w2.heap.size C Z rfl rfl _ hh3.out hs hZs h1 ?_; intro w4 hh4 hf4 hs4; have hf14 : Fr [] w w4 := ((hf1.trans hf2 (by simp) (n := []) (by simp)).trans hf3 (by simp) (n := []) (by simp)).trans hf4 (by simp) (by simp; have := hf1.size; have := hf2.size; omega); have hh14 := hf4.heap (hf3.heap hh2 (by simp)) (by simp; omega))
      | (refine wpList_load_row rfl _ _ rfl w2.heap.size rfl _ C _ _ (hf5.heap hh4.out (by simp)) Tryz.underlying39 rfl hs ?_; refine wpL_storeArr rfl _ _ _ rfl w.heap.size C Z rfl rfl _ (hf5.heap hh14 (by simp)) hs hZs h1 ?_; intro w6 hh6 hf6 hs6)
      | (refine wpList_load_row rfl _ _ rfl w2.heap.size rfl _ C _ _ hh4.out Tryz.underlying39 rfl hs ?_)
      | (go_at_call 9; refine (HW.out _ (HV.out.below hf14)).mono ?_; rintro e w5 ⟨rfl, hf5⟩))
    refine bodyPost_ret (v := .agg C) (results_cell_row rfl _ _ w.heap.size 39 C _ _ rfl hh6.out Tryz.underlying39 rfl hs) rfl ⟨rfl, ?_⟩
    exact (hf14.trans hf5 (by simp) (n := []) (by simp)).trans hf6 (by simp) (by simp)
  · have hne : (X == s) = false := by rw [beq_eq_false_iff_ne]; exact hq
    rw [hR, if_neg hq, ← hZ]
    clear hZ hC hX hR hq hcl hv hl
    go_enter Tryz.func8, Tryz.ntmps8
    go_wp2_with (first
      | (refine wpL_newArr rfl 39 rfl Z hzz ?_; intro w1 hh1 hf1 hs1; refine Hid.out ?_))
    refine Lib.hid ?_
    go_wp2_with (first
      | (go_at_call 18; refine (HC.out _ (HV.out.below hf1)).mono ?_; rintro e w2 ⟨rfl, hf2⟩; have hh2 := hf2.heap hh1.out (by simp); have hlt2 := lt_k hh2; refine Hid.out ?_))
    refine Lib.hid ?_
    go_wp2_with (first
      | (refine wpL_newArr rfl 39 rfl Z hzz ?_; intro w3 hh3 hf3 hs3; refine wpL_storeArr rfl _ _ _ rfl w2.heap.size C Z rfl rfl _ hh3.out hs hZs h1 ?_; intro w4 hh4 hf4 hs4; have hf14 : Fr [] w w4 := ((hf1.trans hf2 (by simp) (n := []) (by simp)).trans hf3 (by simp) (n := []) (by simp)).trans hf4 (by simp) (by simp; have := hf1.size; have := hf2.size; omega); have hh14 := hf4.heap (hf3.heap hh2 (by simp)) (by simp; omega))
      | (refine wpList_load_row rfl _ _ rfl w2.heap.size rfl _ C _ _ hh4.out Tryz.underlying39 rfl hs ?_)
      | (go_at_call 9; refine (HW.out _ (HV.out.below hf14)).mono ?_; rintro e w5 ⟨rfl, hf5⟩)
      | (refine wpL_build rfl _ _ rfl Z [] rfl hb ?_; refine wpL_storeArr rfl _ _ _ rfl w.heap.size Z Z rfl rfl _ (hf5.heap hh14 (by simp)) hsz rfl hz1 ?_; intro w6 hh6 hf6 hs6))
    refine bodyPost_ret (v := .agg Z) (results_cell_row rfl _ _ w.heap.size 39 Z _ _ rfl hh6.out Tryz.underlying39 rfl hsz) rfl ⟨rfl, ?_⟩
    exact (hf14.trans hf5 (by simp) (n := []) (by simp)).trans hf6 (by simp) (by simp)
end Go.Proofs.YtjlkcdmeiakkbaaGreatDoor
