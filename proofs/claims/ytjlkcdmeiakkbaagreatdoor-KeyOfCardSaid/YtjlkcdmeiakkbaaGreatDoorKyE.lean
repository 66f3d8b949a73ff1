/- Stage 17, the program: Write, candidate, Read. (The five cases of Write are made by gen_kye.py.) -/
import Derived.Test.YtjlkcdmeiakkbaaGreatDoorKyD
set_option linter.unusedVariables false
set_option linter.unusedSimpArgs false
namespace Go.Proofs.YtjlkcdmeiakkbaaGreatDoor
open Go.RowKit

set_option maxRecDepth 100000 in
theorem write_temp (x : NameD) (w : World) (hl : x.h.length = 32) (hv : VarsAt w) (hk : x.kd = 2) :
    Calls Tryz.prog 9 #[.agg (nameC x)] w fun e w' => e = .returned (.string ⟨x.text.toArray⟩) ∧ Fr [] w w' := by
  have hk1 : (x.kd == 1) = false := by rw [beq_eq_false_iff_ne]; omega
  have hk2 : (x.kd == 2) = true := by rw [hk]; rfl
  have hk3 : (x.kd == 3) = false := by rw [beq_eq_false_iff_ne]; omega
  have hk4 : (x.kd == 4) = false := by rw [beq_eq_false_iff_ne]; omega
  have hk5 : (x.kd == 5) = false := by rw [beq_eq_false_iff_ne]; omega
  have hX : x.text = numT 116 x.n := by unfold NameD.text nameT; rw [if_neg (by omega), if_pos hk]
  have h0 := nameC_kd x
  have hn := nameC_n hl
  have HV := Lib.hid hv
  rw [hX]
  have HN := Lib.hid (fun wx (hv : VarsAt wx) => numbered_any 116 x.n wx hv)
  generalize numT 116 x.n = T at *
  generalize x.kd = kd at *
  generalize nameC x = C at *
  clear hl hv hk hX
  go_enter Tryz.func9, Tryz.ntmps9
  go_wp2_with (first
    | (refine wpL_boxArr rfl _ _ rfl C rfl ?_; intro w1 hh1 hf1 hs1; have hce := (cell_of_heap hh1.out 0).trans h0; have hcn := (cell_of_heap hh1.out 34).trans hn)
    | (go_at_call 20; refine (HN.out _ (HV.out.below hf1)).mono ?_; rintro e w2 ⟨rfl, hf2⟩))
  go_ret
  exact ⟨rfl, hf1.trans hf2 (by simp) (by simp)⟩

set_option maxRecDepth 100000 in
theorem write_aside (x : NameD) (w : World) (hl : x.h.length = 32) (hv : VarsAt w) (hk : x.kd = 3) :
    Calls Tryz.prog 9 #[.agg (nameC x)] w fun e w' => e = .returned (.string ⟨x.text.toArray⟩) ∧ Fr [] w w' := by
  have hk1 : (x.kd == 1) = false := by rw [beq_eq_false_iff_ne]; omega
  have hk2 : (x.kd == 2) = false := by rw [beq_eq_false_iff_ne]; omega
  have hk3 : (x.kd == 3) = true := by rw [hk]; rfl
  have hk4 : (x.kd == 4) = false := by rw [beq_eq_false_iff_ne]; omega
  have hk5 : (x.kd == 5) = false := by rw [beq_eq_false_iff_ne]; omega
  have hX : x.text = numT 113 x.n := by unfold NameD.text nameT; rw [if_neg (by omega), if_neg (by omega), if_pos hk]
  have h0 := nameC_kd x
  have hn := nameC_n hl
  have HV := Lib.hid hv
  rw [hX]
  have HN := Lib.hid (fun wx (hv : VarsAt wx) => numbered_any 113 x.n wx hv)
  generalize numT 113 x.n = T at *
  generalize x.kd = kd at *
  generalize nameC x = C at *
  clear hl hv hk hX
  go_enter Tryz.func9, Tryz.ntmps9
  go_wp2_with (first
    | (refine wpL_boxArr rfl _ _ rfl C rfl ?_; intro w1 hh1 hf1 hs1; have hce := (cell_of_heap hh1.out 0).trans h0; have hcn := (cell_of_heap hh1.out 34).trans hn)
    | (go_at_call 20; refine (HN.out _ (HV.out.below hf1)).mono ?_; rintro e w2 ⟨rfl, hf2⟩))
  go_ret
  exact ⟨rfl, hf1.trans hf2 (by simp) (by simp)⟩

set_option maxRecDepth 100000 in
theorem write_journal (x : NameD) (w : World) (hl : x.h.length = 32) (hv : VarsAt w) (hk : x.kd = 4) :
    Calls Tryz.prog 9 #[.agg (nameC x)] w fun e w' => e = .returned (.string ⟨x.text.toArray⟩) ∧ Fr [] w w' := by
  have hk1 : (x.kd == 1) = false := by rw [beq_eq_false_iff_ne]; omega
  have hk2 : (x.kd == 2) = false := by rw [beq_eq_false_iff_ne]; omega
  have hk3 : (x.kd == 3) = false := by rw [beq_eq_false_iff_ne]; omega
  have hk4 : (x.kd == 4) = true := by rw [hk]; rfl
  have hk5 : (x.kd == 5) = false := by rw [beq_eq_false_iff_ne]; omega
  have hX : x.text = [106, 111, 117, 114, 110, 97, 108] := by unfold NameD.text nameT; rw [if_neg (by omega), if_neg (by omega), if_neg (by omega), if_pos hk]; rfl
  have h0 := nameC_kd x
  have hn := nameC_n hl
  have HV := Lib.hid hv
  rw [hX]
  generalize x.kd = kd at *
  generalize nameC x = C at *
  clear hl hv hk hX
  go_enter Tryz.func9, Tryz.ntmps9
  go_wp2_with (first
    | (refine wpL_boxArr rfl _ _ rfl C rfl ?_; intro w1 hh1 hf1 hs1; have hce := (cell_of_heap hh1.out 0).trans h0; have hcn := (cell_of_heap hh1.out 34).trans hn))
  go_ret
  exact ⟨rfl, hf1⟩

set_option maxRecDepth 100000 in
theorem write_fresh (x : NameD) (w : World) (hl : x.h.length = 32) (hv : VarsAt w) (hk : x.kd = 5) :
    Calls Tryz.prog 9 #[.agg (nameC x)] w fun e w' => e = .returned (.string ⟨x.text.toArray⟩) ∧ Fr [] w w' := by
  have hk1 : (x.kd == 1) = false := by rw [beq_eq_false_iff_ne]; omega
  have hk2 : (x.kd == 2) = false := by rw [beq_eq_false_iff_ne]; omega
  have hk3 : (x.kd == 3) = false := by rw [beq_eq_false_iff_ne]; omega
  have hk4 : (x.kd == 4) = false := by rw [beq_eq_false_iff_ne]; omega
  have hk5 : (x.kd == 5) = true := by rw [hk]; rfl
  have hX : x.text = [106, 111, 117, 114, 110, 97, 108, 46, 110, 101, 119] := by unfold NameD.text nameT; rw [if_neg (by omega), if_neg (by omega), if_neg (by omega), if_neg (by omega), if_pos hk]; rfl
  have h0 := nameC_kd x
  have hn := nameC_n hl
  have HV := Lib.hid hv
  rw [hX]
  generalize x.kd = kd at *
  generalize nameC x = C at *
  clear hl hv hk hX
  go_enter Tryz.func9, Tryz.ntmps9
  go_wp2_with (first
    | (refine wpL_boxArr rfl _ _ rfl C rfl ?_; intro w1 hh1 hf1 hs1; have hce := (cell_of_heap hh1.out 0).trans h0; have hcn := (cell_of_heap hh1.out 34).trans hn))
  go_ret
  exact ⟨rfl, hf1⟩

set_option maxRecDepth 100000 in
theorem write_none (x : NameD) (w : World) (hl : x.h.length = 32) (hv : VarsAt w) (hk : x.kd ≠ 1 ∧ x.kd ≠ 2 ∧ x.kd ≠ 3 ∧ x.kd ≠ 4 ∧ x.kd ≠ 5) :
    Calls Tryz.prog 9 #[.agg (nameC x)] w fun e w' => e = .returned (.string ⟨x.text.toArray⟩) ∧ Fr [] w w' := by
  have hk1 : (x.kd == 1) = false := by rw [beq_eq_false_iff_ne]; omega
  have hk2 : (x.kd == 2) = false := by rw [beq_eq_false_iff_ne]; omega
  have hk3 : (x.kd == 3) = false := by rw [beq_eq_false_iff_ne]; omega
  have hk4 : (x.kd == 4) = false := by rw [beq_eq_false_iff_ne]; omega
  have hk5 : (x.kd == 5) = false := by rw [beq_eq_false_iff_ne]; omega
  have hX : x.text = [] := by unfold NameD.text nameT; rw [if_neg (by omega), if_neg (by omega), if_neg (by omega), if_neg (by omega), if_neg (by omega)]
  have h0 := nameC_kd x
  have hn := nameC_n hl
  have HV := Lib.hid hv
  rw [hX]
  generalize x.kd = kd at *
  generalize nameC x = C at *
  clear hl hv hk hX
  go_enter Tryz.func9, Tryz.ntmps9
  go_wp2_with (first
    | (refine wpL_boxArr rfl _ _ rfl C rfl ?_; intro w1 hh1 hf1 hs1; have hce := (cell_of_heap hh1.out 0).trans h0; have hcn := (cell_of_heap hh1.out 34).trans hn))
  go_ret
  exact ⟨rfl, hf1⟩

/-- Write: the file name. -/
theorem kwrite_any (x : NameD) (w : World) (hl : x.h.length = 32) (hv : VarsAt w) :
    Calls Tryz.prog 9 #[.agg (nameC x)] w fun e w' => e = .returned (.string ⟨x.text.toArray⟩) ∧ Fr [] w w' := by
  by_cases h1 : x.kd = 1
  · exact write_key x w hl hv h1
  · by_cases h2 : x.kd = 2
    · exact write_temp x w hl hv h2
    · by_cases h3 : x.kd = 3
      · exact write_aside x w hl hv h3
      · by_cases h4 : x.kd = 4
        · exact write_journal x w hl hv h4
        · by_cases h5 : x.kd = 5
          · exact write_fresh x w hl hv h5
          · exact write_none x w hl hv ⟨h1, h2, h3, h4, h5⟩
end Go.Proofs.YtjlkcdmeiakkbaaGreatDoor
