/- The program's well (layer 15): slices.Index and slices.Contains at numbers and at marks. Written by wip/tools/gen_wpi.py. -/
import Derived.Test.YtnaamjpiaekmeaaGreatTb
import Derived.LoopTactic
import Derived.WalkMore
set_option linter.unusedVariables false
set_option linter.unusedSimpArgs false
namespace Go.Proofs.YtnaamjpiaekmeaaGreat
open Go.RowKit
def CxRel_i (w : World) (l : List Int) (x : Int) (iv : Value) (wx : World) : Prop := ∃ k : Nat, k ≤ l.length ∧ iv = .int .i64 (k : Int) ∧ (∀ j (_ : j < k) (h : j < l.length), l[j]'h ≠ x) ∧ Fr [] w wx
def RIx_i (l : List Int) (x : Int) (w : World) (e : Ending) (w' : World) : Prop := ∃ r : Int, e = .returned (.int .i64 r) ∧ decide (0 ≤ r) = decide (x ∈ l) ∧ Fr [] w w'
set_option maxRecDepth 100000 in
set_option maxHeartbeats 1000000 in
theorem pindex_i (l : List Int) (x : Int) (lv : Value) (w : World) (h : intsAt w lv l) : Calls Tryz.prog 90 #[lv, .int .i64 x] w (RIx_i l x w) := by
 obtain ⟨a0, c0, rfl, hle, hmx⟩ := h.form
 have HE := Lib.hid h
 clear h
 go_enter Tryz.func90, Tryz.ntmps90
 go_wp2_with fail
 go_loopw [8] (CxRel_i w l x) (fun iv _ => l.length - (intOf iv).toNat)
 case atStart => exact ⟨0, Nat.zero_le _, rfl, fun j hj => by omega, Fr.refl _ _⟩
 case round =>
  obtain ⟨k, hk, rfl, hall, hf⟩ := hrel
  have HA := Lib.hid hall
  have HF := Lib.hid hf
  clear hall
  by_cases hkn : k < l.length
  ·have hd2 : decide (k < l.length) = true := decide_eq_true hkn
   obtain ⟨b, off, rfl, hc⟩ := int_cell (HE.out.below hf) k hkn
   have hm := List.getElem_mem hkn
   obtain ⟨y, hy⟩ : ∃ y, y = l[k]'hkn := ⟨_, rfl⟩
   rw [← hy] at hc hm
   have HY := Lib.hid hy
   have HM := Lib.hid hm
   clear hf hy hm
   by_cases he : x = y
   ·have e1 : (x == y) = true := by rw [he]; simp
    have HX := Lib.hid he
    clear he
    go_wp2_with fail
    go_ret
    refine ⟨(k : Int), rfl, ?_, HF.out⟩
    rw [decide_eq_true (show (0 : Int) ≤ (k : Int) by omega), decide_eq_true (show x ∈ l by rw [HX.out]; exact HM.out)]
   ·have e1 : (x == y) = false := by rw [beq_eq_false_iff_ne]; exact he
    have HX := Lib.hid he
    clear he
    go_wp2_with fail
    refine ⟨⟨k + 1, by omega, by go_num, fun j hj hjl => ?_, HF.out⟩, by simp [intOf]; omega⟩
    by_cases e : j = k
    ·subst e; rw [← HY.out]; exact fun q => HX.out q.symm
    ·exact HA.out j (by omega) hjl
  ·have hd2 : decide (k < l.length) = false := decide_eq_false hkn
   have HN := Lib.hid (show x ∉ l from fun hm => by obtain ⟨j, hj, e⟩ := List.getElem_of_mem hm; exact HA.out j (by omega) hj e)
   clear hf hkn
   go_wp2_with fail
   go_ret
   refine ⟨-1, rfl, ?_, HF.out⟩
   rw [decide_eq_false HN.out]
   rfl
set_option maxRecDepth 100000 in
theorem pcontains_i (l : List Int) (x : Int) (lv : Value) (w : World) (h : intsAt w lv l) : Calls Tryz.prog 48 #[lv, .int .i64 x] w fun e w' => e = .returned (.bool (decide (x ∈ l))) ∧ Fr [] w w' := by
 have hix := pindex_i l x lv w h
 obtain ⟨a0, c0, rfl, hle, hmx⟩ := h.form
 obtain ⟨R, hR⟩ : ∃ R, R = decide (x ∈ l) := ⟨_, rfl⟩
 rw [← hR]
 unfold RIx_i at hix
 rw [← hR] at hix
 have HI := Lib.hid hix
 clear hix h hR
 go_enter Tryz.func48, Tryz.ntmps48
 go_wp2_with (go_at_call 90; refine HI.out.mono ?_; rintro e w1 ⟨r, rfl, hr, hf1⟩)
 go_ret
 exact ⟨by rw [← hr]; rfl, hf1⟩
def CxRel_b (w : World) (l : List Bool) (x : Bool) (iv : Value) (wx : World) : Prop := ∃ k : Nat, k ≤ l.length ∧ iv = .int .i64 (k : Int) ∧ (∀ j (_ : j < k) (h : j < l.length), l[j]'h ≠ x) ∧ Fr [] w wx
def RIx_b (l : List Bool) (x : Bool) (w : World) (e : Ending) (w' : World) : Prop := ∃ r : Int, e = .returned (.int .i64 r) ∧ decide (0 ≤ r) = decide (x ∈ l) ∧ Fr [] w w'
set_option maxRecDepth 100000 in
set_option maxHeartbeats 1000000 in
theorem pindex_b (l : List Bool) (x : Bool) (lv : Value) (w : World) (h : boolsAt w lv l) : Calls Tryz.prog 61 #[lv, .bool x] w (RIx_b l x w) := by
 obtain ⟨a0, c0, rfl, hle, hmx⟩ := h.form
 have HE := Lib.hid h
 clear h
 go_enter Tryz.func61, Tryz.ntmps61
 go_wp2_with fail
 go_loopw [8] (CxRel_b w l x) (fun iv _ => l.length - (intOf iv).toNat)
 case atStart => exact ⟨0, Nat.zero_le _, rfl, fun j hj => by omega, Fr.refl _ _⟩
 case round =>
  obtain ⟨k, hk, rfl, hall, hf⟩ := hrel
  have HA := Lib.hid hall
  have HF := Lib.hid hf
  clear hall
  by_cases hkn : k < l.length
  ·have hd2 : decide (k < l.length) = true := decide_eq_true hkn
   obtain ⟨b, off, rfl, hc⟩ := bool_cell (HE.out.below hf) k hkn
   have hm := List.getElem_mem hkn
   obtain ⟨y, hy⟩ : ∃ y, y = l[k]'hkn := ⟨_, rfl⟩
   rw [← hy] at hc hm
   have HY := Lib.hid hy
   have HM := Lib.hid hm
   clear hf hy hm
   by_cases he : x = y
   ·have e1 : (x == y) = true := by rw [he]; simp
    have HX := Lib.hid he
    clear he
    go_wp2_with fail
    go_ret
    refine ⟨(k : Int), rfl, ?_, HF.out⟩
    rw [decide_eq_true (show (0 : Int) ≤ (k : Int) by omega), decide_eq_true (show x ∈ l by rw [HX.out]; exact HM.out)]
   ·have e1 : (x == y) = false := by rw [beq_eq_false_iff_ne]; exact he
    have HX := Lib.hid he
    clear he
    go_wp2_with fail
    refine ⟨⟨k + 1, by omega, by go_num, fun j hj hjl => ?_, HF.out⟩, by simp [intOf]; omega⟩
    by_cases e : j = k
    ·subst e; rw [← HY.out]; exact fun q => HX.out q.symm
    ·exact HA.out j (by omega) hjl
  ·have hd2 : decide (k < l.length) = false := decide_eq_false hkn
   have HN := Lib.hid (show x ∉ l from fun hm => by obtain ⟨j, hj, e⟩ := List.getElem_of_mem hm; exact HA.out j (by omega) hj e)
   clear hf hkn
   go_wp2_with fail
   go_ret
   refine ⟨-1, rfl, ?_, HF.out⟩
   rw [decide_eq_false HN.out]
   rfl
set_option maxRecDepth 100000 in
theorem pcontains_b (l : List Bool) (x : Bool) (lv : Value) (w : World) (h : boolsAt w lv l) : Calls Tryz.prog 28 #[lv, .bool x] w fun e w' => e = .returned (.bool (decide (x ∈ l))) ∧ Fr [] w w' := by
 have hix := pindex_b l x lv w h
 obtain ⟨a0, c0, rfl, hle, hmx⟩ := h.form
 obtain ⟨R, hR⟩ : ∃ R, R = decide (x ∈ l) := ⟨_, rfl⟩
 rw [← hR]
 unfold RIx_b at hix
 rw [← hR] at hix
 have HI := Lib.hid hix
 clear hix h hR
 go_enter Tryz.func28, Tryz.ntmps28
 go_wp2_with (go_at_call 61; refine HI.out.mono ?_; rintro e w1 ⟨r, rfl, hr, hf1⟩)
 go_ret
 exact ⟨by rw [← hr]; rfl, hf1⟩
end Go.Proofs.YtnaamjpiaekmeaaGreat
