/- The document's Few (layer 14; split out of GrmD). -/
import Derived.Test.YtnaamjpiaekmeaaGreatGr
set_option linter.unusedVariables false
set_option linter.unusedSimpArgs false
namespace Go.Proofs.YtnaamjpiaekmeaaGreat
open Go.RowKit
def FwRel (w : World) (p : Nat → Prop) (n : Nat) (iv : Value) (wx : World) : Prop := ∃ k : Nat, k ≤ n ∧ iv = .int .i64 (k : Int) ∧ (∀ j, j < k → p j) ∧ Fr [] w wx
set_option maxRecDepth 100000 in
set_option maxHeartbeats 4000000 in
theorem rfew_any (g : GramG) (gv : Value) (w : World) (h : gramAt w gv g) (hz : ∀ n ∈ g.names, n.length ≤ maxLen) (hz2 : ∀ n ∈ g.terms, n.length ≤ maxLen) : Calls Tryz.prog 9 #[gv] w fun e w' => e = .returned (.int .i64 (fewB g)) ∧ Fr [] w w' := by
 obtain ⟨sa, sb, sc, rfl, h1, h2, h3⟩ := h
 obtain ⟨a10, c10, rfl, hc1, hm1⟩ := h1.form
 obtain ⟨a20, c20, rfl, hc2, hm2⟩ := h2.form
 obtain ⟨a30, c30, rfl, hc3, hm3⟩ := h3.form
 obtain ⟨R, hR⟩ : ∃ R, R = fewB g := ⟨_, rfl⟩
 rw [← hR]
 have HR := Lib.hid hR
 have hbad : ¬ FewG g → R = 0 := fun hn => by rw [HR.out]; unfold fewB; rw [boolOf_false hn]; rfl
 have hgood : FewG g → R = 1 := fun hn => by rw [HR.out]; unfold fewB; rw [boolOf_true hn]; rfl
 have HBAD := Lib.hid hbad
 have HGOOD := Lib.hid hgood
 have HZ := Lib.hid hz
 have HZ2 := Lib.hid hz2
 have hb0 := heap_alloc_new w (.cells #[.slice a10 g.names.length c10, .slice a20 g.terms.length c20, .slice a30 g.rules.length c30] 25)
 have hf0 := Fr.alloc w (.cells #[.slice a10 g.names.length c10, .slice a20 g.terms.length c20, .slice a30 g.rules.length c30] 25)
 obtain ⟨w0, hw0⟩ : ∃ w0, w0 = w.alloc (.cells #[.slice a10 g.names.length c10, .slice a20 g.terms.length c20, .slice a30 g.rules.length c30] 25) := ⟨_, rfl⟩
 obtain ⟨q0, hq0⟩ : ∃ q0, q0 = w.heap.size := ⟨_, rfl⟩
 rw [← hw0] at hb0 hf0
 rw [← hq0] at hb0
 have H1 := Lib.hid (h1.below hf0)
 have H2 := Lib.hid (h2.below hf0)
 have H3 := Lib.hid (h3.below hf0)
 have HB0 := Lib.hid hb0
 have HF := Lib.hid hf0
 have HW0 := Lib.hid hw0
 have HQ0 := Lib.hid hq0
 clear hR hbad hgood hb0 hf0 hw0 hq0 h1 h2 h3 hz hz2
 go_enter Tryz.func9, Tryz.ntmps9
 go_upto_region 1 with fail
 rw [← HW0.out, ← HQ0.out]
 clear HW0 HQ0
 obtain ⟨y0, y1, y2⟩ := two_three HB0.out
 by_cases t1 : 12 < g.names.length
 ·have d1 : decide (12 < (g.names.length : Int)) = true := decide_eq_true (by omega)
  have HX := Lib.hid (HBAD.out (fun h => by have := h.1; omega))
  clear t1
  go_wp2_with fail
  go_ret
  exact ⟨by rw [HX.out]; rfl, HF.out⟩
 have d1 : decide (12 < (g.names.length : Int)) = false := decide_eq_false (by omega)
 have HT1 := Lib.hid (show g.names.length ≤ 12 by omega)
 clear t1
 by_cases t2 : 12 < g.terms.length
 ·have d2 : decide (12 < (g.terms.length : Int)) = true := decide_eq_true (by omega)
  have HX := Lib.hid (HBAD.out (fun h => by have := h.2.1; omega))
  clear t2
  go_wp2_with fail
  go_ret
  exact ⟨by rw [HX.out]; rfl, HF.out⟩
 have d2 : decide (12 < (g.terms.length : Int)) = false := decide_eq_false (by omega)
 have HT2 := Lib.hid (show g.terms.length ≤ 12 by omega)
 clear t2
 by_cases t3 : 40 < g.rules.length
 ·have d3 : decide (40 < (g.rules.length : Int)) = true := decide_eq_true (by omega)
  have HX := Lib.hid (HBAD.out (fun h => by have := h.2.2.1; omega))
  clear t3
  go_wp2_with fail
  go_ret
  exact ⟨by rw [HX.out]; rfl, HF.out⟩
 have d3 : decide (40 < (g.rules.length : Int)) = false := decide_eq_false (by omega)
 have HT3 := Lib.hid (show g.rules.length ≤ 40 by omega)
 clear t3
 go_wp2_with fail
 clear y0 y1 y2 d1 d2 d3
 go_loopw [3] (FwRel w0 (fun j => ∀ h : j < g.rules.length, (g.rules[j]).right.length ≤ 20) g.rules.length) (fun iv _ => g.rules.length - (intOf iv).toNat)
 case atStart => exact ⟨0, Nat.zero_le _, rfl, fun j hj => by omega, Fr.refl _ _⟩
 case round =>
  obtain ⟨k, hk, rfl, hall, hfw⟩ := hrel
  have HA := Lib.hid hall
  have HFW := Lib.hid hfw
  obtain ⟨y0, y1, y2⟩ := two_three (hfw.heap HB0.out (by simp))
  clear hall hfw
  by_cases hkn : k < g.rules.length
  ·have hd1 : decide (k < g.rules.length) = true := decide_eq_true hkn
   obtain ⟨b1, o1, v1, rfl, -, p1, hv1⟩ := rule_cells H3.out k hkn
   obtain ⟨x, hx⟩ : ∃ x, x = (g.rules[k]'hkn).right := ⟨_, rfl⟩
   rw [← hx] at hv1
   obtain ⟨a4, c4, rfl, hc4, hm4⟩ := hv1.form
   have q1 := HFW.out.cell p1 (by simp)
   have HX0 := Lib.hid hx
   clear hx p1 hv1
   by_cases he : 20 < x.length
   ·have e1 : decide (20 < (x.length : Int)) = true := decide_eq_true (by omega)
    have HX := Lib.hid (HBAD.out (fun h => by have := h.2.2.2.1 _ (List.getElem_mem hkn); rw [← HX0.out] at this; omega))
    clear he
    go_wp2_with fail
    go_ret
    exact ⟨by rw [HX.out]; rfl, HF.out.trans HFW.out (by simp) (by simp)⟩
   ·have e1 : decide (20 < (x.length : Int)) = false := decide_eq_false (by omega)
    have HE := Lib.hid (show x.length ≤ 20 by omega)
    clear he
    go_wp2_with fail
    refine ⟨⟨k + 1, by omega, by go_num, fun j hj g1 => ?_, HFW.out⟩, by simp [intOf]; omega⟩
    by_cases e : j = k
    ·subst e; rw [← HX0.out]; exact HE.out
    ·exact HA.out j (by omega) g1
  ·have hd1 : decide (k < g.rules.length) = false := decide_eq_false hkn
   have HP1 := Lib.hid (show ∀ r ∈ g.rules, r.right.length ≤ 20 from fun r hr => by obtain ⟨j, hj, rfl⟩ := List.getElem_of_mem hr; exact HA.out j (by omega) hj)
   go_wp2_with fail
   clear y0 y1 y2 HA hd1
   go_loopw [4] (FwRel w0 (fun j => ∀ h : j < g.names.length, (g.names[j]).length ≤ 40) g.names.length) (fun iv _ => g.names.length - (intOf iv).toNat)
   case atStart => exact ⟨0, Nat.zero_le _, rfl, fun j hj => by omega, HFW.out⟩
   case round =>
    clear HFW
    obtain ⟨k, hk, rfl, hall, hfw⟩ := hrel
    have HA := Lib.hid hall
    have HFW := Lib.hid hfw
    obtain ⟨y0, y1, y2⟩ := two_three (hfw.heap HB0.out (by simp))
    clear hall hfw
    by_cases hkn : k < g.names.length
    ·have hd1 : decide (k < g.names.length) = true := decide_eq_true hkn
     obtain ⟨b1, o1, rfl, p0⟩ := str_cell H1.out k hkn
     obtain ⟨x, hx⟩ : ∃ x, x = g.names[k]'hkn := ⟨_, rfl⟩
     have hxl : x.length ≤ 9223372036854775807 := by rw [hx]; simpa [maxLen] using HZ.out _ (List.getElem_mem hkn)
     rw [← hx] at p0
     have q1 := HFW.out.cell p0 (by simp)
     have HX0 := Lib.hid hx
     clear hx p0
     by_cases he : 40 < x.length
     ·have e1 : decide (40 < (x.length : Int)) = true := decide_eq_true (by omega)
      have HX := Lib.hid (HBAD.out (fun h => by have := h.2.2.2.2.1 _ (List.getElem_mem hkn); rw [← HX0.out] at this; omega))
      clear he
      go_wp2_with fail
      go_ret
      exact ⟨by rw [HX.out]; rfl, HF.out.trans HFW.out (by simp) (by simp)⟩
     ·have e1 : decide (40 < (x.length : Int)) = false := decide_eq_false (by omega)
      have HE := Lib.hid (show x.length ≤ 40 by omega)
      clear he
      go_wp2_with fail
      refine ⟨⟨k + 1, by omega, by go_num, fun j hj g1 => ?_, HFW.out⟩, by simp [intOf]; omega⟩
      by_cases e : j = k
      ·subst e; rw [← HX0.out]; exact HE.out
      ·exact HA.out j (by omega) g1
    ·have hd1 : decide (k < g.names.length) = false := decide_eq_false hkn
     have HP2 := Lib.hid (show ∀ r ∈ g.names, r.length ≤ 40 from fun r hr => by obtain ⟨j, hj, rfl⟩ := List.getElem_of_mem hr; exact HA.out j (by omega) hj)
     go_wp2_with fail
     clear y0 y1 y2 HA hd1
     go_loopw [5] (FwRel w0 (fun j => ∀ h : j < g.terms.length, (g.terms[j]).length ≤ 40) g.terms.length) (fun iv _ => g.terms.length - (intOf iv).toNat)
     case atStart => exact ⟨0, Nat.zero_le _, rfl, fun j hj => by omega, HFW.out⟩
     case round =>
      clear HFW
      obtain ⟨k, hk, rfl, hall, hfw⟩ := hrel
      have HA := Lib.hid hall
      have HFW := Lib.hid hfw
      obtain ⟨y0, y1, y2⟩ := two_three (hfw.heap HB0.out (by simp))
      clear hall hfw
      by_cases hkn : k < g.terms.length
      ·have hd1 : decide (k < g.terms.length) = true := decide_eq_true hkn
       obtain ⟨b1, o1, rfl, p0⟩ := str_cell H2.out k hkn
       obtain ⟨x, hx⟩ : ∃ x, x = g.terms[k]'hkn := ⟨_, rfl⟩
       have hxl : x.length ≤ 9223372036854775807 := by rw [hx]; simpa [maxLen] using HZ2.out _ (List.getElem_mem hkn)
       rw [← hx] at p0
       have q1 := HFW.out.cell p0 (by simp)
       have HX0 := Lib.hid hx
       clear hx p0
       by_cases he : 40 < x.length
       ·have e1 : decide (40 < (x.length : Int)) = true := decide_eq_true (by omega)
        have HX := Lib.hid (HBAD.out (fun h => by have := h.2.2.2.2.2 _ (List.getElem_mem hkn); rw [← HX0.out] at this; omega))
        clear he
        go_wp2_with fail
        go_ret
        exact ⟨by rw [HX.out]; rfl, HF.out.trans HFW.out (by simp) (by simp)⟩
       ·have e1 : decide (40 < (x.length : Int)) = false := decide_eq_false (by omega)
        have HE := Lib.hid (show x.length ≤ 40 by omega)
        clear he
        go_wp2_with fail
        refine ⟨⟨k + 1, by omega, by go_num, fun j hj g1 => ?_, HFW.out⟩, by simp [intOf]; omega⟩
        by_cases e : j = k
        ·subst e; rw [← HX0.out]; exact HE.out
        ·exact HA.out j (by omega) g1
      ·have hd1 : decide (k < g.terms.length) = false := decide_eq_false hkn
       have HP3 := Lib.hid (show ∀ r ∈ g.terms, r.length ≤ 40 from fun r hr => by obtain ⟨j, hj, rfl⟩ := List.getElem_of_mem hr; exact HA.out j (by omega) hj)
       have HX := Lib.hid (HGOOD.out ⟨HT1.out, HT2.out, HT3.out, HP1.out, HP2.out, HP3.out⟩)
       go_wp2_with fail
       go_ret
       exact ⟨by rw [HX.out]; rfl, HF.out.trans HFW.out (by simp) (by simp)⟩
end Go.Proofs.YtnaamjpiaekmeaaGreat
