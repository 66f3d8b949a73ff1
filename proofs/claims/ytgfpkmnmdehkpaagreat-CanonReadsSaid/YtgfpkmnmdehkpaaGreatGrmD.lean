/- The document's Same, Few (layer 14). Written by wip/tools/gen_gd.py. -/
import Derived.Test.YtgfpkmnmdehkpaaGreatGr
set_option linter.unusedVariables false
set_option linter.unusedSimpArgs false
namespace Go.Proofs.YtgfpkmnmdehkpaaGreat
open Go.RowKit

def SNRel (w : World) (a b : List (List UInt8)) (iv : Value) (wx : World) : Prop := ∃ k : Nat, k ≤ a.length ∧ iv = .int .i64 (k : Int) ∧ (∀ j (_ : j < k) (h1 : j < a.length) (h2 : j < b.length), a[j]'h1 = b[j]'h2) ∧ Fr [] w wx
def SRRel (w : World) (a b : List RuleG) (iv : Value) (wx : World) : Prop := ∃ k : Nat, k ≤ a.length ∧ iv = .int .i64 (k : Int) ∧ (∀ j (_ : j < k) (h1 : j < a.length) (h2 : j < b.length), a[j]'h1 = b[j]'h2) ∧ Fr [] w wx
set_option maxRecDepth 100000 in
set_option maxHeartbeats 8000000 in
theorem rsame_any (g h : GramG) (gv hv : Value) (w : World) (hg : gramAt w gv g) (hh : gramAt w hv h) : Calls Tryz.prog 12 #[gv, hv] w fun e w' => e = .returned (.bool (sameB g h)) ∧ Fr [] w w' := by
  obtain ⟨sa, sb, sc, rfl, h1, h2, h3⟩ := hg
  obtain ⟨ta, tb, tc, rfl, k1, k2, k3⟩ := hh
  obtain ⟨a10, c10, rfl, hc1, hm1⟩ := h1.form
  obtain ⟨a20, c20, rfl, hc2, hm2⟩ := h2.form
  obtain ⟨a30, c30, rfl, hc3, hm3⟩ := h3.form
  obtain ⟨a11, c11, rfl, hd1, hl1⟩ := k1.form
  obtain ⟨a21, c21, rfl, hd2, hl2⟩ := k2.form
  obtain ⟨a31, c31, rfl, hd3, hl3⟩ := k3.form
  obtain ⟨R, hR⟩ : ∃ R, R = sameB g h := ⟨_, rfl⟩
  rw [← hR]
  have HR := Lib.hid hR
  have hbad : ¬ g = h → R = false := fun hn => by rw [HR.out]; exact boolOf_false hn
  have HBAD := Lib.hid hbad
  have hb0 := heap_alloc_new w (.cells #[.slice a10 g.names.length c10, .slice a20 g.terms.length c20, .slice a30 g.rules.length c30] 25)
  have hf0 := Fr.alloc w (.cells #[.slice a10 g.names.length c10, .slice a20 g.terms.length c20, .slice a30 g.rules.length c30] 25)
  obtain ⟨w0, hw0⟩ : ∃ w0, w0 = w.alloc (.cells #[.slice a10 g.names.length c10, .slice a20 g.terms.length c20, .slice a30 g.rules.length c30] 25) := ⟨_, rfl⟩
  obtain ⟨q0, hq0⟩ : ∃ q0, q0 = w.heap.size := ⟨_, rfl⟩
  rw [← hw0] at hb0 hf0
  rw [← hq0] at hb0
  have hb1 := heap_alloc_new w0 (.cells #[.slice a11 h.names.length c11, .slice a21 h.terms.length c21, .slice a31 h.rules.length c31] 25)
  have hf1 := Fr.alloc w0 (.cells #[.slice a11 h.names.length c11, .slice a21 h.terms.length c21, .slice a31 h.rules.length c31] 25)
  obtain ⟨w1, hw1⟩ : ∃ w1, w1 = w0.alloc (.cells #[.slice a11 h.names.length c11, .slice a21 h.terms.length c21, .slice a31 h.rules.length c31] 25) := ⟨_, rfl⟩
  obtain ⟨q1, hq1⟩ : ∃ q1, q1 = w0.heap.size := ⟨_, rfl⟩
  rw [← hw1] at hb1 hf1
  rw [← hq1] at hb1
  have H1 := Lib.hid ((h1.below hf0).below hf1)
  have H2 := Lib.hid ((h2.below hf0).below hf1)
  have H3 := Lib.hid ((h3.below hf0).below hf1)
  have K1 := Lib.hid ((k1.below hf0).below hf1)
  have K2 := Lib.hid ((k2.below hf0).below hf1)
  have K3 := Lib.hid ((k3.below hf0).below hf1)
  have HB0 := Lib.hid (hf1.heap hb0 (by simp))
  have HB1 := Lib.hid hb1
  have HF := Lib.hid (hf0.trans hf1 (by simp) (n := []) (by simp))
  have HW0 := Lib.hid hw0
  have HQ0 := Lib.hid hq0
  have HW1 := Lib.hid hw1
  have HQ1 := Lib.hid (show q1 = q0 + 1 by rw [hq1, hw0, World.size_alloc, ← hq0])
  clear hR hbad hb0 hf0 hw0 hq0 hb1 hf1 hw1 hq1 h1 h2 h3 k1 k2 k3
  go_enter Tryz.func12, Tryz.ntmps12
  go_upto_region 1 with fail
  rw [← HQ0.out, ← HW0.out, ← HQ1.out, ← HW1.out]
  clear HW0 HQ0 HW1 HQ1
  obtain ⟨y0, y1, y2⟩ := two_three HB0.out
  obtain ⟨x0, x1, x2⟩ := two_three HB1.out
  by_cases t1 : g.names.length = h.names.length
  rotate_left
  · have d1 : ((g.names.length : Int) != (h.names.length : Int)) = true := by rw [bne_iff_ne]; omega
    have HX := Lib.hid (HBAD.out (fun e => t1 (by rw [e])))
    clear t1
    go_wp2_with fail
    go_ret
    exact ⟨by rw [HX.out]; rfl, HF.out⟩
  have d1 : ((g.names.length : Int) != (h.names.length : Int)) = false := by rw [t1]; simp
  have HT1 := Lib.hid t1
  have he1 : g.names.length ≤ h.names.length := by omega
  clear t1
  by_cases t2 : g.terms.length = h.terms.length
  rotate_left
  · have d2 : ((g.terms.length : Int) != (h.terms.length : Int)) = true := by rw [bne_iff_ne]; omega
    have HX := Lib.hid (HBAD.out (fun e => t2 (by rw [e])))
    clear t2
    go_wp2_with fail
    go_ret
    exact ⟨by rw [HX.out]; rfl, HF.out⟩
  have d2 : ((g.terms.length : Int) != (h.terms.length : Int)) = false := by rw [t2]; simp
  have HT2 := Lib.hid t2
  have he2 : g.terms.length ≤ h.terms.length := by omega
  clear t2
  by_cases t3 : g.rules.length = h.rules.length
  rotate_left
  · have d3 : ((g.rules.length : Int) != (h.rules.length : Int)) = true := by rw [bne_iff_ne]; omega
    have HX := Lib.hid (HBAD.out (fun e => t3 (by rw [e])))
    clear t3
    go_wp2_with fail
    go_ret
    exact ⟨by rw [HX.out]; rfl, HF.out⟩
  have d3 : ((g.rules.length : Int) != (h.rules.length : Int)) = false := by rw [t3]; simp
  have HT3 := Lib.hid t3
  have he3 : g.rules.length ≤ h.rules.length := by omega
  clear t3
  go_wp2_with fail
  clear y0 y1 y2 x0 x1 x2 d1 d2 d3
  go_loopw [5] (SNRel w1 g.names h.names) (fun iv _ => g.names.length - (intOf iv).toNat)
  case atStart => exact ⟨0, Nat.zero_le _, rfl, fun j hj => by omega, Fr.refl _ _⟩
  case round =>
    obtain ⟨k, hk, rfl, hall, hfw⟩ := hrel
    have HA := Lib.hid hall
    have HFW := Lib.hid hfw
    obtain ⟨y0, y1, y2⟩ := two_three (hfw.heap HB0.out (by simp))
    obtain ⟨x0, x1, x2⟩ := two_three (hfw.heap HB1.out (by simp))
    clear hall hfw
    by_cases hkn : k < g.names.length
    · have hd1 : decide (k < g.names.length) = true := decide_eq_true hkn
      have hkh : k < h.names.length := by omega
      obtain ⟨b1, o1, rfl, p0⟩ := str_cell H1.out k hkn
      obtain ⟨b2, o2, rfl, p1⟩ := str_cell K1.out k hkh
      obtain ⟨x, hx⟩ : ∃ x, x = g.names[k]'hkn := ⟨_, rfl⟩
      obtain ⟨y, hy⟩ : ∃ y, y = h.names[k]'hkh := ⟨_, rfl⟩
      rw [← hx] at p0
      rw [← hy] at p1
      have q0 := HFW.out.cell p0 (by simp)
      have q1 := HFW.out.cell p1 (by simp)
      have HX0 := Lib.hid hx
      have HY0 := Lib.hid hy
      clear hx hy p0 p1
      by_cases he : x = y
      · have e1 : (x != y) = false := by rw [he]; simp
        have e2 : (x == y) = true := by rw [he]; simp
        have HE := Lib.hid he
        clear he
        go_upto_region 6 with fail
        go_quiet (fail)
        go_wp2_with fail
        refine ⟨⟨k + 1, by omega, by go_num, fun j hj g1 g2 => ?_, HFW.out.andDrewN _⟩, by simp [intOf]; omega⟩
        by_cases e : j = k
        · subst e; rw [← HX0.out, ← HY0.out]; exact HE.out
        · exact HA.out j (by omega) g1 g2
      · have e1 : (x != y) = true := by rw [bne_iff_ne]; exact he
        have e2 : (x == y) = false := by rw [beq_eq_false_iff_ne]; exact he
        have HX := Lib.hid (HBAD.out (fun e => he (by rw [HX0.out, HY0.out]; simp [e])))
        clear he
        go_upto_region 6 with fail
        go_quiet (fail)
        go_wp2_with fail
        go_ret
        exact ⟨by rw [HX.out]; rfl, HF.out.trans (HFW.out.andDrewN _) (by simp) (by simp)⟩
    · have hd1 : decide (k < g.names.length) = false := decide_eq_false hkn
      have HE1 := Lib.hid (show g.names = h.names from List.ext_getElem HT1.out (fun j g1 g2 => HA.out j (by omega) g1 g2))
      go_wp2_with fail
      clear y0 y1 y2 x0 x1 x2 HA hd1
      go_loopw [6] (SNRel w1 g.terms h.terms) (fun iv _ => g.terms.length - (intOf iv).toNat)
      case atStart => exact ⟨0, Nat.zero_le _, rfl, fun j hj => by omega, HFW.out⟩
      case round =>
        clear HFW
        obtain ⟨k, hk, rfl, hall, hfw⟩ := hrel
        have HA := Lib.hid hall
        have HFW := Lib.hid hfw
        obtain ⟨y0, y1, y2⟩ := two_three (hfw.heap HB0.out (by simp))
        obtain ⟨x0, x1, x2⟩ := two_three (hfw.heap HB1.out (by simp))
        clear hall hfw
        by_cases hkn : k < g.terms.length
        · have hd1 : decide (k < g.terms.length) = true := decide_eq_true hkn
          have hkh : k < h.terms.length := by omega
          obtain ⟨b1, o1, rfl, p0⟩ := str_cell H2.out k hkn
          obtain ⟨b2, o2, rfl, p1⟩ := str_cell K2.out k hkh
          obtain ⟨x, hx⟩ : ∃ x, x = g.terms[k]'hkn := ⟨_, rfl⟩
          obtain ⟨y, hy⟩ : ∃ y, y = h.terms[k]'hkh := ⟨_, rfl⟩
          rw [← hx] at p0
          rw [← hy] at p1
          have q0 := HFW.out.cell p0 (by simp)
          have q1 := HFW.out.cell p1 (by simp)
          have HX0 := Lib.hid hx
          have HY0 := Lib.hid hy
          clear hx hy p0 p1
          by_cases he : x = y
          · have e1 : (x != y) = false := by rw [he]; simp
            have e2 : (x == y) = true := by rw [he]; simp
            have HE := Lib.hid he
            clear he
            go_upto_region 11 with fail
            go_quiet (fail)
            go_wp2_with fail
            refine ⟨⟨k + 1, by omega, by go_num, fun j hj g1 g2 => ?_, HFW.out.andDrewN _⟩, by simp [intOf]; omega⟩
            by_cases e : j = k
            · subst e; rw [← HX0.out, ← HY0.out]; exact HE.out
            · exact HA.out j (by omega) g1 g2
          · have e1 : (x != y) = true := by rw [bne_iff_ne]; exact he
            have e2 : (x == y) = false := by rw [beq_eq_false_iff_ne]; exact he
            have HX := Lib.hid (HBAD.out (fun e => he (by rw [HX0.out, HY0.out]; simp [e])))
            clear he
            go_upto_region 11 with fail
            go_quiet (fail)
            go_wp2_with fail
            go_ret
            exact ⟨by rw [HX.out]; rfl, HF.out.trans (HFW.out.andDrewN _) (by simp) (by simp)⟩
        · have hd1 : decide (k < g.terms.length) = false := decide_eq_false hkn
          have HE2 := Lib.hid (show g.terms = h.terms from List.ext_getElem HT2.out (fun j g1 g2 => HA.out j (by omega) g1 g2))
          go_wp2_with fail
          clear y0 y1 y2 x0 x1 x2 HA hd1
          go_loopw [7] (SRRel w1 g.rules h.rules) (fun iv _ => g.rules.length - (intOf iv).toNat)
          case atStart => exact ⟨0, Nat.zero_le _, rfl, fun j hj => by omega, HFW.out⟩
          case round =>
            clear HFW
            obtain ⟨k, hk, rfl, hall, hfw⟩ := hrel
            have HA := Lib.hid hall
            have HFW := Lib.hid hfw
            obtain ⟨y0, y1, y2⟩ := two_three (hfw.heap HB0.out (by simp))
            obtain ⟨x0, x1, x2⟩ := two_three (hfw.heap HB1.out (by simp))
            clear hall hfw
            by_cases hkn : k < g.rules.length
            · have hd1 : decide (k < g.rules.length) = true := decide_eq_true hkn
              have hkh : k < h.rules.length := by omega
              obtain ⟨b1, o1, v1, rfl, p0, p1, hv1⟩ := rule_cells H3.out k hkn
              obtain ⟨b2, o2, v2, rfl, p2, p3, hv2⟩ := rule_cells K3.out k hkh
              obtain ⟨x, hx⟩ : ∃ x, x = g.rules[k]'hkn := ⟨_, rfl⟩
              obtain ⟨y, hy⟩ : ∃ y, y = h.rules[k]'hkh := ⟨_, rfl⟩
              rw [← hx] at p0 hv1
              rw [← hy] at p2 hv2
              have HX0 := Lib.hid hx
              have HY0 := Lib.hid hy
              obtain ⟨xl, xr⟩ := x
              obtain ⟨yl, yr⟩ := y
              simp only at p0 p2 hv1 hv2
              have q0 := HFW.out.cell p0 (by simp)
              have q1 := HFW.out.cell p1 (by simp)
              have q2 := HFW.out.cell p2 (by simp)
              have q3 := HFW.out.cell p3 (by simp)
              have hsr := fun wx (hfx : Fr [] w1 wx) => rright_q xr yr _ _ wx (hv1.below hfx) (hv2.below hfx)
              clear hx hy p0 p1 p2 p3 hv1 hv2
              by_cases he : xl = yl
              · have e1 : (xl != yl) = false := by rw [he]; simp
                have HE := Lib.hid he
                clear he
                by_cases hr : xr = yr
                · rw [decide_eq_true hr] at hsr
                  have HSR := Lib.hid hsr
                  have HE2 := Lib.hid hr
                  clear hsr hr
                  go_upto_region 16 with fail
                  go_quiet (first | (go_at_call 37; with_reducible refine Calls.quiet_of (HSR.out _ (HFW.out.andDrewN _))))
                  go_wp2_with fail
                  refine ⟨⟨k + 1, by omega, by go_num, fun j hj g1 g2 => ?_, HFW.out.andDrewN _⟩, by simp [intOf]; omega⟩
                  by_cases e : j = k
                  · subst e; rw [← HX0.out, ← HY0.out, HE.out, HE2.out]
                  · exact HA.out j (by omega) g1 g2
                · rw [decide_eq_false hr] at hsr
                  have HSR := Lib.hid hsr
                  have HX := Lib.hid (HBAD.out (fun e => hr (by
                    have h2 : g.rules[k]'hkn = h.rules[k]'hkh := by simp [e]
                    rw [← HX0.out, ← HY0.out] at h2
                    injection h2)))
                  clear hsr hr
                  go_upto_region 16 with fail
                  go_quiet (first | (go_at_call 37; with_reducible refine Calls.quiet_of (HSR.out _ (HFW.out.andDrewN _))))
                  go_wp2_with fail
                  go_ret
                  exact ⟨by rw [HX.out]; rfl, HF.out.trans (HFW.out.andDrewN _) (by simp) (by simp)⟩
              · have e1 : (xl != yl) = true := by rw [bne_iff_ne]; exact he
                have HX := Lib.hid (HBAD.out (fun e => he (by
                  have h2 : g.rules[k]'hkn = h.rules[k]'hkh := by simp [e]
                  rw [← HX0.out, ← HY0.out] at h2
                  injection h2)))
                clear he hsr
                go_upto_region 16 with fail
                go_quiet (fail)
                go_wp2_with fail
                go_ret
                exact ⟨by rw [HX.out]; rfl, HF.out.trans (HFW.out.andDrewN _) (by simp) (by simp)⟩
            · have hd1 : decide (k < g.rules.length) = false := decide_eq_false hkn
              have HE3 := Lib.hid (show g.rules = h.rules from List.ext_getElem HT3.out (fun j g1 g2 => HA.out j (by omega) g1 g2))
              have HX := Lib.hid (show R = true by rw [HR.out]; exact boolOf_true (GramG.ext' HE1.out HE2.out HE3.out))
              go_wp2_with fail
              go_ret
              exact ⟨by rw [HX.out]; rfl, HF.out.trans HFW.out (by simp) (by simp)⟩
end Go.Proofs.YtgfpkmnmdehkpaaGreat
