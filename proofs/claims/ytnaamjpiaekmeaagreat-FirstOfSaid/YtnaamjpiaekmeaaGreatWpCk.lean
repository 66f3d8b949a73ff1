/- The program's well (layer 15): Check. (Split out of WpJ.) -/
import Derived.Test.YtnaamjpiaekmeaaGreatMm
import Derived.Test.YtnaamjpiaekmeaaGreatPa
import Derived.Test.YtnaamjpiaekmeaaGreatPb
import Derived.Test.YtnaamjpiaekmeaaGreatWpI
import Derived.Test.YtnaamjpiaekmeaaGreatGc
import Derived.Test.YtnaamjpiaekmeaaGreatGa
import Derived.Test.YtnaamjpiaekmeaaGreatTb
set_option linter.unusedVariables false
set_option linter.unusedSimpArgs false
namespace Go.Proofs.YtnaamjpiaekmeaaGreat
open Go.RowKit
set_option maxRecDepth 100000 in
set_option maxHeartbeats 2000000 in
theorem pcheck_any : ProgCheck := by
 intro g gv w hg hz hi
 obtain ⟨a1, c1, a2, c2, a3, c3, rfl, HF0, HB⟩ := box_gram hg
 obtain ⟨w0, hw0⟩ : ∃ w0, w0 = w.alloc (.cells #[.slice a1 g.names.length c1, .slice a2 g.terms.length c2, .slice a3 g.rules.length c3] 25) := ⟨_, rfl⟩
 obtain ⟨q0, hq0⟩ : ∃ q0, q0 = w.heap.size := ⟨_, rfl⟩
 rw [← hw0] at HF0 HB
 rw [← hq0] at HB
 have HV := Lib.hid (pvalid_any g _ w0 (hg.below HF0.out) hz hi)
 have HL := Lib.hid (fun wx (hf : Fr [] w wx) (hv : ValidG g) => plengths_any g _ wx (hg.below hf) hv)
 have HR := Lib.hid (fun wx (hf : Fr [] w wx) (hv : ValidG g) => preached_any g _ wx (hg.below hf) hv)
 obtain ⟨R, hR⟩ : ∃ R, R = checkG g := ⟨_, rfl⟩
 rw [← hR]
 obtain ⟨N, hN⟩ : ∃ n, n = g.names.length := ⟨_, rfl⟩
 obtain ⟨n2, hn2⟩ : ∃ n, n = g.terms.length := ⟨_, rfl⟩
 obtain ⟨n3, hn3⟩ : ∃ n, n = g.rules.length := ⟨_, rfl⟩
 rw [← hN, ← hn2, ← hn3] at HB hw0 HV HL HR
 rw [← hN, ← hn2, ← hn3]
 have HW0 := Lib.hid hw0
 have HQ0 := Lib.hid hq0
 have HN := Lib.hid hN
 have HN2 := Lib.hid hn2
 clear hw0 hq0 hN hn2 hn3 hg hz hi
 obtain ⟨x0, x1, x2, -⟩ := three_of_heap HB.out
 cases hvb : validB g with
 | false =>
   rw [hvb] at HV
   have HX := Lib.hid (show R = 1 by rw [hR]; unfold checkG; rw [if_pos hvb])
   clear hvb hR
   go_enter Tryz.func24, Tryz.ntmps24
   go_upto_region 1 with fail
   rw [← HW0.out, ← HQ0.out]
   go_wp2_with (go_at_call 47; refine HV.out.mono ?_; rintro e w1 ⟨rfl, hf1⟩)
   go_ret
   exact ⟨by rw [HX.out]; rfl, HF0.out.trans hf1 (by simp) (by simp)⟩
 | true =>
   rw [hvb] at HV
   have HVG := Lib.hid (of_boolOf hvb)
   rw [check_is (of_boolOf hvb)] at hR
   have HLI := Lib.hid (fun (wx : World) (b : Nat) (hr : intRow wx b (lensP g)) (hl : (lensP g).length = g.names.length) => pcontains_i (lensP g) (-1) _ wx (hr.at (by rw [hl]; have := (of_boolOf hvb).syms; simp [maxLen]; omega) g.names.length hl.symm))
   have HL1 := Lib.hid (fun (wx : World) (b : Nat) (hr : boolRow wx b (reachedP g).1) (hl : (reachedP g).1.length = g.names.length) => pcontains_b (reachedP g).1 false _ wx (hr.at (by rw [hl]; have := (of_boolOf hvb).syms; simp [maxLen]; omega) g.names.length hl.symm))
   have HL2 := Lib.hid (fun (wx : World) (b : Nat) (hr : boolRow wx b (reachedP g).2) (hl : (reachedP g).2.length = g.terms.length) => pcontains_b (reachedP g).2 false _ wx (hr.at (by rw [hl]; have := (of_boolOf hvb).syms; simp [maxLen]; omega) g.terms.length hl.symm))
   have hrp := reachedP_is (of_boolOf hvb)
   rw [show (reachL g) = (reachedP g).1 by rw [hrp], show (usedL g) = (reachedP g).2 by rw [hrp]] at hR
   clear hvb hrp
   obtain ⟨d1, hd1⟩ : ∃ d, d = decide ((-1 : Int) ∈ lensP g) := ⟨_, rfl⟩
   obtain ⟨d2, hd2⟩ : ∃ d, d = decide (false ∈ (reachedP g).1) := ⟨_, rfl⟩
   obtain ⟨d3, hd3⟩ : ∃ d, d = decide (false ∈ (reachedP g).2) := ⟨_, rfl⟩
   rw [← hd1] at HLI
   rw [← hd2] at HL1
   rw [← hd3] at HL2
   have HX : Hid (R = if d1 = true then 18 else if d2 = true then 17 else if d3 = true then 17 else 0) := Lib.hid (by rw [hR, hd1, hd2, hd3]; simp only [decide_eq_true_eq])
   clear hR hd1 hd2 hd3
   cases d1 with
   | true =>
     have HX2 := Lib.hid (show R = 18 from HX.out)
     go_enter Tryz.func24, Tryz.ntmps24
     go_upto_region 1 with fail
     rw [← HW0.out, ← HQ0.out]
     go_wp2_with (first
      | (go_at_call 48; have := w2; refine (HLI.out _ _ hrow hl).mono ?_; rintro e w3 ⟨rfl, hf3⟩)
      | (go_at_call 49; have := w1; refine (HL.out w1 HF1.out HVG.out).mono ?_; rintro e w2 ⟨b, hb, rfl, hrow, hl, hok, hf2⟩)
      | (go_at_call 47; refine HV.out.mono ?_; rintro e w1 ⟨rfl, hf1⟩; have HF1 := Lib.hid (HF0.out.trans hf1 (by simp) (n := []) (by simp)); obtain ⟨x0, x1, x2, -⟩ := three_of_heap (hf1.heap HB.out (by simp)); clear hf1))
     go_ret
     exact ⟨by rw [HX2.out]; rfl, HF1.out.trans (hf2.trans hf3 (by simp) (n := []) (by simp)) (by simp) (by simp)⟩
   | false =>
     cases d2 with
     | true =>
       have HX2 := Lib.hid (show R = 17 from HX.out)
       go_enter Tryz.func24, Tryz.ntmps24
       go_upto_region 1 with fail
       rw [← HW0.out, ← HQ0.out]
       go_wp2_with (first
        | (go_at_call 28; have := w4; refine (HL1.out _ _ hr hl4).mono ?_; rintro e w5 ⟨rfl, hf5⟩)
        | (go_at_call 50; have := w3; refine (HR.out w3 HF3.out HVG.out).mono ?_; rintro e w4 ⟨b3, b2, hb3, hb2, rfl, hr, hr2, hl4, hl2, hf4⟩)
        | (go_at_call 48; have := w2; refine (HLI.out _ _ hrow hl).mono ?_; rintro e w3 ⟨rfl, hf3⟩; have HF3 := Lib.hid (HF1.out.trans (hf2.trans hf3 (by simp) (n := []) (by simp)) (by simp) (n := []) (by simp)); obtain ⟨x0, x1, x2, -⟩ := three_of_heap ((hf2.trans hf3 (by simp) (n := []) (by simp)).heap HB1.out (by simp)))
        | (go_at_call 49; have := w1; refine (HL.out w1 HF1.out HVG.out).mono ?_; rintro e w2 ⟨b, hb, rfl, hrow, hl, hok, hf2⟩)
        | (go_at_call 47; refine HV.out.mono ?_; rintro e w1 ⟨rfl, hf1⟩; have HF1 := Lib.hid (HF0.out.trans hf1 (by simp) (n := []) (by simp)); have HB1 := Lib.hid (hf1.heap HB.out (by simp)); obtain ⟨x0, x1, x2, -⟩ := three_of_heap HB1.out; clear hf1))
       go_ret
       exact ⟨by rw [HX2.out]; rfl, HF3.out.trans (hf4.trans hf5 (by simp) (n := []) (by simp)) (by simp) (by simp)⟩
     | false =>
       have HX2 := Lib.hid (show R = if d3 = true then 17 else 0 from HX.out)
       cases d3 with
       | true =>
         have HX3 := Lib.hid (show R = 17 from HX2.out)
         go_enter Tryz.func24, Tryz.ntmps24
         go_upto_region 1 with fail
         rw [← HW0.out, ← HQ0.out]
         go_wp2_with (first
          | (go_at_call 28; have := w5; refine (HL2.out _ _ (hr2.below hf5) hl2).mono ?_; rintro e w6 ⟨rfl, hf6⟩)
          | (go_at_call 28; have := w4; refine (HL1.out _ _ hr hl4).mono ?_; rintro e w5 ⟨rfl, hf5⟩)
          | (go_at_call 50; have := w3; refine (HR.out w3 HF3.out HVG.out).mono ?_; rintro e w4 ⟨b3, b2, hb3, hb2, rfl, hr, hr2, hl4, hl2, hf4⟩)
          | (go_at_call 48; have := w2; refine (HLI.out _ _ hrow hl).mono ?_; rintro e w3 ⟨rfl, hf3⟩; have HF3 := Lib.hid (HF1.out.trans (hf2.trans hf3 (by simp) (n := []) (by simp)) (by simp) (n := []) (by simp)); obtain ⟨x0, x1, x2, -⟩ := three_of_heap ((hf2.trans hf3 (by simp) (n := []) (by simp)).heap HB1.out (by simp)))
          | (go_at_call 49; have := w1; refine (HL.out w1 HF1.out HVG.out).mono ?_; rintro e w2 ⟨b, hb, rfl, hrow, hl, hok, hf2⟩)
          | (go_at_call 47; refine HV.out.mono ?_; rintro e w1 ⟨rfl, hf1⟩; have HF1 := Lib.hid (HF0.out.trans hf1 (by simp) (n := []) (by simp)); have HB1 := Lib.hid (hf1.heap HB.out (by simp)); obtain ⟨x0, x1, x2, -⟩ := three_of_heap HB1.out; clear hf1))
         go_ret
         exact ⟨by rw [HX3.out]; rfl, HF3.out.trans (hf4.trans (hf5.trans hf6 (by simp) (n := []) (by simp)) (by simp) (n := []) (by simp)) (by simp) (by simp)⟩
       | false =>
         have HX3 := Lib.hid (show R = 0 from HX2.out)
         go_enter Tryz.func24, Tryz.ntmps24
         go_upto_region 1 with fail
         rw [← HW0.out, ← HQ0.out]
         go_wp2_with (first
          | (go_at_call 28; have := w5; refine (HL2.out _ _ (hr2.below hf5) hl2).mono ?_; rintro e w6 ⟨rfl, hf6⟩)
          | (go_at_call 28; have := w4; refine (HL1.out _ _ hr hl4).mono ?_; rintro e w5 ⟨rfl, hf5⟩)
          | (go_at_call 50; have := w3; refine (HR.out w3 HF3.out HVG.out).mono ?_; rintro e w4 ⟨b3, b2, hb3, hb2, rfl, hr, hr2, hl4, hl2, hf4⟩)
          | (go_at_call 48; have := w2; refine (HLI.out _ _ hrow hl).mono ?_; rintro e w3 ⟨rfl, hf3⟩; have HF3 := Lib.hid (HF1.out.trans (hf2.trans hf3 (by simp) (n := []) (by simp)) (by simp) (n := []) (by simp)); obtain ⟨x0, x1, x2, -⟩ := three_of_heap ((hf2.trans hf3 (by simp) (n := []) (by simp)).heap HB1.out (by simp)))
          | (go_at_call 49; have := w1; refine (HL.out w1 HF1.out HVG.out).mono ?_; rintro e w2 ⟨b, hb, rfl, hrow, hl, hok, hf2⟩)
          | (go_at_call 47; refine HV.out.mono ?_; rintro e w1 ⟨rfl, hf1⟩; have HF1 := Lib.hid (HF0.out.trans hf1 (by simp) (n := []) (by simp)); have HB1 := Lib.hid (hf1.heap HB.out (by simp)); obtain ⟨x0, x1, x2, -⟩ := three_of_heap HB1.out; clear hf1))
         go_ret
         exact ⟨by rw [HX3.out]; rfl, HF3.out.trans (hf4.trans (hf5.trans hf6 (by simp) (n := []) (by simp)) (by simp) (n := []) (by simp)) (by simp) (by simp)⟩
end Go.Proofs.YtnaamjpiaekmeaaGreat
