/- WellChecks (layer 15), over any program that does what it must. -/
import Derived.Test.YtamoalnbcmnciaaWrD
import Derived.Test.YtamoalnbcmnciaaWrE
import Derived.Test.YtamoalnbcmnciaaWrF
import Derived.Test.YtamoalnbcmnciaaGrmFw
import Derived.Test.YtamoalnbcmnciaaMm
import Derived.Test.YtamoalnbcmnciaaBs
namespace Go.Proofs.Ytamoalnbcmnciaa
open Go.RowKit

set_option maxRecDepth 100000 in
set_option maxHeartbeats 8000000 in
theorem lwellchecks_any (hC : ProgCheck) (hP : ProgProductive) (hR : ProgReached) (hS : ProgShortest) (g : GramG) (gv : Value) (w : World) (hg : gramAt w gv g) (hi : IntG g)
    (gn : ∀ n ∈ g.names, n.length ≤ maxLen) (gt : ∀ n ∈ g.terms, n.length ≤ maxLen) : Calls Try.prog 3 #[gv] w fun e w' => e = .returned (.bool true) ∧ Fr [] w w' := by
  obtain ⟨a1, c1, a2, c2, a3, c3, rfl, HF0, HB⟩ := box_gram hg
  obtain ⟨w0, hw0⟩ : ∃ w0, w0 = w.alloc (.cells #[.slice a1 g.names.length c1, .slice a2 g.terms.length c2, .slice a3 g.rules.length c3] 25) := ⟨_, rfl⟩
  obtain ⟨q0, hq0⟩ : ∃ q0, q0 = w.heap.size := ⟨_, rfl⟩
  rw [← hw0] at HF0 HB
  rw [← hq0] at HB
  have HFEW := Lib.hid (rfew_any g _ w0 (hg.below HF0.out) gn gt)
  have HAW := Lib.hid (fun wx => lawake_any hC wx)
  have HCK := Lib.hid (fun wx (hf : Fr [] w wx) (hz : SizeG g) => hC g _ wx (hg.below hf) hz hi)
  have HPR := Lib.hid (fun wx (hf : Fr [] w wx) (hz : SizeG g) => hP g _ wx (hg.below hf) hz hi)
  have HRE := Lib.hid (fun wx (hf : Fr [] w wx) (hz : SizeG g) => hR g _ wx (hg.below hf) hz hi)
  have HSH := Lib.hid (fun wx (hf : Fr [] w wx) (hz : SizeG g) => hS g _ wx (hg.below hf) hz hi)
  have HRC := Lib.hid (fun wx (hf : Fr [] w wx) (hz : SizeG g) => rcheck_any g _ wx (hg.below hf) hz)
  have HRV := Lib.hid (fun wx (hf : Fr [] w wx) (hz : SizeG g) => rvalid_any g _ wx (hg.below hf) hz)
  have HRP := Lib.hid (fun wx (hf : Fr [] w wx) (hv : ValidG g) => rprod_any g _ wx (hg.below hf) hv)
  have HRR := Lib.hid (fun wx (hf : Fr [] w wx) (hv : ValidG g) => rreach_any g _ wx (hg.below hf) hv)
  obtain ⟨N, hN⟩ : ∃ n, n = g.names.length := ⟨_, rfl⟩
  obtain ⟨n2, hn2⟩ : ∃ n, n = g.terms.length := ⟨_, rfl⟩
  obtain ⟨n3, hn3⟩ : ∃ n, n = g.rules.length := ⟨_, rfl⟩
  rw [← hN, ← hn2, ← hn3] at HB hw0 HFEW HCK HPR HRE HSH HRC HRV HRP HRR
  rw [← hN, ← hn2, ← hn3]
  have HW0 := Lib.hid hw0
  have HQ0 := Lib.hid hq0
  clear hw0 hq0 hN hn2 hn3 hg hi gn gt hC hP hR hS
  obtain ⟨x0, x1, x2, -⟩ := three_of_heap HB.out
  rcases few_two g with hf2 | hf2
  · rw [hf2] at HFEW
    clear hf2
    go_enter Try.func3, Try.ntmps3
    go_upto_region 1 with fail
    rw [← HW0.out, ← HQ0.out]
    go_wp2_with (first | (go_at_call 5; refine HFEW.out.mono ?_; rintro e w1 ⟨rfl, hf1⟩; have HF1 := Lib.hid (HF0.out.trans hf1 (by simp) (n := []) (by simp))) | (go_at_call 6; refine (HAW.out _).mono ?_; rintro e w2 ⟨rfl, hf2⟩))
    go_ret
    exact ⟨rfl, HF1.out.trans hf2 (by simp) (by simp)⟩
  have hsz := few_size (g := g) (by rw [hf2]; decide)
  rw [hf2] at HFEW
  have HSZ := Lib.hid hsz
  obtain ⟨C, hCC⟩ : ∃ C, C = checkG g := ⟨_, rfl⟩
  rw [← hCC] at HCK HRC
  have hcc : (C != C) = false := by simp
  clear hf2 hsz hCC
  cases hvb : validB g with
  | false =>
    rw [hvb] at HRV
    have HVB := Lib.hid hvb
    clear hvb
    go_enter Try.func3, Try.ntmps3
    go_upto_region 1 with fail
    rw [← HW0.out, ← HQ0.out]
    go_upto_region 3 with (go_at_call 5; refine HFEW.out.mono ?_; rintro e w1 ⟨rfl, hf1⟩; have HF1 := Lib.hid (HF0.out.trans hf1 (by simp) (n := []) (by simp)); have HB1 := Lib.hid (hf1.heap HB.out (by simp)); clear hf1)
    clear x0 x1 x2
    refine wp_region_G [] [(0, false), (2, false), (1, true), (3, true), (4, false)] 49 rfl (by kernel_rfl) (by kernel_rfl) (by kernel_rfl) (fun c a d v w h => by cases d <;> exact h) (fun w2 hf2 => ?_)
    simp only [List.map_cons, List.map_nil, List.getElem?_toArray, List.getElem?_cons_succ, List.getElem?_cons_zero, Option.getD_some]
    have HF2 := Lib.hid (HF1.out.trans hf2 (by simp) (n := []) (by simp))
    have HB2 := Lib.hid (hf2.heap HB1.out (by simp))
    clear hf2
    repeat (apply wpG_t; · (intro w' hf'; obtain ⟨x0, x1, x2, -⟩ := three_of_heap (hf'.heap HB2.out (by simp)); go_wp2_with fail; exact ⟨rfl, rfl⟩))
    refine wpG_x ?_
    go_wp2_with (go_at_call 7; refine (HCK.out _ HF2.out HSZ.out).mono ?_; rintro e w3 ⟨rfl, hf3⟩)
    refine ⟨hf3, rfl, ?_⟩
    have HF3 := Lib.hid (HF2.out.trans hf3 (by simp) (n := []) (by simp))
    have HB3 := Lib.hid (hf3.heap HB2.out (by simp))
    clear hf3
    refine wpG_x ?_
    go_wp2_with (go_at_call 8; refine (HRC.out _ HF3.out HSZ.out).mono ?_; rintro e w4 ⟨rfl, hf4⟩)
    refine ⟨hf4, rfl, ?_⟩
    have HF4 := Lib.hid (HF3.out.trans hf4 (by simp) (n := []) (by simp))
    have HB4 := Lib.hid (hf4.heap HB3.out (by simp))
    clear hf4
    repeat (apply wpG_t; · (intro w' hf'; go_wp2_with fail; exact ⟨rfl, rfl⟩))
    refine wpG_end ?_
    obtain ⟨x0, x1, x2, -⟩ := three_of_heap HB4.out
    go_wp2_with (first
      | (go_at_call 6; refine (HAW.out _).mono ?_; rintro e w9 ⟨rfl, hf9⟩)
      | (go_at_call 12; have := w7; refine (HSH.out _ HF7.out HSZ.out).mono ?_; rintro e w8 ⟨v8, l8, rfl, hb8, hs8, hf8⟩; rw [show l8 = [] by (unfold ShortL at hs8; rwa [HVB.out, if_neg (by decide)] at hs8)] at hb8; obtain ⟨a8, k8, rfl, -, -⟩ := hb8.form; have HF8 := Lib.hid (HF7.out.trans hf8 (by simp) (n := []) (by simp)))
      | (go_at_call 11; have := w6; refine (HRE.out _ HF6.out HSZ.out).mono ?_; rintro e w7 ⟨v7, rfl, hb7, hf7⟩; rw [show reachO g = [] by (unfold reachO; rw [HVB.out]; rfl)] at hb7; obtain ⟨a7, k7, rfl, -, -⟩ := hb7.form; have HF7 := Lib.hid (HF6.out.trans hf7 (by simp) (n := []) (by simp)); have HB7 := Lib.hid (hf7.heap HB6.out (by simp)); obtain ⟨x0, x1, x2, -⟩ := three_of_heap HB7.out)
      | (go_at_call 10; have := w5; refine (HPR.out _ HF5.out HSZ.out).mono ?_; rintro e w6 ⟨v6, rfl, hb6, hf6⟩; rw [show prodO g = [] by (unfold prodO; rw [HVB.out]; rfl)] at hb6; obtain ⟨a6, k6, rfl, -, -⟩ := hb6.form; have HF6 := Lib.hid (HF5.out.trans hf6 (by simp) (n := []) (by simp)); have HB6 := Lib.hid (hf6.heap HB5.out (by simp)); obtain ⟨x0, x1, x2, -⟩ := three_of_heap HB6.out)
      | (go_at_call 9; refine (HRV.out _ HF4.out HSZ.out).mono ?_; rintro e w5 ⟨rfl, hf5⟩; have HF5 := Lib.hid (HF4.out.trans hf5 (by simp) (n := []) (by simp)); have HB5 := Lib.hid (hf5.heap HB4.out (by simp)); obtain ⟨x0, x1, x2, -⟩ := three_of_heap HB5.out))
    go_ret
    exact ⟨rfl, HF8.out.trans hf9 (by simp) (by simp)⟩
  | true =>
    rw [hvb] at HRV
    have HVB := Lib.hid hvb
    have HVG := Lib.hid (of_boolOf hvb)
    clear hvb
    go_enter Try.func3, Try.ntmps3
    go_upto_region 1 with fail
    rw [← HW0.out, ← HQ0.out]
    go_upto_region 3 with (go_at_call 5; refine HFEW.out.mono ?_; rintro e w1 ⟨rfl, hf1⟩; have HF1 := Lib.hid (HF0.out.trans hf1 (by simp) (n := []) (by simp)); have HB1 := Lib.hid (hf1.heap HB.out (by simp)); clear hf1)
    clear x0 x1 x2
    refine wp_region_G [] [(0, false), (2, false), (1, true), (3, true), (4, false)] 49 rfl (by kernel_rfl) (by kernel_rfl) (by kernel_rfl) (fun c a d v w h => by cases d <;> exact h) (fun w2 hf2 => ?_)
    simp only [List.map_cons, List.map_nil, List.getElem?_toArray, List.getElem?_cons_succ, List.getElem?_cons_zero, Option.getD_some]
    have HF2 := Lib.hid (HF1.out.trans hf2 (by simp) (n := []) (by simp))
    have HB2 := Lib.hid (hf2.heap HB1.out (by simp))
    clear hf2
    repeat (apply wpG_t; · (intro w' hf'; obtain ⟨x0, x1, x2, -⟩ := three_of_heap (hf'.heap HB2.out (by simp)); go_wp2_with fail; exact ⟨rfl, rfl⟩))
    refine wpG_x ?_
    go_wp2_with (go_at_call 7; refine (HCK.out _ HF2.out HSZ.out).mono ?_; rintro e w3 ⟨rfl, hf3⟩)
    refine ⟨hf3, rfl, ?_⟩
    have HF3 := Lib.hid (HF2.out.trans hf3 (by simp) (n := []) (by simp))
    have HB3 := Lib.hid (hf3.heap HB2.out (by simp))
    clear hf3
    refine wpG_x ?_
    go_wp2_with (go_at_call 8; refine (HRC.out _ HF3.out HSZ.out).mono ?_; rintro e w4 ⟨rfl, hf4⟩)
    refine ⟨hf4, rfl, ?_⟩
    have HF4 := Lib.hid (HF3.out.trans hf4 (by simp) (n := []) (by simp))
    have HB4 := Lib.hid (hf4.heap HB3.out (by simp))
    clear hf4
    repeat (apply wpG_t; · (intro w' hf'; go_wp2_with fail; exact ⟨rfl, rfl⟩))
    refine wpG_end ?_
    obtain ⟨x0, x1, x2, -⟩ := three_of_heap HB4.out
    go_upto_region 7 with (go_at_call 9; refine (HRV.out _ HF4.out HSZ.out).mono ?_; rintro e w5 ⟨rfl, hf5⟩; have HF5 := Lib.hid (HF4.out.trans hf5 (by simp) (n := []) (by simp)); have HB5 := Lib.hid (hf5.heap HB4.out (by simp)); obtain ⟨x0, x1, x2, -⟩ := three_of_heap HB5.out)
    clear x0 x1 x2
    refine wp_region_G [] [(0, false), (2, false), (1, true), (3, true), (4, true), (5, false), (6, false), (8, false), (7, true), (9, true), (10, true), (11, false), (12, false), (13, true), (14, false), (15, false)] 49 rfl (by kernel_rfl) (by kernel_rfl) (by kernel_rfl) (fun c a d v w h => by cases d <;> exact h) (fun w6 hf6 => ?_)
    simp only [List.map_cons, List.map_nil, List.getElem?_toArray, List.getElem?_cons_succ, List.getElem?_cons_zero, Option.getD_some]
    have HF6 := Lib.hid (HF5.out.trans hf6 (by simp) (n := []) (by simp))
    have HB6 := Lib.hid (hf6.heap HB5.out (by simp))
    clear hf6
    repeat (apply wpG_t; · (intro w' hf'; obtain ⟨x0, x1, x2, -⟩ := three_of_heap (hf'.heap HB6.out (by simp)); go_wp2_with fail; exact ⟨rfl, rfl⟩))
    refine wpG_x ?_
    go_wp2_with (go_at_call 10; refine (HPR.out _ HF6.out HSZ.out).mono ?_; rintro e w7 ⟨v7, rfl, hb7, hf7⟩)
    refine ⟨hf7, rfl, ?_⟩
    have HF7 := Lib.hid (HF6.out.trans hf7 (by simp) (n := []) (by simp))
    have HB7 := Lib.hid (hf7.heap HB6.out (by simp))
    rw [show prodO g = prodL g by unfold prodO; rw [if_pos HVB.out]] at hb7
    have HV7 := Lib.hid hb7
    clear hb7
    clear hf7
    refine wpG_x ?_
    go_wp2_with (go_at_call 14; refine (HRP.out _ HF7.out HVG.out).mono ?_; rintro e w8 ⟨b8, hb8, rfl, hr8, hf8⟩)
    refine ⟨hf8, rfl, ?_⟩
    have HF8 := Lib.hid (HF7.out.trans hf8 (by simp) (n := []) (by simp))
    have HB8 := Lib.hid (hf8.heap HB7.out (by simp))
    have HV8 := Lib.hid (hr8.at (by rw [prodL_len]; have := HVG.out.syms; simp [maxLen]; omega) _ rfl)
    have HV78 := Lib.hid (HV7.out.below hf8)
    clear hr8 hb8
    clear hf8
    refine wpG_x ?_
    go_wp2_with (go_at_call 13; refine (lsame_any (prodL g) (prodL g) _ _ _ HV78.out HV8.out).mono ?_; rintro e w9 ⟨rfl, hf9⟩)
    refine ⟨hf9, rfl, ?_⟩
    have HF9 := Lib.hid (HF8.out.trans hf9 (by simp) (n := []) (by simp))
    have HB9 := Lib.hid (hf9.heap HB8.out (by simp))
    clear hf9
    repeat (apply wpG_t; · (intro w' hf'; obtain ⟨x0, x1, x2, -⟩ := three_of_heap (hf'.heap HB9.out (by simp)); go_wp2_with fail; exact ⟨rfl, rfl⟩))
    refine wpG_x ?_
    go_wp2_with (go_at_call 11; refine (HRE.out _ HF9.out HSZ.out).mono ?_; rintro e w10 ⟨v10, rfl, hb10, hf10⟩)
    refine ⟨hf10, rfl, ?_⟩
    have HF10 := Lib.hid (HF9.out.trans hf10 (by simp) (n := []) (by simp))
    have HB10 := Lib.hid (hf10.heap HB9.out (by simp))
    rw [show reachO g = reachL g by unfold reachO; rw [if_pos HVB.out]] at hb10
    have HV10 := Lib.hid hb10
    clear hb10
    clear hf10
    refine wpG_x ?_
    go_wp2_with (go_at_call 15; refine (HRR.out _ HF10.out HVG.out).mono ?_; rintro e w11 ⟨b11, hb11, rfl, hr11, hf11⟩)
    refine ⟨hf11, rfl, ?_⟩
    have HF11 := Lib.hid (HF10.out.trans hf11 (by simp) (n := []) (by simp))
    have HB11 := Lib.hid (hf11.heap HB10.out (by simp))
    have HV11 := Lib.hid (hr11.at (by rw [reachL_len]; have := HVG.out.syms; simp [maxLen]; omega) _ rfl)
    have HV101 := Lib.hid (HV10.out.below hf11)
    clear hr11 hb11
    clear hf11
    refine wpG_x ?_
    go_wp2_with (go_at_call 13; refine (lsame_any (reachL g) (reachL g) _ _ _ HV101.out HV11.out).mono ?_; rintro e w12 ⟨rfl, hf12⟩)
    refine ⟨hf12, rfl, ?_⟩
    have HF12 := Lib.hid (HF11.out.trans hf12 (by simp) (n := []) (by simp))
    have HB12 := Lib.hid (hf12.heap HB11.out (by simp))
    clear hf12
    repeat (apply wpG_t; · (intro w' hf'; obtain ⟨x0, x1, x2, -⟩ := three_of_heap (hf'.heap HB12.out (by simp)); go_wp2_with fail; exact ⟨rfl, rfl⟩))
    refine wpG_x ?_
    go_wp2_with (go_at_call 6; refine (HAW.out _).mono ?_; rintro e w13 ⟨rfl, hf13⟩)
    refine ⟨hf13, rfl, ?_⟩
    have HF13 := Lib.hid (HF12.out.trans hf13 (by simp) (n := []) (by simp))
    have HB13 := Lib.hid (hf13.heap HB12.out (by simp))
    clear hf13
    repeat (apply wpG_t; · (intro w' hf'; obtain ⟨x0, x1, x2, -⟩ := three_of_heap (hf'.heap HB13.out (by simp)); go_wp2_with fail; exact ⟨rfl, rfl⟩))
    refine wpG_end ?_
    go_wp2_with fail
    go_ret
    exact ⟨rfl, HF13.out⟩
end Go.Proofs.Ytamoalnbcmnciaa
