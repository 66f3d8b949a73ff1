/- CanonApart (layer 16), over any program that does what it must. Written by wip/tools/gen_cwc.py. -/
import Derived.Test.YtgfpkmnmdehkpaaGreatCwA
import Derived.Test.YtgfpkmnmdehkpaaGreatMm
import Derived.Test.YtgfpkmnmdehkpaaGreatCn
import Derived.Test.YtgfpkmnmdehkpaaGreatGrmD
import Derived.Test.YtgfpkmnmdehkpaaGreatGr
import Derived.Test.YtgfpkmnmdehkpaaGreatBs
set_option linter.unusedVariables false
set_option linter.unusedSimpArgs false
namespace Go.Proofs.YtgfpkmnmdehkpaaGreat
open Go.RowKit

theorem few_weight {g : GramG} (hf : fewB g ≠ 0) (hv : ValidG g) : weightG g ≤ 65536 := by
  have hF : FewG g := by
    rcases boolOf_cases (FewG g) with ⟨h, -⟩ | ⟨-, he⟩
    · exact h
    · exact absurd (show fewB g = 0 by unfold fewB; rw [he]; rfl) hf
  obtain ⟨k1, k2, k3, k4, -, -⟩ := hF
  unfold weightG
  have h1 := sum_most 35 (g.names.map wN) (fun x hx => by
    obtain ⟨n, hn, rfl⟩ := List.mem_map.1 hx
    have := name_len (hv.names n hn)
    unfold wN
    omega)
  have h2 := sum_most 702 ((rulesX g).map wX) (fun x hx => by
    obtain ⟨p, hp, rfl⟩ := List.mem_map.1 hx
    obtain ⟨-, hi⟩ := ruleX_in hv hp
    have hlen : p.2.length ≤ 20 := by
      obtain ⟨r, hr, rfl⟩ := List.mem_map.1 hp
      show (r.right.map _).length ≤ 20
      rw [List.length_map]
      exact k4 r hr
    have := alt_most p.2 (fun i him => by
      have := hi i him
      unfold ItemIn at this
      split at this
      · exact term_len (hv.terms _ this)
      · exact name_len (hv.names _ this))
    unfold wX
    omega)
  rw [List.length_map] at h1 h2
  have h3 : (rulesX g).length = g.rules.length := by unfold rulesX; rw [List.length_map]
  omega
theorem textO_valid {g : GramG} (hv : ValidG g) : textO g = textD (linesG (canonG g)) := by
  unfold textO
  rw [if_pos (show validB g = true from boolOf_true hv)]
theorem canonO_valid {g : GramG} (hv : ValidG g) : canonO g = canonG g := by
  unfold canonO
  rw [if_pos (show validB g = true from boolOf_true hv)]
set_option maxRecDepth 100000 in
set_option maxHeartbeats 8000000 in
theorem capart_any (hR : ProgCanRead) (hT : ProgCanText) (hI : ProgCanIs) (hO : ProgCanOf) (g h : GramG) (gv hv : Value) (w : World) (hg : gramAt w gv g) (hh : gramAt w hv h)
    (ig : IntG g) (ih : IntG h) (gn : ∀ n ∈ g.names, n.length ≤ maxLen) (gt : ∀ n ∈ g.terms, n.length ≤ maxLen) (hn : ∀ n ∈ h.names, n.length ≤ maxLen) (ht : ∀ n ∈ h.terms, n.length ≤ maxLen) :
    Calls Tryz.prog 7 #[gv, hv] w fun e w' => e = .returned (.bool true) ∧ Fr [] w w' := by
  have HAW := Lib.hid (fun wx => cawake_any hR hT hI wx)
  obtain ⟨a1, c1, a2, c2, a3, c3, rfl, -, -, -⟩ := hg.parts
  obtain ⟨b1, d1, b2, d2, b3, d3, rfl, -, -, -⟩ := hh.parts
  have hb0 := heap_alloc_new w (.cells #[.slice a1 g.names.length c1, .slice a2 g.terms.length c2, .slice a3 g.rules.length c3] 25)
  have hb1 := heap_alloc_new (w.alloc (.cells #[.slice a1 g.names.length c1, .slice a2 g.terms.length c2, .slice a3 g.rules.length c3] 25)) (.cells #[.slice b1 h.names.length d1, .slice b2 h.terms.length d2, .slice b3 h.rules.length d3] 25)
  have hf0 := Fr.alloc w (.cells #[.slice a1 g.names.length c1, .slice a2 g.terms.length c2, .slice a3 g.rules.length c3] 25)
  have hf1 := Fr.alloc (w.alloc (.cells #[.slice a1 g.names.length c1, .slice a2 g.terms.length c2, .slice a3 g.rules.length c3] 25)) (.cells #[.slice b1 h.names.length d1, .slice b2 h.terms.length d2, .slice b3 h.rules.length d3] 25)
  obtain ⟨w2, hw2⟩ : ∃ w2, w2 = (w.alloc (.cells #[.slice a1 g.names.length c1, .slice a2 g.terms.length c2, .slice a3 g.rules.length c3] 25)).alloc (.cells #[.slice b1 h.names.length d1, .slice b2 h.terms.length d2, .slice b3 h.rules.length d3] 25) := ⟨_, rfl⟩
  obtain ⟨q0, hq0⟩ : ∃ q0, q0 = w.heap.size := ⟨_, rfl⟩
  have hb0' := hf1.heap hb0 (by simp)
  have hf2 := hf0.trans hf1 (by simp) (n := []) (by simp)
  rw [World.size_alloc, ← hq0] at hb1
  rw [← hw2] at hb1 hb0' hf2
  rw [← hq0] at hb0'
  have HBG := Lib.hid hb0'
  have HBH := Lib.hid hb1
  have HF2 := Lib.hid hf2
  have hg2 := hg.below hf2
  have hh2 := hh.below hf2
  have HFG := Lib.hid (fun wx (hf : Fr [] w2 wx) => rfew_any g _ wx (hg2.below hf) gn gt)
  have HFH := Lib.hid (fun wx (hf : Fr [] w2 wx) => rfew_any h _ wx (hh2.below hf) hn ht)
  have HVG := Lib.hid (fun wx (hf : Fr [] w2 wx) (hz : SizeG g) => rvalid_any g _ wx (hg2.below hf) hz)
  have HVH := Lib.hid (fun wx (hf : Fr [] w2 wx) (hz : SizeG h) => rvalid_any h _ wx (hh2.below hf) hz)
  have HAG := Lib.hid (fun wx (hf : Fr [] w2 wx) => call_any g _ wx (hg2.below hf))
  have HAH := Lib.hid (fun wx (hf : Fr [] w2 wx) => call_any h _ wx (hh2.below hf))
  have HTG := Lib.hid (fun wx (hf : Fr [] w2 wx) (hz : SizeG g) => hT g _ wx (hg2.below hf) hz ig)
  have HTH := Lib.hid (fun wx (hf : Fr [] w2 wx) (hz : SizeG h) => hT h _ wx (hh2.below hf) hz ih)
  have HOG := Lib.hid (fun wx (hf : Fr [] w2 wx) (hz : SizeG g) => hO g _ wx (hg2.below hf) hz ig)
  have HOH := Lib.hid (fun wx (hf : Fr [] w2 wx) (hz : SizeG h) => hO h _ wx (hh2.below hf) hz ih)
  have HSM := Lib.hid (fun va vb wx (ha : gramAt wx va (canonO g)) (hb : gramAt wx vb (canonO h)) => rsame_any (canonO g) (canonO h) va vb wx ha hb)
  have HW2 := Lib.hid hw2
  have HQ0 := Lib.hid hq0
  obtain ⟨n1, hn1⟩ : ∃ n, n = g.names.length := ⟨_, rfl⟩
  obtain ⟨n2, hn2⟩ : ∃ n, n = g.terms.length := ⟨_, rfl⟩
  obtain ⟨n3, hn3⟩ : ∃ n, n = g.rules.length := ⟨_, rfl⟩
  obtain ⟨m1, hm1⟩ : ∃ n, n = h.names.length := ⟨_, rfl⟩
  obtain ⟨m2, hm2⟩ : ∃ n, n = h.terms.length := ⟨_, rfl⟩
  obtain ⟨m3, hm3⟩ : ∃ n, n = h.rules.length := ⟨_, rfl⟩
  rw [← hn1, ← hn2, ← hn3] at HBG HFG HVG HAG HTG HOG HW2
  rw [← hm1, ← hm2, ← hm3] at HBH HFH HVH HAH HTH HOH HW2
  rw [← hn1, ← hn2, ← hn3, ← hm1, ← hm2, ← hm3]
  obtain ⟨x0, x1, x2, -⟩ := three_of_heap HBG.out
  obtain ⟨y0, y1, y2, -⟩ := three_of_heap HBH.out
  clear hb0 hb1 hf0 hf1 hb0' hf2 hw2 hq0 hg hh hg2 hh2 hn1 hn2 hn3 hm1 hm2 hm3 ig ih gn gt hn ht hR hT hI hO
  rcases few_two g with kf | kf
  · rw [kf] at HFG
    clear kf
    go_enter Tryz.func7, Tryz.ntmps7
    go_upto_region 1 with fail
    rw [← HW2.out, ← HQ0.out]
    go_wp2_with (first
      | (go_at_call 9; refine (HAW.out _).mono ?_; rintro e w9 ⟨rfl, hf9⟩)
      | (go_at_call 8; refine (HFG.out _ (Fr.refl _ _)).mono ?_; rintro e w3 ⟨rfl, hf3⟩; have gf3 := hf3; obtain ⟨x0, x1, x2, -⟩ := three_of_heap (gf3.heap HBG.out (by simp)); obtain ⟨y0, y1, y2, -⟩ := three_of_heap (gf3.heap HBH.out (by simp))))
    go_ret
    exact ⟨rfl, (HF2.out.trans gf3 (by simp) (n := []) (by simp)).trans hf9 (by simp) (by simp)⟩
  have HZG := Lib.hid (few_size (g := g) (by rw [kf]; decide))
  have HKG := Lib.hid (show fewB g ≠ 0 by rw [kf]; decide)
  rw [kf] at HFG
  clear kf
  rcases few_two h with kf | kf
  · rw [kf] at HFH
    clear kf
    go_enter Tryz.func7, Tryz.ntmps7
    go_upto_region 1 with fail
    rw [← HW2.out, ← HQ0.out]
    go_wp2_with (first
      | (go_at_call 9; refine (HAW.out _).mono ?_; rintro e w9 ⟨rfl, hf9⟩)
      | (go_at_call 8; refine (HFH.out _ gf3).mono ?_; rintro e w4 ⟨rfl, hf4⟩; have gf4 := gf3.trans hf4 (by simp) (n := []) (by simp); obtain ⟨x0, x1, x2, -⟩ := three_of_heap (gf4.heap HBG.out (by simp)); obtain ⟨y0, y1, y2, -⟩ := three_of_heap (gf4.heap HBH.out (by simp)))
      | (go_at_call 8; refine (HFG.out _ (Fr.refl _ _)).mono ?_; rintro e w3 ⟨rfl, hf3⟩; have gf3 := hf3; obtain ⟨x0, x1, x2, -⟩ := three_of_heap (gf3.heap HBG.out (by simp)); obtain ⟨y0, y1, y2, -⟩ := three_of_heap (gf3.heap HBH.out (by simp))))
    go_ret
    exact ⟨rfl, (HF2.out.trans gf4 (by simp) (n := []) (by simp)).trans hf9 (by simp) (by simp)⟩
  have HZH := Lib.hid (few_size (g := h) (by rw [kf]; decide))
  have HKH := Lib.hid (show fewB h ≠ 0 by rw [kf]; decide)
  rw [kf] at HFH
  clear kf
  cases vg : validB g with
  | false =>
    rw [vg] at HVG
    clear vg
    go_enter Tryz.func7, Tryz.ntmps7
    go_upto_region 1 with fail
    rw [← HW2.out, ← HQ0.out]
    go_wp2_with (first
      | (go_at_call 9; refine (HAW.out _).mono ?_; rintro e w9 ⟨rfl, hf9⟩)
      | (go_at_call 11; refine (HVG.out _ gf4 HZG.out).mono ?_; rintro e w5 ⟨rfl, hf5⟩; have gf5 := gf4.trans hf5 (by simp) (n := []) (by simp); obtain ⟨x0, x1, x2, -⟩ := three_of_heap (gf5.heap HBG.out (by simp)); obtain ⟨y0, y1, y2, -⟩ := three_of_heap (gf5.heap HBH.out (by simp)))
      | (go_at_call 8; refine (HFH.out _ gf3).mono ?_; rintro e w4 ⟨rfl, hf4⟩; have gf4 := gf3.trans hf4 (by simp) (n := []) (by simp); obtain ⟨x0, x1, x2, -⟩ := three_of_heap (gf4.heap HBG.out (by simp)); obtain ⟨y0, y1, y2, -⟩ := three_of_heap (gf4.heap HBH.out (by simp)))
      | (go_at_call 8; refine (HFG.out _ (Fr.refl _ _)).mono ?_; rintro e w3 ⟨rfl, hf3⟩; have gf3 := hf3; obtain ⟨x0, x1, x2, -⟩ := three_of_heap (gf3.heap HBG.out (by simp)); obtain ⟨y0, y1, y2, -⟩ := three_of_heap (gf3.heap HBH.out (by simp))))
    go_ret
    exact ⟨rfl, (HF2.out.trans gf5 (by simp) (n := []) (by simp)).trans hf9 (by simp) (by simp)⟩
  | true =>
  have HVLG := Lib.hid (show ValidG g from of_boolOf vg)
  rw [vg] at HVG
  clear vg
  cases vh : validB h with
  | false =>
    rw [vh] at HVH
    clear vh
    go_enter Tryz.func7, Tryz.ntmps7
    go_upto_region 1 with fail
    rw [← HW2.out, ← HQ0.out]
    go_wp2_with (first
      | (go_at_call 9; refine (HAW.out _).mono ?_; rintro e w9 ⟨rfl, hf9⟩)
      | (go_at_call 11; refine (HVH.out _ gf5 HZH.out).mono ?_; rintro e w6 ⟨rfl, hf6⟩; have gf6 := gf5.trans hf6 (by simp) (n := []) (by simp); obtain ⟨x0, x1, x2, -⟩ := three_of_heap (gf6.heap HBG.out (by simp)); obtain ⟨y0, y1, y2, -⟩ := three_of_heap (gf6.heap HBH.out (by simp)))
      | (go_at_call 11; refine (HVG.out _ gf4 HZG.out).mono ?_; rintro e w5 ⟨rfl, hf5⟩; have gf5 := gf4.trans hf5 (by simp) (n := []) (by simp); obtain ⟨x0, x1, x2, -⟩ := three_of_heap (gf5.heap HBG.out (by simp)); obtain ⟨y0, y1, y2, -⟩ := three_of_heap (gf5.heap HBH.out (by simp)))
      | (go_at_call 8; refine (HFH.out _ gf3).mono ?_; rintro e w4 ⟨rfl, hf4⟩; have gf4 := gf3.trans hf4 (by simp) (n := []) (by simp); obtain ⟨x0, x1, x2, -⟩ := three_of_heap (gf4.heap HBG.out (by simp)); obtain ⟨y0, y1, y2, -⟩ := three_of_heap (gf4.heap HBH.out (by simp)))
      | (go_at_call 8; refine (HFG.out _ (Fr.refl _ _)).mono ?_; rintro e w3 ⟨rfl, hf3⟩; have gf3 := hf3; obtain ⟨x0, x1, x2, -⟩ := three_of_heap (gf3.heap HBG.out (by simp)); obtain ⟨y0, y1, y2, -⟩ := three_of_heap (gf3.heap HBH.out (by simp))))
    go_ret
    exact ⟨rfl, (HF2.out.trans gf6 (by simp) (n := []) (by simp)).trans hf9 (by simp) (by simp)⟩
  | true =>
  have HVLH := Lib.hid (show ValidG h from of_boolOf vh)
  rw [vh] at HVH
  clear vh
  cases ag : allT g with
  | false =>
    rw [ag] at HAG
    clear ag
    go_enter Tryz.func7, Tryz.ntmps7
    go_upto_region 1 with fail
    rw [← HW2.out, ← HQ0.out]
    go_wp2_with (first
      | (go_at_call 9; refine (HAW.out _).mono ?_; rintro e w9 ⟨rfl, hf9⟩)
      | (go_at_call 23; refine (HAG.out _ gf6).mono ?_; rintro e w7 ⟨rfl, hf7⟩; have gf7 := gf6.trans hf7 (by simp) (n := []) (by simp); obtain ⟨x0, x1, x2, -⟩ := three_of_heap (gf7.heap HBG.out (by simp)); obtain ⟨y0, y1, y2, -⟩ := three_of_heap (gf7.heap HBH.out (by simp)))
      | (go_at_call 11; refine (HVH.out _ gf5 HZH.out).mono ?_; rintro e w6 ⟨rfl, hf6⟩; have gf6 := gf5.trans hf6 (by simp) (n := []) (by simp); obtain ⟨x0, x1, x2, -⟩ := three_of_heap (gf6.heap HBG.out (by simp)); obtain ⟨y0, y1, y2, -⟩ := three_of_heap (gf6.heap HBH.out (by simp)))
      | (go_at_call 11; refine (HVG.out _ gf4 HZG.out).mono ?_; rintro e w5 ⟨rfl, hf5⟩; have gf5 := gf4.trans hf5 (by simp) (n := []) (by simp); obtain ⟨x0, x1, x2, -⟩ := three_of_heap (gf5.heap HBG.out (by simp)); obtain ⟨y0, y1, y2, -⟩ := three_of_heap (gf5.heap HBH.out (by simp)))
      | (go_at_call 8; refine (HFH.out _ gf3).mono ?_; rintro e w4 ⟨rfl, hf4⟩; have gf4 := gf3.trans hf4 (by simp) (n := []) (by simp); obtain ⟨x0, x1, x2, -⟩ := three_of_heap (gf4.heap HBG.out (by simp)); obtain ⟨y0, y1, y2, -⟩ := three_of_heap (gf4.heap HBH.out (by simp)))
      | (go_at_call 8; refine (HFG.out _ (Fr.refl _ _)).mono ?_; rintro e w3 ⟨rfl, hf3⟩; have gf3 := hf3; obtain ⟨x0, x1, x2, -⟩ := three_of_heap (gf3.heap HBG.out (by simp)); obtain ⟨y0, y1, y2, -⟩ := three_of_heap (gf3.heap HBH.out (by simp))))
    go_ret
    exact ⟨rfl, (HF2.out.trans gf7 (by simp) (n := []) (by simp)).trans hf9 (by simp) (by simp)⟩
  | true =>
  have HUG := Lib.hid ((allT_used HVLG.out).1 ag)
  rw [ag] at HAG
  clear ag
  cases ah : allT h with
  | false =>
    rw [ah] at HAH
    clear ah
    go_enter Tryz.func7, Tryz.ntmps7
    go_upto_region 1 with fail
    rw [← HW2.out, ← HQ0.out]
    go_wp2_with (first
      | (go_at_call 9; refine (HAW.out _).mono ?_; rintro e w9 ⟨rfl, hf9⟩)
      | (go_at_call 23; refine (HAH.out _ gf7).mono ?_; rintro e w8 ⟨rfl, hf8⟩; have gf8 := gf7.trans hf8 (by simp) (n := []) (by simp); obtain ⟨x0, x1, x2, -⟩ := three_of_heap (gf8.heap HBG.out (by simp)); obtain ⟨y0, y1, y2, -⟩ := three_of_heap (gf8.heap HBH.out (by simp)))
      | (go_at_call 23; refine (HAG.out _ gf6).mono ?_; rintro e w7 ⟨rfl, hf7⟩; have gf7 := gf6.trans hf7 (by simp) (n := []) (by simp); obtain ⟨x0, x1, x2, -⟩ := three_of_heap (gf7.heap HBG.out (by simp)); obtain ⟨y0, y1, y2, -⟩ := three_of_heap (gf7.heap HBH.out (by simp)))
      | (go_at_call 11; refine (HVH.out _ gf5 HZH.out).mono ?_; rintro e w6 ⟨rfl, hf6⟩; have gf6 := gf5.trans hf6 (by simp) (n := []) (by simp); obtain ⟨x0, x1, x2, -⟩ := three_of_heap (gf6.heap HBG.out (by simp)); obtain ⟨y0, y1, y2, -⟩ := three_of_heap (gf6.heap HBH.out (by simp)))
      | (go_at_call 11; refine (HVG.out _ gf4 HZG.out).mono ?_; rintro e w5 ⟨rfl, hf5⟩; have gf5 := gf4.trans hf5 (by simp) (n := []) (by simp); obtain ⟨x0, x1, x2, -⟩ := three_of_heap (gf5.heap HBG.out (by simp)); obtain ⟨y0, y1, y2, -⟩ := three_of_heap (gf5.heap HBH.out (by simp)))
      | (go_at_call 8; refine (HFH.out _ gf3).mono ?_; rintro e w4 ⟨rfl, hf4⟩; have gf4 := gf3.trans hf4 (by simp) (n := []) (by simp); obtain ⟨x0, x1, x2, -⟩ := three_of_heap (gf4.heap HBG.out (by simp)); obtain ⟨y0, y1, y2, -⟩ := three_of_heap (gf4.heap HBH.out (by simp)))
      | (go_at_call 8; refine (HFG.out _ (Fr.refl _ _)).mono ?_; rintro e w3 ⟨rfl, hf3⟩; have gf3 := hf3; obtain ⟨x0, x1, x2, -⟩ := three_of_heap (gf3.heap HBG.out (by simp)); obtain ⟨y0, y1, y2, -⟩ := three_of_heap (gf3.heap HBH.out (by simp))))
    go_ret
    exact ⟨rfl, (HF2.out.trans gf8 (by simp) (n := []) (by simp)).trans hf9 (by simp) (by simp)⟩
  | true =>
  have HUH := Lib.hid ((allT_used HVLH.out).1 ah)
  rw [ah] at HAH
  clear ah
  have hap := canon_apart HVLG.out HVLH.out HUG.out HUH.out (few_weight HKG.out HVLG.out) (few_weight HKH.out HVLH.out)
  rw [← textO_valid HVLG.out, ← textO_valid HVLH.out, ← canonO_valid HVLG.out, ← canonO_valid HVLH.out] at hap
  obtain ⟨CG, hCG⟩ : ∃ C, C = canonO g := ⟨_, rfl⟩
  obtain ⟨CH, hCH⟩ : ∃ C, C = canonO h := ⟨_, rfl⟩
  obtain ⟨TG, hTG⟩ : ∃ C, C = textO g := ⟨_, rfl⟩
  obtain ⟨TH, hTH⟩ : ∃ C, C = textO h := ⟨_, rfl⟩
  rw [← hCG, ← hCH, ← hTG, ← hTH] at hap
  rw [← hCG] at HOG
  rw [← hCH] at HOH
  rw [← hCG, ← hCH] at HSM
  rw [← hTG] at HTG
  rw [← hTH] at HTH
  obtain ⟨B, hB⟩ : ∃ B, B = sameB CG CH := ⟨_, rfl⟩
  rw [← hB] at HSM
  have hBe : (TG == TH) = B := by
    rw [hB]
    by_cases e : CG = CH
    · rw [show sameB CG CH = true from boolOf_true e, beq_iff_eq]; exact hap.2 e
    · rw [show sameB CG CH = false from boolOf_false e, beq_eq_false_iff_ne]; exact fun k => e (hap.1 k)
  have hbb : (B == B) = true := by simp
  clear hap hCG hCH hTG hTH hB
  go_enter Tryz.func7, Tryz.ntmps7
  go_upto_region 1 with fail
  rw [← HW2.out, ← HQ0.out]
  go_upto_region 3 with (first
    | (go_at_call 23; refine (HAH.out _ gf7).mono ?_; rintro e w8 ⟨rfl, hf8⟩; have gf8 := gf7.trans hf8 (by simp) (n := []) (by simp); obtain ⟨x0, x1, x2, -⟩ := three_of_heap (gf8.heap HBG.out (by simp)); obtain ⟨y0, y1, y2, -⟩ := three_of_heap (gf8.heap HBH.out (by simp)))
    | (go_at_call 23; refine (HAG.out _ gf6).mono ?_; rintro e w7 ⟨rfl, hf7⟩; have gf7 := gf6.trans hf7 (by simp) (n := []) (by simp); obtain ⟨x0, x1, x2, -⟩ := three_of_heap (gf7.heap HBG.out (by simp)); obtain ⟨y0, y1, y2, -⟩ := three_of_heap (gf7.heap HBH.out (by simp)))
    | (go_at_call 11; refine (HVH.out _ gf5 HZH.out).mono ?_; rintro e w6 ⟨rfl, hf6⟩; have gf6 := gf5.trans hf6 (by simp) (n := []) (by simp); obtain ⟨x0, x1, x2, -⟩ := three_of_heap (gf6.heap HBG.out (by simp)); obtain ⟨y0, y1, y2, -⟩ := three_of_heap (gf6.heap HBH.out (by simp)))
    | (go_at_call 11; refine (HVG.out _ gf4 HZG.out).mono ?_; rintro e w5 ⟨rfl, hf5⟩; have gf5 := gf4.trans hf5 (by simp) (n := []) (by simp); obtain ⟨x0, x1, x2, -⟩ := three_of_heap (gf5.heap HBG.out (by simp)); obtain ⟨y0, y1, y2, -⟩ := three_of_heap (gf5.heap HBH.out (by simp)))
    | (go_at_call 8; refine (HFH.out _ gf3).mono ?_; rintro e w4 ⟨rfl, hf4⟩; have gf4 := gf3.trans hf4 (by simp) (n := []) (by simp); obtain ⟨x0, x1, x2, -⟩ := three_of_heap (gf4.heap HBG.out (by simp)); obtain ⟨y0, y1, y2, -⟩ := three_of_heap (gf4.heap HBH.out (by simp)))
    | (go_at_call 8; refine (HFG.out _ (Fr.refl _ _)).mono ?_; rintro e w3 ⟨rfl, hf3⟩; have gf3 := hf3; obtain ⟨x0, x1, x2, -⟩ := three_of_heap (gf3.heap HBG.out (by simp)); obtain ⟨y0, y1, y2, -⟩ := three_of_heap (gf3.heap HBH.out (by simp))))
  have HF8 := Lib.hid gf8
  clear hf3 hf4 hf5 hf6 hf7 hf8 gf3 gf4 gf5 gf6 gf7 gf8 x0 x1 x2 y0 y1 y2
  refine wp_region_T (Fr []) (fun _ => Fr.refl _ _) (fun _ _ _ h k => h.trans k (fun _ hi _ => hi) (fun _ hi _ => hi)) [(0, false), (2, false), (5, false), (7, false), (1, true), (3, true), (4, false), (6, true), (8, true), (9, true), (10, false), (11, false), (12, true), (13, false), (14, false)] 48 rfl (by kernel_rfl) (by kernel_rfl) (by kernel_rfl) (fun c a d v w h => by cases d <;> exact h) ?_
  simp only [List.map_cons, List.map_nil, List.getElem?_toArray, List.getElem?_cons_succ, List.getElem?_cons_zero, Option.getD_some]
  obtain ⟨w10, hw10⟩ : ∃ w10, w10 = w8.drew := ⟨_, rfl⟩
  have hf10 : Fr [] w2 w10 := by rw [hw10]; exact HF8.out.andDrew
  rw [← hw10]
  have HF10 := Lib.hid hf10
  clear hw10 hf10
  iterate 4 (apply wpT_t; · (intro w' hf'; have gg := HF10.out.trans hf' (by simp) (n := []) (by simp); obtain ⟨x0, x1, x2, -⟩ := three_of_heap (gg.heap HBG.out (by simp)); obtain ⟨y0, y1, y2, -⟩ := three_of_heap (gg.heap HBH.out (by simp)); clear gg; go_wp2_with fail; exact ⟨rfl, rfl⟩))
  refine wpT_x ?_
  go_wp2_with fail
  refine (HTG.out _ HF10.out HZG.out).mono ?_
  rintro e w11 ⟨rfl, hf11⟩
  have gf11 := HF10.out.trans hf11 (by simp) (n := []) (by simp)
  go_wp2_with fail
  refine ⟨hf11, rfl, ?_⟩
  refine wpT_x ?_
  go_wp2_with fail
  refine (HTH.out _ gf11 HZH.out).mono ?_
  rintro e w12 ⟨rfl, hf12⟩
  have gf12 := gf11.trans hf12 (by simp) (n := []) (by simp)
  go_wp2_with fail
  refine ⟨hf12, rfl, ?_⟩
  apply wpT_t
  · intro w' hf'
    go_wp2_with fail
    exact ⟨rfl, rfl⟩
  refine wpT_x ?_
  go_wp2_with fail
  refine (HOG.out _ gf12 HZG.out).mono ?_
  rintro e w13 ⟨va, rfl, hva, hf13⟩
  have gf13 := gf12.trans hf13 (by simp) (n := []) (by simp)
  go_wp2_with fail
  refine ⟨hf13, rfl, ?_⟩
  refine wpT_x ?_
  go_wp2_with fail
  refine (HOH.out _ gf13 HZH.out).mono ?_
  rintro e w14 ⟨vb, rfl, hvb, hf14⟩
  have gf14 := gf13.trans hf14 (by simp) (n := []) (by simp)
  go_wp2_with fail
  refine ⟨hf14, rfl, ?_⟩
  refine wpT_x ?_
  go_wp2_with fail
  refine (HSM.out _ _ _ (hva.below hf14) hvb).mono ?_
  rintro e w15 ⟨rfl, hf15⟩
  have gf15 := gf14.trans hf15 (by simp) (n := []) (by simp)
  go_wp2_with fail
  refine ⟨hf15, rfl, ?_⟩
  iterate 2 (apply wpT_t; · (intro w' hf'; go_wp2_with fail; exact ⟨rfl, rfl⟩))
  refine wpT_x ?_
  go_wp2_with fail
  refine (HAW.out _).mono ?_
  rintro e w16 ⟨rfl, hf16⟩
  have gf16 := gf15.trans hf16 (by simp) (n := []) (by simp)
  go_wp2_with fail
  refine ⟨hf16, rfl, ?_⟩
  iterate 2 (apply wpT_t; · (intro w' hf'; go_wp2_with fail; exact ⟨rfl, rfl⟩))
  refine wpT_end ?_
  go_wp2_with fail
  go_ret
  exact ⟨rfl, HF2.out.trans gf16 (by simp) (by simp)⟩
end Go.Proofs.YtgfpkmnmdehkpaaGreat
