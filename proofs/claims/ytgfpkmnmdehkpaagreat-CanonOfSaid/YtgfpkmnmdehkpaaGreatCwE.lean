/- CanonOf (layer 16), over any program that does what it must. -/
import Derived.Test.YtgfpkmnmdehkpaaGreatCwA
import Derived.Test.YtgfpkmnmdehkpaaGreatCwC
import Derived.Test.YtgfpkmnmdehkpaaGreatCdA
set_option linter.unusedVariables false
set_option linter.unusedSimpArgs false
namespace Go.Proofs.YtgfpkmnmdehkpaaGreat
open Go.RowKit

theorem canonO_bad {g : GramG} (h : validB g = false) : canonO g = emptyG := by unfold canonO; rw [if_neg (by rw [h]; decide)]
theorem textO_bad {g : GramG} (h : validB g = false) : textO g = [] := by unfold textO; rw [if_neg (by rw [h]; decide)]
theorem isO_bad {g : GramG} (h : validB g = false) : isO g = false := by unfold isO; rw [h]; rfl
theorem isO_good {g : GramG} (hv : ValidG g) : isO g = sameB g (canonG g) := by unfold isO; rw [show validB g = true from boolOf_true hv]; rfl
theorem canon_textlen {g : GramG} (hv : ValidG g) : (textD (linesG (canonG g))).length ≤ 9223372036854775804 := by
  rw [canon_weight hv]
  have := weight_most hv
  omega
set_option maxRecDepth 100000 in
set_option maxHeartbeats 8000000 in
theorem canonof_any (hR : ProgCanRead) (hT : ProgCanText) (hI : ProgCanIs) (hO : ProgCanOf) (g : GramG) (gv : Value) (w : World) (hg : gramAt w gv g)
    (ig : IntG g) (gn : ∀ n ∈ g.names, n.length ≤ maxLen) (gt : ∀ n ∈ g.terms, n.length ≤ maxLen) :
    Calls Tryz.prog 3 #[gv] w fun e w' => e = .returned (.bool true) ∧ Fr [] w w' := by
  have HAW := Lib.hid (fun wx => cawake_any hR hT hI wx)
  obtain ⟨a1, c1, a2, c2, a3, c3, rfl, -, -, -⟩ := hg.parts
  have hb0 := heap_alloc_new w (.cells #[.slice a1 g.names.length c1, .slice a2 g.terms.length c2, .slice a3 g.rules.length c3] 25)
  have hf0 := Fr.alloc w (.cells #[.slice a1 g.names.length c1, .slice a2 g.terms.length c2, .slice a3 g.rules.length c3] 25)
  obtain ⟨w2, hw2⟩ : ∃ w2, w2 = w.alloc (.cells #[.slice a1 g.names.length c1, .slice a2 g.terms.length c2, .slice a3 g.rules.length c3] 25) := ⟨_, rfl⟩
  obtain ⟨q0, hq0⟩ : ∃ q0, q0 = w.heap.size := ⟨_, rfl⟩
  rw [← hw2] at hb0 hf0
  rw [← hq0] at hb0
  have HBG := Lib.hid hb0
  have HF2 := Lib.hid hf0
  have hg2 := hg.below hf0
  have HFG := Lib.hid (fun wx (hf : Fr [] w2 wx) => rfew_any g _ wx (hg2.below hf) gn gt)
  have HVG := Lib.hid (fun wx (hf : Fr [] w2 wx) (hz : SizeG g) => rvalid_any g _ wx (hg2.below hf) hz)
  have HTG := Lib.hid (fun wx (hf : Fr [] w2 wx) (hz : SizeG g) => hT g _ wx (hg2.below hf) hz ig)
  have HOG := Lib.hid (fun wx (hf : Fr [] w2 wx) (hz : SizeG g) => hO g _ wx (hg2.below hf) hz ig)
  have HIG := Lib.hid (fun wx (hf : Fr [] w2 wx) (hz : SizeG g) => hI g _ wx (hg2.below hf) hz ig)
  have HCN := Lib.hid (fun wx (hf : Fr [] w2 wx) (hv : ValidG g) => rcanon_any g hv _ wx (hg2.below hf))
  have HSG := Lib.hid (fun vb wx (hf : Fr [] w2 wx) (hb : gramAt wx vb (canonG g)) => rsame_any g (canonG g) _ vb wx (hg2.below hf) hb)
  have HW2 := Lib.hid hw2
  have HQ0 := Lib.hid hq0
  obtain ⟨n1, hn1⟩ : ∃ n, n = g.names.length := ⟨_, rfl⟩
  obtain ⟨n2, hn2⟩ : ∃ n, n = g.terms.length := ⟨_, rfl⟩
  obtain ⟨n3, hn3⟩ : ∃ n, n = g.rules.length := ⟨_, rfl⟩
  rw [← hn1, ← hn2, ← hn3] at HBG HFG HVG HTG HOG HIG HCN HSG HW2
  rw [← hn1, ← hn2, ← hn3]
  obtain ⟨x0, x1, x2, -⟩ := three_of_heap HBG.out
  clear hb0 hf0 hw2 hq0 hg hg2 hn1 hn2 hn3 ig gn gt hR hT hI hO
  rcases few_two g with kf | kf
  · rw [kf] at HFG
    clear kf
    go_enter Tryz.func3, Tryz.ntmps3
    go_upto_region 1 with fail
    rw [← HW2.out, ← HQ0.out]
    go_wp2_with (first
      | (go_at_call 9; refine (HAW.out _).mono ?_; rintro e w9 ⟨rfl, hf9⟩)
      | (go_at_call 8; refine (HFG.out _ (Fr.refl _ _)).mono ?_; rintro e w3 ⟨rfl, hf3⟩; obtain ⟨x0, x1, x2, -⟩ := three_of_heap (hf3.heap HBG.out (by simp))))
    go_ret
    exact ⟨rfl, (HF2.out.trans hf3 (by simp) (n := []) (by simp)).trans hf9 (by simp) (by simp)⟩
  have HZG := Lib.hid (few_size (g := g) (by rw [kf]; decide))
  rw [kf] at HFG
  clear kf
  cases vg : validB g with
  | false =>
    rw [vg] at HVG
    obtain ⟨E, hE⟩ : ∃ E, E = emptyG := ⟨_, rfl⟩
    have HNE := Lib.hid (fun wx => show gramAt wx (.agg #[.slice none 0 0, .slice none 0 0, .slice none 0 0]) E by rw [hE]; exact gram_nilC wx)
    rw [canonO_bad vg, ← hE] at HOG
    rw [textO_bad vg, show encStr [] = .string ⟨#[]⟩ from rfl] at HTG
    rw [isO_bad vg] at HIG
    have HSM := Lib.hid (fun va vb wx (ha : gramAt wx va E) (hb : gramAt wx vb E) => rsame_any E E va vb wx ha hb)
    rw [show sameB E E = true from boolOf_true rfl] at HSM
    clear vg hE HCN HSG
    go_enter Tryz.func3, Tryz.ntmps3
    go_upto_region 1 with fail
    rw [← HW2.out, ← HQ0.out]
    go_upto_region 4 with (first
      | (go_at_call 10; refine (HOG.out _ hf3 HZG.out).mono ?_; rintro e w4 ⟨va, rfl, hva, hf4⟩; obtain ⟨b1, d1, b2, d2, b3, d3, rfl, -, -, -⟩ := hva.parts)
      | (go_at_call 8; refine (HFG.out _ (Fr.refl _ _)).mono ?_; rintro e w3 ⟨rfl, hf3⟩; obtain ⟨x0, x1, x2, -⟩ := three_of_heap (hf3.heap HBG.out (by simp))))
    have hb5 := heap_alloc_new w4 (.cells #[.slice b1 E.names.length d1, .slice b2 E.terms.length d2, .slice b3 E.rules.length d3] 25)
    have hf5 := Fr.alloc w4 (.cells #[.slice b1 E.names.length d1, .slice b2 E.terms.length d2, .slice b3 E.rules.length d3] 25)
    obtain ⟨w5, hw5⟩ : ∃ w5, w5 = w4.alloc (.cells #[.slice b1 E.names.length d1, .slice b2 E.terms.length d2, .slice b3 E.rules.length d3] 25) := ⟨_, rfl⟩
    obtain ⟨q1, hq1⟩ : ∃ q1, q1 = w4.heap.size := ⟨_, rfl⟩
    rw [← hw5] at hb5 hf5
    rw [← hq1] at hb5
    rw [← hw5, ← hq1]
    have HB5 := Lib.hid hb5
    have HV5 := Lib.hid (hva.below hf5)
    have HF5 := Lib.hid ((hf3.trans hf4 (by simp) (n := []) (by simp)).trans hf5 (by simp) (n := []) (by simp))
    clear hb5 hf5 hw5 hq1 hva hf3 hf4 x0 x1 x2
    obtain ⟨x0, x1, x2, -⟩ := three_of_heap (HF5.out.heap HBG.out (by simp))
    go_wp2_with (first
      | (go_at_call 9; refine (HAW.out _).mono ?_; rintro e w10 ⟨rfl, hf10⟩)
      | (go_at_call 14; have := w8; refine (HTG.out _ gf8 HZG.out).mono ?_; rintro e w9 ⟨rfl, hf9⟩)
      | (go_at_call 13; have := w7; refine (HIG.out _ gf7 HZG.out).mono ?_; rintro e w8 ⟨rfl, hf8⟩; have gf8 := gf7.trans hf8 (by simp) (n := []) (by simp); obtain ⟨x0, x1, x2, -⟩ := three_of_heap (gf8.heap HBG.out (by simp)))
      | (go_at_call 12; refine (HSM.out _ _ w6 (HV5.out.below hf6) (HNE.out w6)).mono ?_; rintro e w7 ⟨rfl, hf7⟩; have gf7 := gf6.trans hf7 (by simp) (n := []) (by simp); obtain ⟨x0, x1, x2, -⟩ := three_of_heap (gf7.heap HBG.out (by simp)))
      | (go_at_call 11; refine (HVG.out _ HF5.out HZG.out).mono ?_; rintro e w6 ⟨rfl, hf6⟩; have gf6 := HF5.out.trans hf6 (by simp) (n := []) (by simp); obtain ⟨y0, y1, y2, -⟩ := three_of_heap (hf6.heap HB5.out (by simp))))
    go_ret
    exact ⟨rfl, ((HF2.out.trans gf8 (by simp) (n := []) (by simp)).trans hf9 (by simp) (n := []) (by simp)).trans hf10 (by simp) (by simp)⟩
  | true =>
  have hvl : ValidG g := of_boolOf vg
  rw [vg] at HVG
  have hcl := canon_valid hvl
  have hcb : ∀ r ∈ (canonG g).rules, ∀ s ∈ r.right, -((canonG g).terms.length : Int) ≤ s ∧ s < ((canonG g).names.length : Int) := fun r hr => (hcl.rules r hr).2.2.2
  have htl := canon_textlen hvl
  have hcn := fun wx hf => HCN.out wx hf hvl
  have HCN2 := Lib.hid hcn
  rw [canonO_valid hvl] at HOG
  rw [textO_valid hvl] at HTG
  rw [isO_good hvl] at HIG
  obtain ⟨C, hC⟩ : ∃ C, C = canonG g := ⟨_, rfl⟩
  rw [← hC] at HOG HTG HIG HCN2 HSG hcb htl
  have HCT := Lib.hid (fun vb wx (hx : gramAt wx vb C) => ctext_any C vb wx hx hcb htl)
  have HSM := Lib.hid (fun va vb wx (ha : gramAt wx va C) (hb : gramAt wx vb C) => rsame_any C C va vb wx ha hb)
  rw [show sameB C C = true from boolOf_true rfl] at HSM
  obtain ⟨T, hTT⟩ : ∃ T, T = (textD (linesG C)).toArray := ⟨_, rfl⟩
  have hTe : encStr (textD (linesG C)) = .string ⟨T⟩ := by rw [hTT]
  simp only [hTe] at HTG HCT
  obtain ⟨b, hb⟩ : ∃ b, b = sameB g C := ⟨_, rfl⟩
  rw [← hb] at HIG HSG
  clear vg hvl hcl hcb htl hcn HCN hC hTT hTe hb
  go_enter Tryz.func3, Tryz.ntmps3
  go_upto_region 1 with fail
  rw [← HW2.out, ← HQ0.out]
  go_upto_region 4 with (first
    | (go_at_call 10; refine (HOG.out _ hf3 HZG.out).mono ?_; rintro e w4 ⟨va, rfl, hva, hf4⟩; obtain ⟨b1, d1, b2, d2, b3, d3, rfl, -, -, -⟩ := hva.parts)
    | (go_at_call 8; refine (HFG.out _ (Fr.refl _ _)).mono ?_; rintro e w3 ⟨rfl, hf3⟩; obtain ⟨x0, x1, x2, -⟩ := three_of_heap (hf3.heap HBG.out (by simp))))
  have hb5 := heap_alloc_new w4 (.cells #[.slice b1 C.names.length d1, .slice b2 C.terms.length d2, .slice b3 C.rules.length d3] 25)
  have hf5 := Fr.alloc w4 (.cells #[.slice b1 C.names.length d1, .slice b2 C.terms.length d2, .slice b3 C.rules.length d3] 25)
  obtain ⟨w5, hw5⟩ : ∃ w5, w5 = w4.alloc (.cells #[.slice b1 C.names.length d1, .slice b2 C.terms.length d2, .slice b3 C.rules.length d3] 25) := ⟨_, rfl⟩
  obtain ⟨q1, hq1⟩ : ∃ q1, q1 = w4.heap.size := ⟨_, rfl⟩
  rw [← hw5] at hb5 hf5
  rw [← hq1] at hb5
  rw [← hw5, ← hq1]
  have HB5 := Lib.hid hb5
  have HV5 := Lib.hid (hva.below hf5)
  have HF5 := Lib.hid ((hf3.trans hf4 (by simp) (n := []) (by simp)).trans hf5 (by simp) (n := []) (by simp))
  clear hb5 hf5 hw5 hq1 hva hf3 hf4 x0 x1 x2
  obtain ⟨x0, x1, x2, -⟩ := three_of_heap (HF5.out.heap HBG.out (by simp))
  go_upto_region 7 with (first
    | (go_at_call 15; refine (HCN2.out _ gf6).mono ?_; rintro e w7 ⟨vb, rfl, hvb, hf7⟩; obtain ⟨e1, f1, e2, f2, e3, f3, rfl, -, -, -⟩ := hvb.parts)
    | (go_at_call 11; refine (HVG.out _ HF5.out HZG.out).mono ?_; rintro e w6 ⟨rfl, hf6⟩; have gf6 := HF5.out.trans hf6 (by simp) (n := []) (by simp); obtain ⟨x0, x1, x2, -⟩ := three_of_heap (gf6.heap HBG.out (by simp))))
  have hb8 := heap_alloc_new w7 (.cells #[.slice e1 C.names.length f1, .slice e2 C.terms.length f2, .slice e3 C.rules.length f3] 25)
  have hf8 := Fr.alloc w7 (.cells #[.slice e1 C.names.length f1, .slice e2 C.terms.length f2, .slice e3 C.rules.length f3] 25)
  obtain ⟨w8, hw8⟩ : ∃ w8, w8 = w7.alloc (.cells #[.slice e1 C.names.length f1, .slice e2 C.terms.length f2, .slice e3 C.rules.length f3] 25) := ⟨_, rfl⟩
  obtain ⟨q2, hq2⟩ : ∃ q2, q2 = w7.heap.size := ⟨_, rfl⟩
  rw [← hw8] at hb8 hf8
  rw [← hq2] at hb8
  rw [← hw8, ← hq2]
  have HB8 := Lib.hid hb8
  have HV8 := Lib.hid (hvb.below hf8)
  have HF58 := Lib.hid ((hf6.trans hf7 (by simp) (n := []) (by simp)).trans hf8 (by simp) (n := []) (by simp))
  clear hb8 hf8 hw8 hq2 hvb hf6 hf7 gf6 x0 x1 x2
  cases b
  all_goals
    refine wp_region_T (Fr []) (fun _ => Fr.refl _ _) (fun _ _ _ h k => h.trans k (fun _ hi _ => hi) (fun _ hi _ => hi)) [(0, false), (1, false), (2, true), (3, false), (4, false), (6, false), (7, false), (5, true), (8, true), (9, false), (10, false), (11, false), (12, false), (14, false), (13, true), (15, true), (16, false), (17, false), (18, false), (19, true), (20, false), (21, false)] 53 rfl (by kernel_rfl) (by kernel_rfl) (by kernel_rfl) (fun c a d v w h => by cases d <;> exact h) ?_
    simp only [List.map_cons, List.map_nil, List.getElem?_toArray, List.getElem?_cons_succ, List.getElem?_cons_zero, Option.getD_some]
    obtain ⟨w9, hw9⟩ : ∃ w9, w9 = w8.drew := ⟨_, rfl⟩
    have hf9 : Fr [] w8 w9 := by rw [hw9]; exact Fr.drew _
    rw [← hw9]
    have HL := Lib.hid (fun wx (hf : Fr [] w9 wx) => show (wx.heap[q0]? = some (.cells #[.slice a1 n1 c1, .slice a2 n2 c2, .slice a3 n3 c3] 25 (0, 0))) ∧ (wx.heap[q1]? = some (.cells #[.slice b1 C.names.length d1, .slice b2 C.terms.length d2, .slice b3 C.rules.length d3] 25 (0, 0))) ∧ (wx.heap[q2]? = some (.cells #[.slice e1 C.names.length f1, .slice e2 C.terms.length f2, .slice e3 C.rules.length f3] 25 (0, 0))) ∧ Fr [] w2 wx ∧ gramAt wx (.agg #[.slice b1 C.names.length d1, .slice b2 C.terms.length d2, .slice b3 C.rules.length d3]) C ∧ gramAt wx (.agg #[.slice e1 C.names.length f1, .slice e2 C.terms.length f2, .slice e3 C.rules.length f3]) C from by
      have f8 := hf9.trans hf (by simp) (n := []) (by simp)
      have f5 := HF58.out.trans f8 (by simp) (n := []) (by simp)
      have f2 := HF5.out.trans f5 (by simp) (n := []) (by simp)
      exact ⟨f2.heap HBG.out (by simp), f5.heap HB5.out (by simp), f8.heap HB8.out (by simp), f2, HV5.out.below f5, HV8.out.below f8⟩)
    clear hw9 hf9
    iterate 2 (apply wpT_t; · (intro w' hf'; obtain ⟨e1, e2, e3, -, -, -⟩ := HL.out w' hf'; obtain ⟨x0, x1, x2, -⟩ := three_of_heap e1; obtain ⟨y0, y1, y2, -⟩ := three_of_heap e2; obtain ⟨z0, z1, z2, -⟩ := three_of_heap e3; clear e1 e2 e3; go_wp2_with fail; exact ⟨rfl, rfl⟩))
    refine wpT_x ?_
    go_wp2_with fail
    refine (HSM.out _ _ _ (HL.out w9 (Fr.refl _ _)).2.2.2.2.1 (HL.out w9 (Fr.refl _ _)).2.2.2.2.2).mono ?_
    rintro e w10 ⟨rfl, hf10⟩
    go_wp2_with fail
    refine ⟨hf10, rfl, ?_⟩
    have GF10 := Lib.hid hf10
    clear hf10
    iterate 4 (apply wpT_t; · (intro w' hf'; obtain ⟨e1, e2, e3, -, -, -⟩ := HL.out w' (GF10.out.trans hf' (by simp) (by simp)); obtain ⟨x0, x1, x2, -⟩ := three_of_heap e1; obtain ⟨y0, y1, y2, -⟩ := three_of_heap e2; obtain ⟨z0, z1, z2, -⟩ := three_of_heap e3; clear e1 e2 e3; go_wp2_with fail; exact ⟨rfl, rfl⟩))
    refine wpT_x ?_
    go_wp2_with fail
    refine (HIG.out _ (HL.out w10 GF10.out).2.2.2.1 HZG.out).mono ?_
    rintro e w11 ⟨rfl, hf11⟩
    have gf11 := GF10.out.trans hf11 (by simp) (n := []) (by simp)
    go_wp2_with fail
    refine ⟨hf11, rfl, ?_⟩
    refine wpT_x ?_
    go_wp2_with fail
    refine (HSG.out _ _ (HL.out w11 gf11).2.2.2.1 (HL.out w11 gf11).2.2.2.2.2).mono ?_
    rintro e w12 ⟨rfl, hf12⟩
    have gf12 := gf11.trans hf12 (by simp) (n := []) (by simp)
    go_wp2_with fail
    refine ⟨hf12, rfl, ?_⟩
    have GF12 := Lib.hid gf12
    clear hf11 hf12 gf11 gf12
    iterate 5 (apply wpT_t; · (intro w' hf'; obtain ⟨e1, e2, e3, -, -, -⟩ := HL.out w' (GF12.out.trans hf' (by simp) (by simp)); obtain ⟨x0, x1, x2, -⟩ := three_of_heap e1; obtain ⟨y0, y1, y2, -⟩ := three_of_heap e2; obtain ⟨z0, z1, z2, -⟩ := three_of_heap e3; clear e1 e2 e3; go_wp2_with fail; exact ⟨rfl, rfl⟩))
    refine wpT_x ?_
    go_wp2_with fail
    refine (HTG.out _ (HL.out w12 GF12.out).2.2.2.1 HZG.out).mono ?_
    rintro e w13 ⟨rfl, hf13⟩
    have gf13 := GF12.out.trans hf13 (by simp) (n := []) (by simp)
    go_wp2_with fail
    refine ⟨hf13, rfl, ?_⟩
    refine wpT_x ?_
    go_wp2_with fail
    refine (HCT.out _ _ (HL.out w13 gf13).2.2.2.2.2).mono ?_
    rintro e w14 ⟨rfl, hf14⟩
    have gf14 := gf13.trans hf14 (by simp) (n := []) (by simp)
    go_wp2_with fail
    refine ⟨hf14, rfl, ?_⟩
    iterate 3 (apply wpT_t; · (intro w' hf'; go_wp2_with fail; exact ⟨rfl, rfl⟩))
    refine wpT_x ?_
    go_wp2_with fail
    refine (HAW.out _).mono ?_
    rintro e w15 ⟨rfl, hf15⟩
    have gf15 := gf14.trans hf15 (by simp) (n := []) (by simp)
    go_wp2_with fail
    refine ⟨hf15, rfl, ?_⟩
    iterate 2 (apply wpT_t; · (intro w' hf'; go_wp2_with fail; exact ⟨rfl, rfl⟩))
    refine wpT_end ?_
    go_wp2_with fail
    go_ret
    exact ⟨rfl, HF2.out.trans (HL.out w15 gf15).2.2.2.1 (by simp) (by simp)⟩
end Go.Proofs.YtgfpkmnmdehkpaaGreat
