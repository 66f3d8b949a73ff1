/- GramValid (layer 14), over any program that does what it must. Written by wip/tools/gen_gf.py. -/
import Derived.Test.YtcmgnhjffhaajaaGrmD
import Derived.Test.YtcmgnhjffhaajaaGrmE
namespace Go.Proofs.Ytcmgnhjffhaajaa
open Go.RowKit

theorem few_size {g : GramG} (h : fewB g ≠ 0) : SizeG g := by
  rcases boolOf_cases (FewG g) with ⟨hf, -⟩ | ⟨-, he⟩
  · obtain ⟨h1, h2, h3, h4, h5, h6⟩ := hf
    exact ⟨by omega, by omega, by omega, fun r hr => by have := h4 r hr; omega, fun r hr => by have := h5 r hr; omega, fun r hr => by have := h6 r hr; omega⟩
  · exact absurd (show fewB g = 0 by unfold fewB; rw [he]; rfl) h
theorem few_two (g : GramG) : fewB g = 0 ∨ fewB g = 1 := by unfold fewB; split <;> simp
theorem ofFrom_step {l : List RuleG} {a : Int} {i : Nat} (h : i < l.length) : ofFrom (l.drop i) a i = if l[i].left = a then (i : Int) :: ofFrom (l.drop (i + 1)) a (i + 1) else ofFrom (l.drop (i + 1)) a (i + 1) := by
  rw [List.drop_eq_getElem_cons h]
  rfl
def OfRel (w : World) (g : GramG) (a : Int) (L : List Int) (nv iv : Value) (wx : World) : Prop := ∃ (i : Nat) (pre : List Int), i ≤ g.rules.length ∧ nv = .int .i64 (pre.length : Int) ∧ iv = .int .i64 (i : Int) ∧ pre.length ≤ i ∧ L = pre ++ ofFrom (g.rules.drop i) a i ∧ Fr [] w wx
set_option maxRecDepth 100000 in
set_option maxHeartbeats 8000000 in
theorem grmvalid_any (hA : ProgPar) (hR : ProgResolve) (hV : ProgValid) (hI : ProgIsT) (hO : ProgOf) (hS : ProgSame) (g h : GramG) (gv hv : Value) (a : Int) (w : World) (hg : gramAt w gv g) (hh : gramAt w hv h) (hi : IntG g)
    (gn : ∀ n ∈ g.names, n.length ≤ maxLen) (gt : ∀ n ∈ g.terms, n.length ≤ maxLen) (hn : ∀ n ∈ h.names, n.length ≤ maxLen) (ht : ∀ n ∈ h.terms, n.length ≤ maxLen) : Calls Try.prog 3 #[gv, hv, .int .i64 a] w fun e w' => e = .returned (.bool true) ∧ Fr [] w w' := by
  have hfg := fun wx (hfx : Fr [] w wx) => rfew_any g gv wx (hg.below hfx) gn gt
  have hfh := fun wx (hfx : Fr [] w wx) => rfew_any h hv wx (hh.below hfx) hn ht
  have HAW := Lib.hid (fun wx => grmawake_any hA hR hV hI wx)
  have hG := hg
  have hH := hh
  obtain ⟨sa, sb, sc, rfl, h1, h2, h3⟩ := hg
  obtain ⟨ta, tb, tc, rfl, k1, k2, k3⟩ := hh
  obtain ⟨a10, c10, rfl, hc1, hm1⟩ := h1.form
  obtain ⟨a20, c20, rfl, hc2, hm2⟩ := h2.form
  obtain ⟨a30, c30, rfl, hc3, hm3⟩ := h3.form
  obtain ⟨a11, c11, rfl, hd1, hl1⟩ := k1.form
  obtain ⟨a21, c21, rfl, hd2, hl2⟩ := k2.form
  obtain ⟨a31, c31, rfl, hd3, hl3⟩ := k3.form
  have hb0 := heap_alloc_new w (.cells #[.slice a10 g.names.length c10, .slice a20 g.terms.length c20, .slice a30 g.rules.length c30] 25)
  have hf0 := Fr.alloc w (.cells #[.slice a10 g.names.length c10, .slice a20 g.terms.length c20, .slice a30 g.rules.length c30] 25)
  obtain ⟨w0, hw0⟩ : ∃ w0, w0 = w.alloc (.cells #[.slice a10 g.names.length c10, .slice a20 g.terms.length c20, .slice a30 g.rules.length c30] 25) := ⟨_, rfl⟩
  obtain ⟨q0, hq0⟩ : ∃ q0, q0 = w.heap.size := ⟨_, rfl⟩
  rw [← hw0] at hb0 hf0
  rw [← hq0] at hb0
  have hb1 := heap_alloc_new w0 (.cells #[.slice a11 h.names.length c11, .slice a21 h.terms.length c21, .slice a31 h.rules.length c31] 25)
  have hf1 := Fr.alloc w0 (.cells #[.slice a11 h.names.length c11, .slice a21 h.terms.length c21, .slice a31 h.rules.length c31] 25)
  obtain ⟨w1, hw1⟩ : ∃ w1, w1 = w0.alloc (.cells #[.slice a11 h.names.length c11, .slice a21 h.terms.length c21, .slice a31 h.rules.length c31] 25) := ⟨_, rfl⟩
  obtain ⟨q1, hq1⟩ : ∃ q1, q1 = w0.heap.size := ⟨_, rfl⟩
  rw [← hw1] at hb1 hf1
  rw [← hq1] at hb1
  have HB0 := Lib.hid (hf1.heap hb0 (by simp))
  have HB1 := Lib.hid hb1
  have HF := Lib.hid (hf0.trans hf1 (by simp) (n := []) (by simp))
  have H3 := Lib.hid h3
  have HW0 := Lib.hid hw0
  have HQ0 := Lib.hid hq0
  have HW1 := Lib.hid hw1
  have HQ1 := Lib.hid (show q1 = q0 + 1 by rw [hq1, hw0, World.size_alloc, ← hq0])
  have HG := Lib.hid hG
  have HH := Lib.hid hH
  have HV := Lib.hid (fun (gx : Value) (wx : World) a b => hV g gx wx a b hi)
  have HO := Lib.hid hO
  have HS := Lib.hid hS
  clear hb0 hf0 hw0 hq0 hb1 hf1 hw1 hq1 h1 h2 h3 k1 k2 k3 hi hA hR hV hI hO hS hG hH gn gt hn ht
  obtain ⟨y0, y1, y2, z0, z1, z2⟩ := three_of_heap HB0.out
  obtain ⟨x0, x1, x2, u0, u1, u2⟩ := three_of_heap HB1.out
  by_cases hgz : fewB g = 0
  · rw [hgz] at hfg
    have HFG := Lib.hid hfg
    clear hfg hfh hgz
    go_enter Try.func3, Try.ntmps3
    go_upto_region 1 with fail
    rw [← HQ0.out, ← HW0.out, ← HQ1.out, ← HW1.out]
    clear HW0 HQ0 HW1 HQ1
    go_wp2_with (first | (go_at_call 7; refine (HFG.out _ HF.out).mono ?_; rintro e w3 ⟨rfl, hf3⟩) | (go_at_call 8; refine (HAW.out _).mono ?_; rintro e w4 ⟨rfl, hf4⟩))
    go_ret
    exact ⟨rfl, (HF.out.trans hf3 (by simp) (n := []) (by simp)).trans hf4 (by simp) (by simp)⟩
  · have hg1 : fewB g = 1 := (few_two g).resolve_left hgz
    have hsg := few_size hgz
    rw [hg1] at hfg
    have HFG := Lib.hid hfg
    clear hfg hgz hg1
    by_cases hhz : fewB h = 0
    · rw [hhz] at hfh
      have HFH := Lib.hid hfh
      clear hfh hhz
      go_enter Try.func3, Try.ntmps3
      go_upto_region 1 with fail
      rw [← HQ0.out, ← HW0.out, ← HQ1.out, ← HW1.out]
      clear HW0 HQ0 HW1 HQ1
      go_upto_region 2 with (first | (go_at_call 7; refine (HFH.out _ HF3.out).mono ?_; rintro e w4 ⟨rfl, hf4⟩; have HF4 := Lib.hid (HF3.out.trans hf4 (by simp) (n := []) (by simp))) | (go_at_call 7; refine (HFG.out _ HF.out).mono ?_; rintro e w3 ⟨rfl, hf3⟩; have HF3 := Lib.hid (HF.out.trans hf3 (by simp) (n := []) (by simp)); have HB03 := Lib.hid (hf3.heap HB0.out (by simp)); have HB13 := Lib.hid (hf3.heap HB1.out (by simp)); obtain ⟨y0, y1, y2, z0, z1, z2⟩ := three_of_heap HB03.out; obtain ⟨x0, x1, x2, u0, u1, u2⟩ := three_of_heap HB13.out))
      go_wp2_with (go_at_call 8; refine (HAW.out _).mono ?_; rintro e w5 ⟨rfl, hf5⟩)
      go_ret
      exact ⟨rfl, HF4.out.trans hf5 (by simp) (by simp)⟩
    · have hh1 : fewB h = 1 := (few_two h).resolve_left hhz
      have hsh := few_size hhz
      rw [hh1] at hfh
      have HFH := Lib.hid hfh
      have hrl := hsg.rules
      have HSG := Lib.hid hsg
      have HSH := Lib.hid hsh
      clear hfh hhz hh1 hsg hsh
      obtain ⟨L, hL⟩ : ∃ L, L = ofG g a := ⟨_, rfl⟩
      have hof := fun wx (hfx : Fr [] w wx) => HO.out g a _ wx (HG.out.below hfx) HSG.out
      rw [← hL] at hof
      have HOF := Lib.hid hof
      have HL := Lib.hid hL
      clear hof hL
      go_enter Try.func3, Try.ntmps3
      go_upto_region 1 with fail
      rw [← HQ0.out, ← HW0.out, ← HQ1.out, ← HW1.out]
      clear HW0 HQ0 HW1 HQ1
      go_upto_region 3 with (first | (go_at_call 7; refine (HFH.out _ HF3.out).mono ?_; rintro e w4 ⟨rfl, hf4⟩; have HF4 := Lib.hid (HF3.out.trans hf4 (by simp) (n := []) (by simp))) | (go_at_call 7; refine (HFG.out _ HF.out).mono ?_; rintro e w3 ⟨rfl, hf3⟩; have HF3 := Lib.hid (HF.out.trans hf3 (by simp) (n := []) (by simp)); have HB03 := Lib.hid (hf3.heap HB0.out (by simp)); have HB13 := Lib.hid (hf3.heap HB1.out (by simp)); obtain ⟨y0, y1, y2, z0, z1, z2⟩ := three_of_heap HB03.out; obtain ⟨x0, x1, x2, u0, u1, u2⟩ := three_of_heap HB13.out))
      have HB04 := Lib.hid (hf4.heap HB03.out (by simp))
      have HB14 := Lib.hid (hf4.heap HB13.out (by simp))
      clear y0 y1 y2 z0 z1 z2 x0 x1 x2 u0 u1 u2 hf3 hf4 HB03 HB13
      obtain ⟨y0, y1, y2, z0, z1, z2⟩ := three_of_heap HB04.out
      go_upto_region 4 with (go_at_call 9; refine (HOF.out _ HF4.out).mono ?_; rintro e w5 ⟨ov, rfl, hov, hf5⟩)
      obtain ⟨ao, co, rfl, hco, hmo⟩ := hov.form
      have HOV := Lib.hid hov
      have HF5 := Lib.hid (HF4.out.trans hf5 (by simp) (n := []) (by simp))
      have HB05 := Lib.hid (hf5.heap HB04.out (by simp))
      have HB15 := Lib.hid (hf5.heap HB14.out (by simp))
      have H35 := Lib.hid (H3.out.below HF5.out)
      clear y0 y1 y2 z0 z1 z2 hov hf5 HB04 HB14
      go_upto_region 6 with fail
      go_loopw [8, 9] (OfRel w5 g a L) (fun _ iv _ => g.rules.length - (intOf iv).toNat)
      case atStart => exact ⟨0, [], Nat.zero_le _, rfl, rfl, Nat.le_refl _, by rw [HL.out]; rfl, Fr.refl _ _⟩
      case round =>
        obtain ⟨i, pre, hi, rfl, rfl, hpi, hLe, hfw⟩ := hrel
        have HLE := Lib.hid hLe
        have HFW := Lib.hid hfw
        obtain ⟨y0, y1, y2, z0, z1, z2⟩ := three_of_heap (hfw.heap HB05.out (by simp))
        clear hLe hfw
        by_cases hin : i < g.rules.length
        · have hd1 : decide (i < g.rules.length) = true := decide_eq_true hin
          obtain ⟨b2, o2, v2, rfl, p0, -, -⟩ := rule_cells H35.out i hin
          obtain ⟨rl, hrl2⟩ : ∃ rl, rl = (g.rules[i]'hin).left := ⟨_, rfl⟩
          rw [← hrl2] at p0
          have p1 := HFW.out.cell p0 (by simp)
          have hst := ofFrom_step (a := a) hin
          rw [← hrl2] at hst
          clear p0 hrl2
          by_cases he : rl = a
          · have e1 : (rl == a) = true := by rw [he]; simp
            rw [if_pos he] at hst
            have hL2 : L = pre ++ (i : Int) :: ofFrom (g.rules.drop (i + 1)) a (i + 1) := by rw [← hst]; exact HLE.out
            have hpl : pre.length < L.length := by rw [hL2]; simp
            have hd2 : decide ((L.length : Int) ≤ (pre.length : Int)) = false := decide_eq_false (by omega)
            have hd3 : decide (L.length ≤ pre.length) = false := decide_eq_false (by omega)
            obtain ⟨b3, o3, rfl, r0⟩ := int_cell HOV.out pre.length hpl
            have hgi : L[pre.length]'hpl = (i : Int) := by simp [hL2]
            rw [hgi] at r0
            have r1 := HFW.out.cell r0 (by simp)
            have e2 : ((i : Int) != (i : Int)) = false := by simp
            have HL2 := Lib.hid hL2
            clear he hst hL2 r0 hgi
            go_wp2_with fail
            exact ⟨⟨i + 1, pre ++ [(i : Int)], by omega, by simp, by go_num, by simp; omega, by rw [HL2.out]; simp, HFW.out⟩, by simp [intOf]; omega⟩
          · have e1 : (rl == a) = false := by rw [beq_eq_false_iff_ne]; exact he
            rw [if_neg he] at hst
            have HL2 := Lib.hid (show L = pre ++ ofFrom (g.rules.drop (i + 1)) a (i + 1) by rw [← hst]; exact HLE.out)
            clear he hst
            go_wp2_with fail
            exact ⟨⟨i + 1, pre, by omega, rfl, by go_num, by omega, HL2.out, HFW.out⟩, by simp [intOf]; omega⟩
        · have hd1 : decide (i < g.rules.length) = false := decide_eq_false hin
          have hpl : L.length = pre.length := by rw [HLE.out, List.drop_eq_nil_of_le (by omega)]; simp [ofFrom]
          have e0 : ((pre.length : Int) == (L.length : Int)) = true := by rw [hpl]; simp
          have e0' : (pre.length == L.length) = true := by rw [hpl]; simp
          have HPL := Lib.hid hpl
          clear hpl
          obtain ⟨vb, hvb⟩ : ∃ vb, vb = validB g := ⟨_, rfl⟩
          obtain ⟨sb', hsb⟩ : ∃ sb, sb = sameB g h := ⟨_, rfl⟩
          have hss : sameB g g = true := boolOf_true rfl
          have hv1 := fun wx (hfx : Fr [] w wx) => HV.out _ wx (HG.out.below hfx) HSG.out
          have hv2 := fun wx (hfx : Fr [] w wx) => rvalid_any g _ wx (HG.out.below hfx) HSG.out
          have hs1 := fun wx (hfx : Fr [] w wx) => HS.out g h _ _ wx (HG.out.below hfx) (HH.out.below hfx) HSG.out HSH.out
          have hs2 := fun wx (hfx : Fr [] w wx) => rsame_any g h _ _ wx (HG.out.below hfx) (HH.out.below hfx)
          have hs3 := fun wx (hfx : Fr [] w wx) => HS.out g g _ _ wx (HG.out.below hfx) (HG.out.below hfx) HSG.out HSG.out
          rw [← hvb] at hv1 hv2
          rw [← hsb] at hs1 hs2
          rw [hss] at hs3
          have HV1 := Lib.hid hv1
          have HV2 := Lib.hid hv2
          have HS1 := Lib.hid hs1
          have HS2 := Lib.hid hs2
          have HS3 := Lib.hid hs3
          have q1' : (vb == vb) = true := by simp
          have q2' : (sb' == sb') = true := by simp
          have HFB := Lib.hid (HF5.out.trans HFW.out (by simp) (n := []) (by simp))
          have HBW0 := Lib.hid (HFW.out.heap HB05.out (by simp))
          have HBW1 := Lib.hid (HFW.out.heap HB15.out (by simp))
          clear hvb hsb hss hv1 hv2 hs1 hs2 hs3 y0 y1 y2 z0 z1 z2
          obtain ⟨y0, y1, y2, z0, z1, z2⟩ := three_of_heap HBW0.out
          go_upto_region 12 with fail
          clear y0 y1 y2 z0 z1 z2
          refine wp_region_G [] [(0, false), (1, false), (2, false), (3, false), (4, false), (5, false), (7, false), (6, true), (8, true), (9, false), (10, false), (11, false), (12, false), (13, false), (15, false), (16, false), (14, true), (17, true), (18, false), (19, false), (20, false), (21, false), (22, false), (23, true), (24, false), (25, false), (26, true), (27, false), (28, false)] 79 rfl (by kernel_rfl) (by kernel_rfl) (by kernel_rfl) (fun c a d v w h => by cases d <;> exact h) (fun w6 hf6 => ?_)
          simp only [List.map_cons, List.map_nil, List.getElem?_toArray, List.getElem?_cons_succ, List.getElem?_cons_zero, Option.getD_some]
          have HF6 := Lib.hid (HFB.out.trans hf6 (by simp) (n := []) (by simp))
          have HB60 := Lib.hid (hf6.heap HBW0.out (by simp))
          have HB61 := Lib.hid (hf6.heap HBW1.out (by simp))
          clear hf6
          repeat (apply wpG_t; · (intro w' hf'; obtain ⟨y0, y1, y2, z0, z1, z2⟩ := three_of_heap (hf'.heap HB60.out (by simp)); obtain ⟨x0, x1, x2, u0, u1, u2⟩ := three_of_heap (hf'.heap HB61.out (by simp)); go_wp2_with fail; exact ⟨rfl, rfl⟩))
          refine wpG_x ?_
          go_wp2_with (go_at_call 10; refine (HV1.out _ HF6.out).mono ?_; rintro e w7 ⟨rfl, hf7⟩)
          refine ⟨hf7, rfl, ?_⟩
          have HF7 := Lib.hid (HF6.out.trans hf7 (by simp) (n := []) (by simp))
          have HB70 := Lib.hid (hf7.heap HB60.out (by simp))
          have HB71 := Lib.hid (hf7.heap HB61.out (by simp))
          clear hf7
          repeat (apply wpG_t; · (intro w' hf'; obtain ⟨y0, y1, y2, z0, z1, z2⟩ := three_of_heap (hf'.heap HB70.out (by simp)); obtain ⟨x0, x1, x2, u0, u1, u2⟩ := three_of_heap (hf'.heap HB71.out (by simp)); go_wp2_with fail; exact ⟨rfl, rfl⟩))
          refine wpG_x ?_
          go_wp2_with (go_at_call 11; refine (HV2.out _ HF7.out).mono ?_; rintro e w8 ⟨rfl, hf8⟩)
          refine ⟨hf8, rfl, ?_⟩
          have HF8 := Lib.hid (HF7.out.trans hf8 (by simp) (n := []) (by simp))
          have HB80 := Lib.hid (hf8.heap HB70.out (by simp))
          have HB81 := Lib.hid (hf8.heap HB71.out (by simp))
          clear hf8
          repeat (apply wpG_t; · (intro w' hf'; obtain ⟨y0, y1, y2, z0, z1, z2⟩ := three_of_heap (hf'.heap HB80.out (by simp)); obtain ⟨x0, x1, x2, u0, u1, u2⟩ := three_of_heap (hf'.heap HB81.out (by simp)); go_wp2_with fail; exact ⟨rfl, rfl⟩))
          refine wpG_x ?_
          go_wp2_with (go_at_call 12; refine (HS1.out _ HF8.out).mono ?_; rintro e w9 ⟨rfl, hf9⟩)
          refine ⟨hf9, rfl, ?_⟩
          have HF9 := Lib.hid (HF8.out.trans hf9 (by simp) (n := []) (by simp))
          have HB90 := Lib.hid (hf9.heap HB80.out (by simp))
          have HB91 := Lib.hid (hf9.heap HB81.out (by simp))
          clear hf9
          repeat (apply wpG_t; · (intro w' hf'; obtain ⟨y0, y1, y2, z0, z1, z2⟩ := three_of_heap (hf'.heap HB90.out (by simp)); obtain ⟨x0, x1, x2, u0, u1, u2⟩ := three_of_heap (hf'.heap HB91.out (by simp)); go_wp2_with fail; exact ⟨rfl, rfl⟩))
          refine wpG_x ?_
          go_wp2_with (go_at_call 13; refine (HS2.out _ HF9.out).mono ?_; rintro e w10 ⟨rfl, hf10⟩)
          refine ⟨hf10, rfl, ?_⟩
          have HF10 := Lib.hid (HF9.out.trans hf10 (by simp) (n := []) (by simp))
          have HB100 := Lib.hid (hf10.heap HB90.out (by simp))
          have HB101 := Lib.hid (hf10.heap HB91.out (by simp))
          clear hf10
          repeat (apply wpG_t; · (intro w' hf'; obtain ⟨y0, y1, y2, z0, z1, z2⟩ := three_of_heap (hf'.heap HB100.out (by simp)); obtain ⟨x0, x1, x2, u0, u1, u2⟩ := three_of_heap (hf'.heap HB101.out (by simp)); go_wp2_with fail; exact ⟨rfl, rfl⟩))
          refine wpG_x ?_
          go_wp2_with (go_at_call 12; refine (HS3.out _ HF10.out).mono ?_; rintro e w11 ⟨rfl, hf11⟩)
          refine ⟨hf11, rfl, ?_⟩
          have HF11 := Lib.hid (HF10.out.trans hf11 (by simp) (n := []) (by simp))
          have HB110 := Lib.hid (hf11.heap HB100.out (by simp))
          have HB111 := Lib.hid (hf11.heap HB101.out (by simp))
          clear hf11
          repeat (apply wpG_t; · (intro w' hf'; obtain ⟨y0, y1, y2, z0, z1, z2⟩ := three_of_heap (hf'.heap HB110.out (by simp)); obtain ⟨x0, x1, x2, u0, u1, u2⟩ := three_of_heap (hf'.heap HB111.out (by simp)); go_wp2_with fail; exact ⟨rfl, rfl⟩))
          refine wpG_x ?_
          go_wp2_with (go_at_call 8; refine (HAW.out _).mono ?_; rintro e w12 ⟨rfl, hf12⟩)
          refine ⟨hf12, rfl, ?_⟩
          have HF12 := Lib.hid (HF11.out.trans hf12 (by simp) (n := []) (by simp))
          have HB120 := Lib.hid (hf12.heap HB110.out (by simp))
          have HB121 := Lib.hid (hf12.heap HB111.out (by simp))
          clear hf12
          repeat (apply wpG_t; · (intro w' hf'; obtain ⟨y0, y1, y2, z0, z1, z2⟩ := three_of_heap (hf'.heap HB120.out (by simp)); obtain ⟨x0, x1, x2, u0, u1, u2⟩ := three_of_heap (hf'.heap HB121.out (by simp)); go_wp2_with fail; exact ⟨rfl, rfl⟩))
          refine wpG_end ?_
          go_wp2_with fail
          go_ret
          exact ⟨rfl, HF12.out⟩
end Go.Proofs.Ytcmgnhjffhaajaa
