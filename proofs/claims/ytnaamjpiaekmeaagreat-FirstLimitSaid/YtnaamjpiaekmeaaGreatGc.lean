/- Several texts in one: GpK, GpL, GpM. -/
import Derived.Test.YtnaamjpiaekmeaaGreatGa
import Derived.Test.YtnaamjpiaekmeaaGreatGb
import Derived.Test.YtnaamjpiaekmeaaGreatLx
import Derived.Test.YtnaamjpiaekmeaaGreatBs
set_option linter.unusedVariables false
set_option linter.unusedSimpArgs false
namespace Go.Proofs.YtnaamjpiaekmeaaGreat
open Go.RowKit Go.Maps
set_option maxRecDepth 100000 in
set_option maxHeartbeats 1000000 in
theorem ptexts_name (l : List (List UInt8)) (lv : Value) (w : World) (h : strsAt w lv l) (hl : l.length ≤ 100000) (hs : ∀ x ∈ l, x.length ≤ maxLen) :
  Calls Tryz.prog 86 #[lv, .func (.func 87) #[] #[]] w fun e w' => e = .returned (.bool (l.all nameB && boolOf l.Nodup)) ∧ Fr [] w w' := by
 have hal := pall_name l nameB lv w h (fun x hx wx hfx => pname_any x (hs x hx) wx)
 have hpl := fun wx (hfx : Fr [] w wx) => pplaces_s l lv wx (h.below hfx) hl hs
 obtain ⟨a0, c0, rfl, hle, hmx⟩ := h.form
 unfold FV_name at hal
 obtain ⟨A, hA⟩ : ∃ A, A = l.all nameB := ⟨_, rfl⟩
 rw [← hA] at hal ⊢
 obtain ⟨R, hR⟩ : ∃ R, R = boolOf l.Nodup := ⟨_, rfl⟩
 rw [← hR]
 have hRd : ((distS l : Int) == (l.length : Int)) = R := by
  rw [hR]
  by_cases q : l.Nodup
  ·rw [boolOf_true q, distS_nodup.2 q]; simp
  ·rw [boolOf_false q, beq_eq_false_iff_ne]
   exact fun e => q (distS_nodup.1 (by omega))
 obtain ⟨n, hn⟩ : ∃ n, n = l.length := ⟨_, rfl⟩
 rw [← hn] at hRd hal hpl hle ⊢
 have HA := Lib.hid hal
 have HP := Lib.hid hpl
 have HRD := Lib.hid hRd
 clear hal hpl hRd h hs hl hA hR hn
 cases A with
 | false =>
   clear HRD
   go_enter Tryz.func86, Tryz.ntmps86
   go_wp2_with (go_at_call 117; refine HA.out.mono ?_; rintro e w1 ⟨rfl, hf1⟩)
   go_ret
   exact ⟨by simp, hf1⟩
 | true =>
   go_enter Tryz.func86, Tryz.ntmps86
   go_wp2_with (first
    | (go_at_call 118; refine (HP.out _ hf1).mono ?_; rintro e w2 ⟨b2, rfl, hmap, hge2, hf2⟩; unfold smapAt at hmap; have hln := hmap.len Tryz.underlying114 3; rw [show size (plD (l.map Lit.string)) = distS l from rfl] at hln; have hD := HRD.out)
    | (go_at_call 117; refine HA.out.mono ?_; rintro e w1 ⟨rfl, hf1⟩))
   go_ret
   exact ⟨by simp, hf1.trans hf2 (by simp) (by simp)⟩
set_option maxRecDepth 100000 in
set_option maxHeartbeats 1000000 in
theorem ptexts_term (l : List (List UInt8)) (lv : Value) (w : World) (h : strsAt w lv l) (hl : l.length ≤ 100000) (hs : ∀ x ∈ l, x.length ≤ maxLen) :
  Calls Tryz.prog 86 #[lv, .func (.func 88) #[] #[]] w fun e w' => e = .returned (.bool (l.all termB && boolOf l.Nodup)) ∧ Fr [] w w' := by
 have hal := pall_term l termB lv w h (fun x hx wx hfx => pisterm_any x (hs x hx) wx)
 have hpl := fun wx (hfx : Fr [] w wx) => pplaces_s l lv wx (h.below hfx) hl hs
 obtain ⟨a0, c0, rfl, hle, hmx⟩ := h.form
 unfold FV_term at hal
 obtain ⟨A, hA⟩ : ∃ A, A = l.all termB := ⟨_, rfl⟩
 rw [← hA] at hal ⊢
 obtain ⟨R, hR⟩ : ∃ R, R = boolOf l.Nodup := ⟨_, rfl⟩
 rw [← hR]
 have hRd : ((distS l : Int) == (l.length : Int)) = R := by
  rw [hR]
  by_cases q : l.Nodup
  ·rw [boolOf_true q, distS_nodup.2 q]; simp
  ·rw [boolOf_false q, beq_eq_false_iff_ne]
   exact fun e => q (distS_nodup.1 (by omega))
 obtain ⟨n, hn⟩ : ∃ n, n = l.length := ⟨_, rfl⟩
 rw [← hn] at hRd hal hpl hle ⊢
 have HA := Lib.hid hal
 have HP := Lib.hid hpl
 have HRD := Lib.hid hRd
 clear hal hpl hRd h hs hl hA hR hn
 cases A with
 | false =>
   clear HRD
   go_enter Tryz.func86, Tryz.ntmps86
   go_wp2_with (go_at_call 117; refine HA.out.mono ?_; rintro e w1 ⟨rfl, hf1⟩)
   go_ret
   exact ⟨by simp, hf1⟩
 | true =>
   go_enter Tryz.func86, Tryz.ntmps86
   go_wp2_with (first
    | (go_at_call 118; refine (HP.out _ hf1).mono ?_; rintro e w2 ⟨b2, rfl, hmap, hge2, hf2⟩; unfold smapAt at hmap; have hln := hmap.len Tryz.underlying114 3; rw [show size (plD (l.map Lit.string)) = distS l from rfl] at hln; have hD := HRD.out)
    | (go_at_call 117; refine HA.out.mono ?_; rintro e w1 ⟨rfl, hf1⟩))
   go_ret
   exact ⟨by simp, hf1.trans hf2 (by simp) (by simp)⟩
end Go.Proofs.YtnaamjpiaekmeaaGreat
namespace Go.Proofs.YtnaamjpiaekmeaaGreat
open Go.RowKit Go.Maps
set_option maxRecDepth 100000 in
theorem prv2_any (g : GramG) (sa sb sc v : Value) (r : RuleG) (q : Nat) (w : World) (hb : w.heap[q]? = some (.cells #[sa, sb, sc] 25 (0, 0))) (hg : gramAt w (.agg #[sa, sb, sc]) g) (hv : intsAt w v r.right) (hs : ∀ x ∈ r.right, -9223372036854775808 ≤ x) :
  Calls Tryz.prog 124 #[ruleV r.left v, .pointer (some ⟨q, 0, none⟩)] w fun e w' => e = .returned (.bool (ruleB g r)) ∧ Fr [] w w' := by
 have hc := fun wx (hfx : Fr [] w wx) => prule_any g r _ v wx (hg.below hfx) (hv.below hfx) hs
 obtain ⟨a1, c1, a2, c2, a3, c3, e, ⟨-, q1, p1⟩, ⟨-, q2, p2⟩, ⟨-, q3, p3⟩⟩ := hg.parts
 injection e with e
 injection e with e
 injection e with ea e
 injection e with eb e
 injection e with ec e
 subst ea eb ec
 obtain ⟨a4, c4, rfl, hle, hmx⟩ := hv.form
 obtain ⟨R, hR⟩ : ∃ R, R = ruleB g r := ⟨_, rfl⟩
 rw [← hR] at hc ⊢
 unfold ruleV at hc ⊢
 obtain ⟨n1, hn1⟩ : ∃ n, n = g.names.length := ⟨_, rfl⟩
 obtain ⟨n2, hn2⟩ : ∃ n, n = g.terms.length := ⟨_, rfl⟩
 obtain ⟨n3, hn3⟩ : ∃ n, n = g.rules.length := ⟨_, rfl⟩
 obtain ⟨n4, hn4⟩ : ∃ n, n = r.right.length := ⟨_, rfl⟩
 obtain ⟨l, hl⟩ : ∃ l, l = r.left := ⟨_, rfl⟩
 rw [← hn4, ← hl] at hc ⊢
 rw [← hn1, ← hn2, ← hn3] at hb hc
 have hb1 := two_of_new w (.int .i64 l) (.slice a4 n4 c4) 46
 have hf1 := Fr.alloc w (.cells #[.int .i64 l, .slice a4 n4 c4] 46)
 have hb0 := hf1.heap hb (by simp)
 have HC := Lib.hid hc
 have HF := Lib.hid hf1
 obtain ⟨x0, x1, x2, -⟩ := three_of_heap hb0
 obtain ⟨y0, y1, -⟩ := two_cells hb1
 clear hc hb hb0 hb1 hf1 hg q1 q2 q3 hn1 hn2 hn3 hn4 hl hR hv hle hs
 go_enter Tryz.func124, Tryz.ntmps124
 go_wp2_with (go_at_call 125; refine (HC.out _ HF.out).mono ?_; rintro e w1 ⟨rfl, hf1⟩)
 go_ret
 exact ⟨rfl, HF.out.trans hf1 (by simp) (by simp)⟩
def LftRel (w : World) (b : Nat) (L : List Int) (iv : Value) (wx : World) : Prop := ∃ k : Nat, k ≤ L.length ∧ iv = .int .i64 (k : Int) ∧ fillAt wx b 3 (.int .i64 0) (L.map intV) k ∧ Fr [] w wx
noncomputable def rulesB (g : GramG) : Bool := g.rules.all (ruleB g) && (((distI (g.rules.map (·.left)) : Int) == (g.names.length : Int)) && boolOf (g.rules.map ruleT).Nodup)
set_option maxRecDepth 100000 in
set_option maxHeartbeats 4000000 in
theorem prulesvalid_any (g : GramG) (gv : Value) (w : World) (hg : gramAt w gv g) (hz : SizeG g) (hi : IntG g) : Calls Tryz.prog 89 #[gv] w fun e w' => e = .returned (.bool (rulesB g)) ∧ Fr [] w w' := by
 obtain ⟨iI, hiI, hz0, hz1, hz2⟩ := info_parts infoInt
 obtain ⟨a1, c1, a2, c2, a3, c3, rfl, -, -, ⟨hg3, hle3, -⟩⟩ := hg.parts
 obtain ⟨R, hR⟩ : ∃ R, R = rulesB g := ⟨_, rfl⟩
 rw [← hR]
 unfold rulesB at hR
 have hb0 := heap_alloc_new w (.cells #[.slice a1 g.names.length c1, .slice a2 g.terms.length c2, .slice a3 g.rules.length c3] 25)
 have hf0 := Fr.alloc w (.cells #[.slice a1 g.names.length c1, .slice a2 g.terms.length c2, .slice a3 g.rules.length c3] 25)
 obtain ⟨w0, hw0⟩ : ∃ w0, w0 = w.alloc (.cells #[.slice a1 g.names.length c1, .slice a2 g.terms.length c2, .slice a3 g.rules.length c3] 25) := ⟨_, rfl⟩
 obtain ⟨q0, hq0⟩ : ∃ q0, q0 = w.heap.size := ⟨_, rfl⟩
 rw [← hw0] at hb0 hf0
 rw [← hq0] at hb0
 have hal := fun wx (hfx : Fr [] w0 wx) => pall_rule q0 g.rules (ruleB g) _ wx (hg3.below (hf0.trans hfx (by simp) (by simp))) (fun x hx v wy hfy hvy => prv2_any g _ _ _ v x q0 wy ((hfx.trans hfy (by simp) (n := []) (by simp)).heap hb0 (by simp)) (hg.below ((hf0.trans hfx (by simp) (n := []) (by simp)).trans hfy (by simp) (by simp))) hvy (hi x hx))
 have hdf := fun wx (hfx : Fr [] w0 wx) => pdiffer_any g.rules _ wx (hg3.below (hf0.trans hfx (by simp) (by simp))) hz.rules hz.right
 have hlf : g.rules.all (ruleB g) = true → ∀ x ∈ g.rules.map (·.left), (Lit.int .i64 x).wf = true := fun ha x hx => by
  obtain ⟨r, hm, rfl⟩ := List.mem_map.1 hx
  have h1 := List.all_eq_true.1 ha r hm
  unfold ruleB symB at h1
  simp only [Bool.and_eq_true, Bool.not_eq_true', decide_eq_false_iff_not] at h1
  obtain ⟨⟨⟨h2, h3⟩, -⟩, -⟩ := h1
  rw [if_neg h2, decide_eq_true_eq] at h3
  have := hz.names
  obtain ⟨m, hm⟩ : ∃ m : Nat, r.left = (m : Int) := ⟨r.left.toNat, by omega⟩
  rw [hm]
  exact wf_nat (by omega)
 unfold FV_rule at hal
 obtain ⟨T, hT⟩ : ∃ T, T = g.rules.map (·.left) := ⟨_, rfl⟩
 obtain ⟨A, hA⟩ : ∃ A, A = g.rules.all (ruleB g) := ⟨_, rfl⟩
 obtain ⟨D, hD⟩ : ∃ D, D = boolOf (g.rules.map ruleT).Nodup := ⟨_, rfl⟩
 have hlen : T.length = g.rules.length := by rw [hT, List.length_map]
 have hget : ∀ k (h1 : k < g.rules.length) (h2 : k < T.length), T[k]'h2 = (g.rules[k]'h1).left := fun k h1 h2 => by simp [hT]
 have hzr := hz.rules
 rw [← hA] at hR hal hlf
 rw [← hD] at hR hdf
 rw [← hT] at hR hlf
 obtain ⟨n1, hn1⟩ : ∃ n, n = g.names.length := ⟨_, rfl⟩
 obtain ⟨n2, hn2⟩ : ∃ n, n = g.terms.length := ⟨_, rfl⟩
 obtain ⟨n, hn⟩ : ∃ n, n = g.rules.length := ⟨_, rfl⟩
 rw [← hn1] at hR
 rw [← hn] at hlen hzr hg3 hal hdf hle3
 rw [← hn1, ← hn2, ← hn] at hb0 hw0 ⊢
 have HB0 := Lib.hid hb0
 have HF0 := Lib.hid hf0
 have HW0 := Lib.hid hw0
 have HQ0 := Lib.hid hq0
 have HN := Lib.hid hn
 have HLEN := Lib.hid hlen
 have HGET := Lib.hid hget
 have HE := Lib.hid hg3
 have HD := Lib.hid hdf
 have HA := Lib.hid hal
 obtain ⟨x0, x1, x2, -⟩ := three_of_heap HB0.out
 clear hb0 hf0 hw0 hq0 hg hz hi hn1 hn2 hn hlen hget hg3 hdf hal hT hA hD
 cases A with
 | false =>
   have HR := Lib.hid (show R = false by rw [hR]; rfl)
   clear hR hlf
   go_enter Tryz.func89, Tryz.ntmps89
   go_upto_region 1 with fail
   rw [← HW0.out, ← HQ0.out]
   go_wp2_with (go_at_call 123; refine (HA.out _ (Fr.refl _ _)).mono ?_; rintro e w1 ⟨rfl, hf1⟩)
   go_ret
   exact ⟨by rw [HR.out]; rfl, HF0.out.trans hf1 (by simp) (by simp)⟩
 | true =>
   have HLF := Lib.hid (hlf rfl)
   have HR := Lib.hid (show R = (((distI T : Int) == (n1 : Int)) && D) by rw [hR]; rfl)
   clear hR hlf
   go_enter Tryz.func89, Tryz.ntmps89
   go_upto_region 1 with fail
   rw [← HW0.out, ← HQ0.out]
   go_upto_region 3 with (go_at_call 123; refine (HA.out _ (Fr.refl _ _)).mono ?_; rintro e w1 ⟨rfl, hf1⟩)
   have HF1 := Lib.hid (HF0.out.trans hf1 (by simp) (n := []) (by simp))
   have HG1 := Lib.hid hf1
   clear hf1 x0 x1 x2
   obtain ⟨x0, x1, x2, -⟩ := three_of_heap (HG1.out.heap HB0.out (by simp))
   go_upto_region 4 with (refine wpL_make rfl _ _ 39 rfl 3 iI (.int .i64 0) 8 Tryz.underlying39 hiI hz0 hz1 hz2 rfl n rfl rfl (by omega) (by simp [maxLen]; omega) ?_; intro w2 hh2 hf2 hs2)
   have HM0 := Lib.hid (fill_zero (l := T.map intV) (by rw [List.length_map, HLEN.out]) hh2.out)
   obtain ⟨b, hb⟩ : ∃ b, b = w1.heap.size := ⟨_, rfl⟩
   have HBW := Lib.hid (show w.heap.size ≤ b by rw [hb]; exact HF1.out.size)
   have HBW0 := Lib.hid (show w0.heap.size ≤ b by rw [hb]; exact HG1.out.size)
   rw [← hb] at HM0
   rw [← hb]
   have HF2 := Lib.hid (HF1.out.trans hf2 (by simp) (n := []) (by simp))
   have HG2 := Lib.hid (HG1.out.trans hf2 (by simp) (n := []) (by simp))
   clear hh2 hf2 hs2 hb x0 x1 x2
   obtain ⟨x0, x1, x2, -⟩ := three_of_heap (HG2.out.heap HB0.out (by simp))
   go_wp2_with fail
   go_loopw [18] (LftRel w0 b T) (fun iv _ => n - (intOf iv).toNat)
   case atStart => exact ⟨0, Nat.zero_le _, rfl, HM0.out, HG2.out⟩
   case round =>
    obtain ⟨k, hk, rfl, hm, hf⟩ := hrel
    have hk' : k ≤ n := by have := HLEN.out; omega
    have HF := Lib.hid hf
    have HM := Lib.hid hm
    clear x0 x1 x2
    by_cases hkn : k < n
    ·have hd1 : decide (k < n) = true := decide_eq_true hkn
     have hkr : k < g.rules.length := by have := HN.out; omega
     have hkT : k < T.length := by have := HLEN.out; omega
     obtain ⟨p, off, v, rfl, k0, k1, hv⟩ := rule_cells (HE.out.below (HF0.out.trans hf (by simp) (by simp))) k hkr
     have hgt := HGET.out k hkr hkT
     obtain ⟨lf, hlf⟩ : ∃ lf, lf = (g.rules[k]'hkr).left := ⟨_, rfl⟩
     rw [← hlf] at k0 hgt
     obtain ⟨a4, c4, rfl, hle2, hmx2⟩ := hv.form
     obtain ⟨n4, hn4⟩ : ∃ m, m = (g.rules[k]'hkr).right.length := ⟨_, rfl⟩
     rw [← hn4] at k1
     have HT := Lib.hid hgt
     have hb0 := two_of_new wr (.int .i64 lf) (.slice a4 n4 c4) 46
     have hf0 := Fr.alloc wr (.cells #[.int .i64 lf, .slice a4 n4 c4] 46)
     obtain ⟨w3, hw3⟩ : ∃ w3, w3 = wr.alloc (.cells #[.int .i64 lf, .slice a4 n4 c4] 46) := ⟨_, rfl⟩
     obtain ⟨q3, hq3⟩ : ∃ q3, q3 = wr.heap.size := ⟨_, rfl⟩
     rw [← hw3] at hb0 hf0
     rw [← hq3] at hb0
     have HB3 := Lib.hid hb0
     have HF3 := Lib.hid hf0
     have HW3 := Lib.hid hw3
     have HQ3 := Lib.hid hq3
     clear hgt hlf hn4 hb0 hf0 hw3 hq3 hv hm hf hle2 hmx2
     go_upto_region 7 with fail
     rw [← HW3.out, ← HQ3.out]
     clear k0 k1
     obtain ⟨y0, y1, -⟩ := two_cells HB3.out
     have hfl := fill_below HM.out HF3.out
     have hfr2 := fill_free hfl k
     have hcl := fill_cell hfl (by rw [List.length_map]; exact hkT)
     go_wp2_with fail
     refine ⟨⟨k + 1, by have := HLEN.out; omega, by go_num, fill_next hfl (by rw [List.length_map]; exact hkT) (by rw [List.getElem_map, HT.out]; rfl), ?_⟩, by simp [intOf]; omega⟩
     exact (HF.out.trans HF3.out (by simp) (n := []) (by simp)).trans (Fr.set0 _ _ _ _) (by simp) (fun i hi hlt => by have := HBW0.out; simp at hi; omega)
    ·have hd1 : decide (k < n) = false := decide_eq_false hkn
     have hkl : k = (T.map intV).length := by rw [List.length_map, HLEN.out]; omega
     have hst := fill_end hm hkl (by rw [List.length_map, HLEN.out]; simp [maxLen]; omega)
     rw [List.length_map, HLEN.out] at hst
     have hpl := fun wx (hfx : Fr [] wr wx) => pplaces_i T _ wx (intsAt.below hst hfx) (by rw [HLEN.out]; exact hzr) HLF.out
     have HPL := Lib.hid hpl
     have HFW := Lib.hid (HF0.out.trans hf (by simp) (n := []) (by simp))
     clear hm hf hkl hst hpl
     obtain ⟨x0, x1, x2, -⟩ := three_of_heap (HF.out.heap HB0.out (by simp))
     obtain ⟨B, hB⟩ : ∃ B, B = ((distI T : Int) == (n1 : Int)) := ⟨_, rfl⟩
     have hBB := hB.symm
     rw [← hB] at HR
     clear hB
     go_upto_region 9 with fail
     cases B with
     | false =>
       clear x0 x1 x2
       refine wp_region_G [] [(0, false), (3, false), (4, false), (5, false), (1, true), (2, false), (6, false), (7, false), (8, false), (9, false), (10, true), (11, false), (12, false)] 41 rfl (by kernel_rfl) (by kernel_rfl) (by kernel_rfl) (fun c a d v w h => by cases d <;> exact h) (fun w6 hf6 => ?_)
       simp only [List.map_cons, List.map_nil, List.getElem?_toArray, List.getElem?_cons_succ, List.getElem?_cons_zero, Option.getD_some]
       have HB6 := Lib.hid ((HF.out.trans hf6 (by simp) (n := []) (by simp)).heap HB0.out (by simp))
       have HF6 := Lib.hid hf6
       clear hf6
       repeat (apply wpG_t; · (intro w' hf'; obtain ⟨x0, x1, x2, -⟩ := three_of_heap (hf'.heap HB6.out (by simp)); go_wp2_with fail; exact ⟨rfl, rfl⟩))
       refine wpG_x ?_
       go_wp2_with (go_at_call 126; refine (HPL.out _ HF6.out).mono ?_; rintro e w7 ⟨b7, rfl, hmap, hge7, hf7⟩)
       refine ⟨hf7, rfl, ?_⟩
       have HB7 := Lib.hid (hf7.heap HB6.out (by simp))
       have HF7 := Lib.hid (HF6.out.trans hf7 (by simp) (n := []) (by simp))
       have HMP := Lib.hid hmap
       clear hf7 hmap
       repeat (apply wpG_t; · (intro w' hf'; obtain ⟨x0, x1, x2, -⟩ := three_of_heap (hf'.heap HB7.out (by simp)); have hln := (HMP.out.kept hf' (by simp)).len Tryz.underlying161 3; rw [show size (plD (T.map (Lit.int .i64))) = distI T from rfl] at hln; go_wp2_with fail; exact ⟨rfl, rfl⟩))
       refine wpG_x ?_
       go_wp2_with fail
       refine ⟨Fr.refl _ _, rfl, ?_⟩
       repeat (apply wpG_t; · (intro w' hf'; go_wp2_with fail; exact ⟨rfl, rfl⟩))
       refine wpG_end ?_
       go_wp2_with fail
       go_ret
       exact ⟨by rw [HR.out]; rfl, (HFW.out.trans HF7.out (by simp) (by simp))⟩
     | true =>
       clear x0 x1 x2
       refine wp_region_G [] [(0, false), (3, false), (4, false), (5, false), (1, true), (2, false), (6, false), (7, false), (8, false), (9, false), (10, true), (11, false), (12, false)] 41 rfl (by kernel_rfl) (by kernel_rfl) (by kernel_rfl) (fun c a d v w h => by cases d <;> exact h) (fun w6 hf6 => ?_)
       simp only [List.map_cons, List.map_nil, List.getElem?_toArray, List.getElem?_cons_succ, List.getElem?_cons_zero, Option.getD_some]
       have HB6 := Lib.hid ((HF.out.trans hf6 (by simp) (n := []) (by simp)).heap HB0.out (by simp))
       have HF6 := Lib.hid hf6
       clear hf6
       repeat (apply wpG_t; · (intro w' hf'; obtain ⟨x0, x1, x2, -⟩ := three_of_heap (hf'.heap HB6.out (by simp)); go_wp2_with fail; exact ⟨rfl, rfl⟩))
       refine wpG_x ?_
       go_wp2_with (go_at_call 126; refine (HPL.out _ HF6.out).mono ?_; rintro e w7 ⟨b7, rfl, hmap, hge7, hf7⟩)
       refine ⟨hf7, rfl, ?_⟩
       have HB7 := Lib.hid (hf7.heap HB6.out (by simp))
       have HF7 := Lib.hid (HF6.out.trans hf7 (by simp) (n := []) (by simp))
       have HMP := Lib.hid hmap
       clear hf7 hmap
       repeat (apply wpG_t; · (intro w' hf'; obtain ⟨x0, x1, x2, -⟩ := three_of_heap (hf'.heap HB7.out (by simp)); have hln := (HMP.out.kept hf' (by simp)).len Tryz.underlying161 3; rw [show size (plD (T.map (Lit.int .i64))) = distI T from rfl] at hln; go_wp2_with fail; exact ⟨rfl, rfl⟩))
       refine wpG_x ?_
       go_wp2_with (go_at_call 127; refine (HD.out _ (HF.out.trans HF7.out (by simp) (n := []) (by simp))).mono ?_; rintro e w8 ⟨rfl, hf8⟩)
       refine ⟨hf8, rfl, ?_⟩
       repeat (apply wpG_t; · (intro w' hf'; go_wp2_with fail; exact ⟨rfl, rfl⟩))
       refine wpG_end ?_
       go_wp2_with fail
       go_ret
       exact ⟨by rw [HR.out]; rfl, (HFW.out.trans HF7.out (by simp) (n := []) (by simp)).trans hf8 (by simp) (by simp)⟩
end Go.Proofs.YtnaamjpiaekmeaaGreat
namespace Go.Proofs.YtnaamjpiaekmeaaGreat
open Go.RowKit
theorem symB_iff {g : GramG} {s : Int} : symB g s = true ↔ -(g.terms.length : Int) ≤ s ∧ s < (g.names.length : Int) := by
 unfold symB
 split
 ·rw [decide_eq_true_eq]; omega
 ·rw [decide_eq_true_eq]; omega
theorem ruleB_iff {g : GramG} {r : RuleG} : ruleB g r = true ↔ 0 ≤ r.left ∧ r.left < (g.names.length : Int) ∧ r.right.length ≤ 64 ∧ ∀ s ∈ r.right, -(g.terms.length : Int) ≤ s ∧ s < (g.names.length : Int) := by
 unfold ruleB
 simp only [Bool.and_eq_true, Bool.not_eq_true', decide_eq_false_iff_not, decide_eq_true_eq, symB_iff, List.all_eq_true]
 constructor
 ·rintro ⟨⟨⟨h1, -, h2⟩, h3⟩, h4⟩
  exact ⟨by omega, h2, h3, h4⟩
 ·rintro ⟨h1, h2, h3, h4⟩
  exact ⟨⟨⟨by omega, by omega, h2⟩, h3⟩, h4⟩
theorem byteI_inj {x y : Int} {N T : Nat} (h : N + T ≤ 256) (hx : -(T : Int) ≤ x ∧ x < (N : Int)) (hy : -(T : Int) ≤ y ∧ y < (N : Int)) (e : byteI x = byteI y) : x = y := by
 have h1 := byteI_toNat x
 have h2 := byteI_toNat y
 rw [e] at h1
 omega
theorem map_inj_on {α β : Type} {f : α → β} : ∀ {a b : List α}, (∀ x ∈ a, ∀ y ∈ b, f x = f y → x = y) → a.map f = b.map f → a = b
 | [], [], _, _ => rfl
 | [], _ :: _, _, e => by simp at e
 | _ :: _, [], _, e => by simp at e
 | x :: a, y :: b, h, e => by
   simp only [List.map_cons, List.cons.injEq] at e
   rw [h x (by simp) y (by simp) e.1, map_inj_on (fun u hu v hv => h u (by simp [hu]) v (by simp [hv])) e.2]
theorem nodup_map_on {α β : Type} {f : α → β} {l : List α} (h : ∀ x ∈ l, ∀ y ∈ l, f x = f y → x = y) : (l.map f).Nodup ↔ l.Nodup := by
 unfold List.Nodup
 rw [List.pairwise_map]
 exact ⟨fun q => q.imp (fun hn e => hn (by rw [e])), fun q => q.imp_of_mem (fun ha hb hn e => hn (h _ ha _ hb e))⟩
theorem ruleT_nodup {g : GramG} (hf : g.names.length + g.terms.length ≤ 256) (hr : ∀ r ∈ g.rules, ruleB g r = true) : (g.rules.map ruleT).Nodup ↔ g.rules.Nodup := by
 refine nodup_map_on (fun x hx y hy e => ?_)
 obtain ⟨x1, x2, -, x4⟩ := ruleB_iff.1 (hr x hx)
 obtain ⟨y1, y2, -, y4⟩ := ruleB_iff.1 (hr y hy)
 unfold ruleT at e
 injection e with e1 e2
 refine RuleG.ext' (byteI_inj hf ⟨by omega, x2⟩ ⟨by omega, y2⟩ e1) (map_inj_on (fun u hu v hv => byteI_inj hf (x4 u hu) (y4 v hv)) e2)
theorem of_bool {p : Prop} : boolOf p = true ↔ p := ⟨of_boolOf, boolOf_true⟩
theorem rulesB_iff {g : GramG} (hf : g.names.length + g.terms.length ≤ 256) : rulesB g = true ↔ (∀ r ∈ g.rules, 0 ≤ r.left ∧ r.left < (g.names.length : Int) ∧ r.right.length ≤ 64 ∧ ∀ s ∈ r.right, -(g.terms.length : Int) ≤ s ∧ s < (g.names.length : Int)) ∧ (∀ i : Nat, i < g.names.length → ∃ r ∈ g.rules, r.left = (i : Int)) ∧ g.rules.Nodup := by
 unfold rulesB
 simp only [Bool.and_eq_true, List.all_eq_true, beq_iff_eq, of_bool]
 constructor
 ·rintro ⟨h1, h2, h3⟩
  have hr : ∀ r ∈ g.rules, 0 ≤ r.left ∧ r.left < (g.names.length : Int) ∧ r.right.length ≤ 64 ∧ ∀ s ∈ r.right, -(g.terms.length : Int) ≤ s ∧ s < (g.names.length : Int) := fun r hm => ruleB_iff.1 (h1 r hm)
  refine ⟨hr, fun i hi => ?_, (ruleT_nodup hf h1).1 h3⟩
  have hx : ∀ x ∈ g.rules.map (·.left), 0 ≤ x ∧ x < (g.names.length : Int) := fun x hx => by obtain ⟨r, hm, rfl⟩ := List.mem_map.1 hx; exact ⟨(hr r hm).1, (hr r hm).2.1⟩
  have := (distI_full hx).1 (by omega) i hi
  obtain ⟨r, hm, e⟩ := List.mem_map.1 this
  exact ⟨r, hm, e⟩
 ·rintro ⟨hr, h2, h3⟩
  have h1 : ∀ r ∈ g.rules, ruleB g r = true := fun r hm => ruleB_iff.2 (hr r hm)
  refine ⟨h1, ?_, (ruleT_nodup hf h1).2 h3⟩
  have hx : ∀ x ∈ g.rules.map (·.left), 0 ≤ x ∧ x < (g.names.length : Int) := fun x hx => by obtain ⟨r, hm, rfl⟩ := List.mem_map.1 hx; exact ⟨(hr r hm).1, (hr r hm).2.1⟩
  have := (distI_full hx).2 (fun i hi => by obtain ⟨r, hm, e⟩ := h2 i hi; exact List.mem_map.2 ⟨r, hm, e⟩)
  omega
theorem valid_code (g : GramG) : validB g = (decide (0 < g.names.length) && (fitsB g && ((g.names.all nameB && boolOf g.names.Nodup) && ((g.terms.all termB && boolOf g.terms.Nodup) && rulesB g)))) := by
 rw [Bool.eq_iff_iff]
 unfold validB fitsB
 by_cases hf : g.names.length + g.terms.length ≤ 256
 ·simp only [Bool.and_eq_true, of_bool, decide_eq_true_eq, List.all_eq_true, rulesB_iff hf]
  exact ⟨fun h => ⟨h.one, ⟨h.syms, h.few⟩, ⟨h.names, h.nodupN⟩, ⟨h.terms, h.nodupT⟩, h.rules, h.has, h.nodupR⟩,
   fun ⟨h1, ⟨h2, h3⟩, ⟨h4, h5⟩, ⟨h6, h7⟩, h8, h9, h10⟩ => ⟨h1, h2, h3, h4, h5, h9, h6, h7, h8, h10⟩⟩
 ·simp only [Bool.and_eq_true, of_bool, decide_eq_true_eq]
  exact ⟨fun h => (hf h.syms).elim, fun h => (hf h.2.1.1).elim⟩
set_option maxRecDepth 100000 in
set_option maxHeartbeats 4000000 in
theorem pvalid_any : ProgValid := by
 intro g gv w hg hz hi
 obtain ⟨a1, c1, a2, c2, a3, c3, rfl, ⟨hg1, hle1, -⟩, ⟨hg2, -, -⟩, -⟩ := hg.parts
 obtain ⟨R, hR⟩ : ∃ R, R = validB g := ⟨_, rfl⟩
 rw [← hR]
 rw [valid_code] at hR
 have hb0 := heap_alloc_new w (.cells #[.slice a1 g.names.length c1, .slice a2 g.terms.length c2, .slice a3 g.rules.length c3] 25)
 have hf0 := Fr.alloc w (.cells #[.slice a1 g.names.length c1, .slice a2 g.terms.length c2, .slice a3 g.rules.length c3] 25)
 obtain ⟨w0, hw0⟩ : ∃ w0, w0 = w.alloc (.cells #[.slice a1 g.names.length c1, .slice a2 g.terms.length c2, .slice a3 g.rules.length c3] 25) := ⟨_, rfl⟩
 obtain ⟨q0, hq0⟩ : ∃ q0, q0 = w.heap.size := ⟨_, rfl⟩
 rw [← hw0] at hb0 hf0
 rw [← hq0] at hb0
 have h1 := fun wx (hfx : Fr [] w wx) => pfits_any g _ wx (hg.below hfx) (by have := hz.names; omega) (by have := hz.terms; omega)
 have h2 := fun wx (hfx : Fr [] w wx) => ptexts_name g.names _ wx (hg1.below hfx) hz.names (fun x hx => by have := hz.name x hx; simp [maxLen]; omega)
 have h3 := fun wx (hfx : Fr [] w wx) => ptexts_term g.terms _ wx (hg2.below hfx) hz.terms (fun x hx => by have := hz.term x hx; simp [maxLen]; omega)
 have h4 := fun wx (hfx : Fr [] w wx) => prulesvalid_any g _ wx (hg.below hfx) hz hi
 obtain ⟨F, hF⟩ : ∃ F, F = fitsB g := ⟨_, rfl⟩
 obtain ⟨M, hM⟩ : ∃ M, M = (g.names.all nameB && boolOf g.names.Nodup) := ⟨_, rfl⟩
 obtain ⟨T, hT⟩ : ∃ T, T = (g.terms.all termB && boolOf g.terms.Nodup) := ⟨_, rfl⟩
 obtain ⟨U, hU⟩ : ∃ U, U = rulesB g := ⟨_, rfl⟩
 rw [← hF] at hR h1
 rw [← hM] at hR h2
 rw [← hT] at hR h3
 rw [← hU] at hR h4
 obtain ⟨n1, hn1⟩ : ∃ n, n = g.names.length := ⟨_, rfl⟩
 obtain ⟨n2, hn2⟩ : ∃ n, n = g.terms.length := ⟨_, rfl⟩
 obtain ⟨n3, hn3⟩ : ∃ n, n = g.rules.length := ⟨_, rfl⟩
 rw [← hn1] at hR h2
 rw [← hn2] at h3
 rw [← hn1, ← hn2, ← hn3] at hb0 hw0 h1 h4 ⊢
 have HB0 := Lib.hid hb0
 have HF0 := Lib.hid hf0
 have HW0 := Lib.hid hw0
 have HQ0 := Lib.hid hq0
 have H1 := Lib.hid h1
 have H2 := Lib.hid h2
 have H3 := Lib.hid h3
 have H4 := Lib.hid h4
 obtain ⟨x0, x1, x2, -⟩ := three_of_heap HB0.out
 clear hb0 hf0 hw0 hq0 hg hz hi hn1 hn2 hn3 hg1 hg2 hle1 h1 h2 h3 h4 hF hM hT hU
 by_cases hn : 0 < n1
 rotate_left
 ·have hd : decide (0 < n1) = false := decide_eq_false (by omega)
  have HR := Lib.hid (show R = false by rw [hR, decide_eq_false hn]; rfl)
  clear hR hn
  go_enter Tryz.func47, Tryz.ntmps47
  go_upto_region 1 with fail
  rw [← HW0.out, ← HQ0.out]
  go_wp2_with fail
  go_ret
  exact ⟨by rw [HR.out]; rfl, HF0.out⟩
 have hd : decide (0 < n1) = true := decide_eq_true (by omega)
 rw [decide_eq_true hn] at hR
 clear hn
 cases F with
 | false =>
   have HR := Lib.hid (show R = false by rw [hR]; rfl)
   clear hR
   go_enter Tryz.func47, Tryz.ntmps47
   go_upto_region 1 with fail
   rw [← HW0.out, ← HQ0.out]
   go_wp2_with (first
    | (go_at_call 85; refine (H1.out _ HF0.out).mono ?_; rintro e w1 ⟨rfl, hf1⟩; have HF1 := Lib.hid (HF0.out.trans hf1 (by simp) (n := []) (by simp)); have HB1 := Lib.hid (hf1.heap HB0.out (by simp)); clear hf1; obtain ⟨x0, x1, x2, -⟩ := three_of_heap HB1.out))
   go_ret
   exact ⟨by rw [HR.out]; rfl, HF1.out⟩
 | true =>
   cases M with
   | false =>
     have HR := Lib.hid (show R = false by rw [hR]; rfl)
     clear hR
     go_enter Tryz.func47, Tryz.ntmps47
     go_upto_region 1 with fail
     rw [← HW0.out, ← HQ0.out]
     go_wp2_with (first
      | (go_at_call 86; have := w1; refine (H2.out _ HF1.out).mono ?_; rintro e w2 ⟨rfl, hf2⟩; have HF2 := Lib.hid (HF1.out.trans hf2 (by simp) (n := []) (by simp)); have HB2 := Lib.hid (hf2.heap HB1.out (by simp)); clear hf2; obtain ⟨x0, x1, x2, -⟩ := three_of_heap HB2.out)
      | (go_at_call 85; refine (H1.out _ HF0.out).mono ?_; rintro e w1 ⟨rfl, hf1⟩; have HF1 := Lib.hid (HF0.out.trans hf1 (by simp) (n := []) (by simp)); have HB1 := Lib.hid (hf1.heap HB0.out (by simp)); clear hf1; obtain ⟨x0, x1, x2, -⟩ := three_of_heap HB1.out))
     go_ret
     exact ⟨by rw [HR.out]; rfl, HF2.out⟩
   | true =>
     cases T with
     | false =>
       have HR := Lib.hid (show R = false by rw [hR]; rfl)
       clear hR
       go_enter Tryz.func47, Tryz.ntmps47
       go_upto_region 1 with fail
       rw [← HW0.out, ← HQ0.out]
       go_wp2_with (first
        | (go_at_call 86; have := w2; refine (H3.out _ HF2.out).mono ?_; rintro e w3 ⟨rfl, hf3⟩; have HF3 := Lib.hid (HF2.out.trans hf3 (by simp) (n := []) (by simp)); have HB3 := Lib.hid (hf3.heap HB2.out (by simp)); clear hf3; obtain ⟨x0, x1, x2, -⟩ := three_of_heap HB3.out)
        | (go_at_call 86; have := w1; refine (H2.out _ HF1.out).mono ?_; rintro e w2 ⟨rfl, hf2⟩; have HF2 := Lib.hid (HF1.out.trans hf2 (by simp) (n := []) (by simp)); have HB2 := Lib.hid (hf2.heap HB1.out (by simp)); clear hf2; obtain ⟨x0, x1, x2, -⟩ := three_of_heap HB2.out)
        | (go_at_call 85; refine (H1.out _ HF0.out).mono ?_; rintro e w1 ⟨rfl, hf1⟩; have HF1 := Lib.hid (HF0.out.trans hf1 (by simp) (n := []) (by simp)); have HB1 := Lib.hid (hf1.heap HB0.out (by simp)); clear hf1; obtain ⟨x0, x1, x2, -⟩ := three_of_heap HB1.out))
       go_ret
       exact ⟨by rw [HR.out]; rfl, HF3.out⟩
     | true =>
       cases U with
       | false =>
         have HR := Lib.hid (show R = false by rw [hR]; rfl)
         clear hR
         go_enter Tryz.func47, Tryz.ntmps47
         go_upto_region 1 with fail
         rw [← HW0.out, ← HQ0.out]
         go_wp2_with (first
          | (go_at_call 89; have := w3; refine (H4.out _ HF3.out).mono ?_; rintro e w4 ⟨rfl, hf4⟩; have HF4 := Lib.hid (HF3.out.trans hf4 (by simp) (n := []) (by simp)); have HB4 := Lib.hid (hf4.heap HB3.out (by simp)); clear hf4; obtain ⟨x0, x1, x2, -⟩ := three_of_heap HB4.out)
          | (go_at_call 86; have := w2; refine (H3.out _ HF2.out).mono ?_; rintro e w3 ⟨rfl, hf3⟩; have HF3 := Lib.hid (HF2.out.trans hf3 (by simp) (n := []) (by simp)); have HB3 := Lib.hid (hf3.heap HB2.out (by simp)); clear hf3; obtain ⟨x0, x1, x2, -⟩ := three_of_heap HB3.out)
          | (go_at_call 86; have := w1; refine (H2.out _ HF1.out).mono ?_; rintro e w2 ⟨rfl, hf2⟩; have HF2 := Lib.hid (HF1.out.trans hf2 (by simp) (n := []) (by simp)); have HB2 := Lib.hid (hf2.heap HB1.out (by simp)); clear hf2; obtain ⟨x0, x1, x2, -⟩ := three_of_heap HB2.out)
          | (go_at_call 85; refine (H1.out _ HF0.out).mono ?_; rintro e w1 ⟨rfl, hf1⟩; have HF1 := Lib.hid (HF0.out.trans hf1 (by simp) (n := []) (by simp)); have HB1 := Lib.hid (hf1.heap HB0.out (by simp)); clear hf1; obtain ⟨x0, x1, x2, -⟩ := three_of_heap HB1.out))
         go_ret
         exact ⟨by rw [HR.out]; rfl, HF4.out⟩
       | true =>
         have HR := Lib.hid (show R = true by rw [hR]; rfl)
         clear hR
         go_enter Tryz.func47, Tryz.ntmps47
         go_upto_region 1 with fail
         rw [← HW0.out, ← HQ0.out]
         go_wp2_with (first
          | (go_at_call 89; have := w3; refine (H4.out _ HF3.out).mono ?_; rintro e w4 ⟨rfl, hf4⟩; have HF4 := Lib.hid (HF3.out.trans hf4 (by simp) (n := []) (by simp)); have HB4 := Lib.hid (hf4.heap HB3.out (by simp)); clear hf4; obtain ⟨x0, x1, x2, -⟩ := three_of_heap HB4.out)
          | (go_at_call 86; have := w2; refine (H3.out _ HF2.out).mono ?_; rintro e w3 ⟨rfl, hf3⟩; have HF3 := Lib.hid (HF2.out.trans hf3 (by simp) (n := []) (by simp)); have HB3 := Lib.hid (hf3.heap HB2.out (by simp)); clear hf3; obtain ⟨x0, x1, x2, -⟩ := three_of_heap HB3.out)
          | (go_at_call 86; have := w1; refine (H2.out _ HF1.out).mono ?_; rintro e w2 ⟨rfl, hf2⟩; have HF2 := Lib.hid (HF1.out.trans hf2 (by simp) (n := []) (by simp)); have HB2 := Lib.hid (hf2.heap HB1.out (by simp)); clear hf2; obtain ⟨x0, x1, x2, -⟩ := three_of_heap HB2.out)
          | (go_at_call 85; refine (H1.out _ HF0.out).mono ?_; rintro e w1 ⟨rfl, hf1⟩; have HF1 := Lib.hid (HF0.out.trans hf1 (by simp) (n := []) (by simp)); have HB1 := Lib.hid (hf1.heap HB0.out (by simp)); clear hf1; obtain ⟨x0, x1, x2, -⟩ := three_of_heap HB1.out))
         go_ret
         exact ⟨by rw [HR.out]; rfl, HF4.out⟩
end Go.Proofs.YtnaamjpiaekmeaaGreat
