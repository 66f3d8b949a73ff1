/- The program's grammars (layer 14): Same. -/
import Derived.Test.YtcmgnhjffhaajaaGa
namespace Go.Proofs.Ytcmgnhjffhaajaa
open Go.RowKit

set_option maxRecDepth 100000 in
set_option maxHeartbeats 2000000 in
theorem psame_any : ProgSame := by
  intro g h gv hv w hg hh _ _
  have hnm := fun wx (hfx : Fr [] w wx) (va vb : Value) (h1 : strsAt w va g.names) (h2 : strsAt w vb h.names) => peqs_any g.names h.names va vb wx (h1.below hfx) (h2.below hfx)
  have htm := fun wx (hfx : Fr [] w wx) (va vb : Value) (h1 : strsAt w va g.terms) (h2 : strsAt w vb h.terms) => peqs_any g.terms h.terms va vb wx (h1.below hfx) (h2.below hfx)
  have hrl := fun wx (hfx : Fr [] w wx) (va vb : Value) (h1 : rulesAt w va g.rules) (h2 : rulesAt w vb h.rules) => peqr_any g.rules h.rules va vb wx (h1.below hfx) (h2.below hfx)
  obtain ⟨a1, c1, a2, c2, a3, c3, rfl, ⟨g1, -, -⟩, ⟨g2, -, -⟩, ⟨g3, -, -⟩⟩ := hg.parts
  obtain ⟨b1, d1, b2, d2, b3, d3, rfl, ⟨k1, -, -⟩, ⟨k2, -, -⟩, ⟨k3, -, -⟩⟩ := hh.parts
  clear hg hh
  obtain ⟨R, hR⟩ : ∃ R, R = sameB g h := ⟨_, rfl⟩
  rw [← hR]
  have HR := Lib.hid hR
  have HN := Lib.hid (fun wx hfx => hnm wx hfx _ _ g1 k1)
  have HT := Lib.hid (fun wx hfx => htm wx hfx _ _ g2 k2)
  have HL := Lib.hid (fun wx hfx => hrl wx hfx _ _ g3 k3)
  obtain ⟨n1, hn1⟩ : ∃ n, n = g.names.length := ⟨_, rfl⟩
  obtain ⟨n2, hn2⟩ : ∃ n, n = g.terms.length := ⟨_, rfl⟩
  obtain ⟨n3, hn3⟩ : ∃ n, n = g.rules.length := ⟨_, rfl⟩
  obtain ⟨m1, hm1⟩ : ∃ n, n = h.names.length := ⟨_, rfl⟩
  obtain ⟨m2, hm2⟩ : ∃ n, n = h.terms.length := ⟨_, rfl⟩
  obtain ⟨m3, hm3⟩ : ∃ n, n = h.rules.length := ⟨_, rfl⟩
  rw [← hn1, ← hm1] at HN
  rw [← hn2, ← hm2] at HT
  rw [← hn3, ← hm3] at HL
  rw [← hn1, ← hn2, ← hn3, ← hm1, ← hm2, ← hm3]
  clear hR hnm htm hrl g1 g2 g3 k1 k2 k3 hn1 hn2 hn3 hm1 hm2 hm3
  have hb0 := heap_alloc_new w (.cells #[.slice a1 n1 c1, .slice a2 n2 c2, .slice a3 n3 c3] 25)
  have hf0 := Fr.alloc w (.cells #[.slice a1 n1 c1, .slice a2 n2 c2, .slice a3 n3 c3] 25)
  obtain ⟨w0, hw0⟩ : ∃ w0, w0 = w.alloc (.cells #[.slice a1 n1 c1, .slice a2 n2 c2, .slice a3 n3 c3] 25) := ⟨_, rfl⟩
  obtain ⟨q0, hq0⟩ : ∃ q0, q0 = w.heap.size := ⟨_, rfl⟩
  rw [← hw0] at hb0 hf0
  rw [← hq0] at hb0
  have hb1 := heap_alloc_new w0 (.cells #[.slice b1 m1 d1, .slice b2 m2 d2, .slice b3 m3 d3] 25)
  have hf1 := Fr.alloc w0 (.cells #[.slice b1 m1 d1, .slice b2 m2 d2, .slice b3 m3 d3] 25)
  obtain ⟨w1, hw1⟩ : ∃ w1, w1 = w0.alloc (.cells #[.slice b1 m1 d1, .slice b2 m2 d2, .slice b3 m3 d3] 25) := ⟨_, rfl⟩
  obtain ⟨q1, hq1⟩ : ∃ q1, q1 = w0.heap.size := ⟨_, rfl⟩
  rw [← hw1] at hb1 hf1
  rw [← hq1] at hb1
  have HB0 := Lib.hid (hf1.heap hb0 (by simp))
  have HB1 := Lib.hid hb1
  have HF := Lib.hid (hf0.trans hf1 (by simp) (n := []) (by simp))
  have HW0 := Lib.hid hw0
  have HQ0 := Lib.hid hq0
  have HW1 := Lib.hid hw1
  have HQ1 := Lib.hid (show q1 = q0 + 1 by rw [hq1, hw0, World.size_alloc, ← hq0])
  clear hb0 hf0 hw0 hq0 hb1 hf1 hw1 hq1
  obtain ⟨y0, y1, y2, -⟩ := three_of_heap HB0.out
  obtain ⟨x0, x1, x2, -⟩ := three_of_heap HB1.out
  by_cases e1 : g.names = h.names
  rotate_left
  · rw [decide_eq_false e1] at HN
    have HX := Lib.hid (show R = false by rw [HR.out]; exact boolOf_false (fun e => e1 (by rw [e])))
    clear e1
    go_enter Try.func12, Try.ntmps12
    go_upto_region 1 with fail
    rw [← HQ0.out, ← HW0.out, ← HQ1.out, ← HW1.out]
    go_wp2_with (go_at_call 30; refine (HN.out _ HF.out).mono ?_; rintro e w2 ⟨rfl, hf2⟩)
    go_ret
    exact ⟨by rw [HX.out]; rfl, HF.out.trans hf2 (by simp) (by simp)⟩
  rw [decide_eq_true e1] at HN
  by_cases e2 : g.terms = h.terms
  rotate_left
  · rw [decide_eq_false e2] at HT
    have HX := Lib.hid (show R = false by rw [HR.out]; exact boolOf_false (fun e => e2 (by rw [e])))
    clear e1 e2
    go_enter Try.func12, Try.ntmps12
    go_upto_region 1 with fail
    rw [← HQ0.out, ← HW0.out, ← HQ1.out, ← HW1.out]
    go_wp2_with (first
      | (go_at_call 30; have := w2; refine (HT.out _ HF2.out).mono ?_; rintro e w3 ⟨rfl, hf3⟩)
      | (go_at_call 30; refine (HN.out _ HF.out).mono ?_; rintro e w2 ⟨rfl, hf2⟩; have HF2 := Lib.hid (HF.out.trans hf2 (by simp) (n := []) (by simp)); obtain ⟨y0, y1, y2, -⟩ := three_of_heap (hf2.heap HB0.out (by simp)); obtain ⟨x0, x1, x2, -⟩ := three_of_heap (hf2.heap HB1.out (by simp))))
    go_ret
    exact ⟨by rw [HX.out]; rfl, HF2.out.trans hf3 (by simp) (by simp)⟩
  rw [decide_eq_true e2] at HT
  have hall : R = boolOf (g.rules = h.rules) := by
    rw [HR.out]
    exact boolOf_congr ⟨fun e => by rw [e], fun e => GramG.ext' e1 e2 e⟩
  have HX := Lib.hid hall
  clear e1 e2 hall
  go_enter Try.func12, Try.ntmps12
  go_upto_region 1 with fail
  rw [← HQ0.out, ← HW0.out, ← HQ1.out, ← HW1.out]
  go_wp2_with (first
    | (go_at_call 31; refine (HL.out _ HF3.out).mono ?_; rintro e w4 ⟨rfl, hf4⟩)
    | (go_at_call 30; have := w2; refine (HT.out _ HF2.out).mono ?_; rintro e w3 ⟨rfl, hf3⟩; have HF3 := Lib.hid (HF2.out.trans hf3 (by simp) (n := []) (by simp)); obtain ⟨y0, y1, y2, -⟩ := three_of_heap (hf3.heap (hf2.heap HB0.out (by simp)) (by simp)); obtain ⟨x0, x1, x2, -⟩ := three_of_heap (hf3.heap (hf2.heap HB1.out (by simp)) (by simp)))
    | (go_at_call 30; refine (HN.out _ HF.out).mono ?_; rintro e w2 ⟨rfl, hf2⟩; have HF2 := Lib.hid (HF.out.trans hf2 (by simp) (n := []) (by simp)); obtain ⟨y0, y1, y2, -⟩ := three_of_heap (hf2.heap HB0.out (by simp)); obtain ⟨x0, x1, x2, -⟩ := three_of_heap (hf2.heap HB1.out (by simp))))
  go_ret
  exact ⟨by rw [HX.out]; rfl, HF3.out.trans hf4 (by simp) (by simp)⟩
end Go.Proofs.Ytcmgnhjffhaajaa
