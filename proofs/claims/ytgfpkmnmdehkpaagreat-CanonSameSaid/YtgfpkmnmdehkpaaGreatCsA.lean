/- The statement's swapped (layer 16). -/
import Derived.Test.YtgfpkmnmdehkpaaGreatRuRow
import Derived.Test.YtgfpkmnmdehkpaaGreatCn
import Derived.Test.YtgfpkmnmdehkpaaGreatDt
import Derived.Test.YtgfpkmnmdehkpaaGreatGa
import Derived.Test.YtgfpkmnmdehkpaaGreatRegionN
import Derived.Test.YtgfpkmnmdehkpaaGreatBs
import Derived.Test.YtgfpkmnmdehkpaaGreatP0
import Derived.Laws.ResultCell
set_option linter.unusedVariables false
set_option linter.unusedSimpArgs false
namespace Go.Proofs.YtgfpkmnmdehkpaaGreat
open Go.RowKit

theorem infoStrS : (Tryz.prog.info? 9).map (fun i => (i.zero, i.size, i.bytes)) = some (some (.string ⟨#[]⟩), 1, 16) := by kernel_rfl
theorem infoIntS : (Tryz.prog.info? 3).map (fun i => (i.zero, i.size, i.bytes)) = some (some (.int .i64 0), 1, 8) := by kernel_rfl
theorem infoRuleS : (Tryz.prog.info? 49).map (fun i => (i.zero, i.size, i.bytes)) = some (some (.agg #[.int .i64 0, .slice none 0 0]), 2, 32) := by kernel_rfl
theorem sizeGramS : (Tryz.prog.info? 25).map (·.size) = some 3 := by kernel_rfl
theorem add_none (b off j : Nat) : (⟨b, off, none⟩ : Addr).add j = ⟨b, off + j, none⟩ := by unfold Addr.add; split <;> simp_all
theorem strs_src {w : World} {b off n c : Nat} {l : List (List UInt8)} (h : strsAt w (.slice (some ⟨b, off, none⟩) n c) l) : ∀ j u, (l.map encStr)[j]? = some u → w.cell? ((⟨b, off, none⟩ : Addr).add j) = some u := fun j u hj => by
  have hl := (List.getElem?_eq_some_iff.1 hj).1
  have hl' : j < l.length := by simpa using hl
  obtain ⟨b', off', e, hc⟩ := str_cell h j hl'
  cases e
  rw [add_none, hc, ← hj, List.getElem?_map, List.getElem?_eq_getElem hl']
  rfl
theorem gram_setS {w : World} {p : Nat} {a b c : Value} {t : TypeId} (h : w.heap[p]? = some (.cells #[a, b, c] t (0, 0))) (x y z : Value) : (((w.setCell ⟨p, 0, none⟩ x).setCell ⟨p, 1, none⟩ y).setCell ⟨p, 2, none⟩ z).heap[p]? = some (.cells #[x, y, z] t (0, 0)) := by
  have h1 := heap_setCell_same h (i := 0) x
  have h2 := heap_setCell_same h1 (i := 1) y
  have h3 := heap_setCell_same h2 (i := 2) z
  exact h3
theorem fr_set3S (w : World) (p : Nat) (x y z : Value) : Fr [p] w (((w.setCell ⟨p, 0, none⟩ x).setCell ⟨p, 1, none⟩ y).setCell ⟨p, 2, none⟩ z) :=
  ((Fr.set0 w p 0 x).trans (Fr.set0 _ p 1 y) (fun _ z _ => z) (fun _ z _ => z)).trans (Fr.set0 _ p 2 z) (fun _ z _ => z) (fun _ z _ => z)
/-- The first n of the swapped rules. -/
def swTo (g : GramG) (a b c d i k n : Nat) : List RuleG := (List.range n).map fun m => renG a b c d (g.rules.getD (atS i k m) ⟨0, []⟩)
theorem swTo_len (g : GramG) (a b c d i k n : Nat) : (swTo g a b c d i k n).length = n := by unfold swTo; simp
theorem swTo_next (g : GramG) (a b c d i k n : Nat) : swTo g a b c d i k (n + 1) = swTo g a b c d i k n ++ [renG a b c d (g.rules.getD (atS i k n) ⟨0, []⟩)] := by
  unfold swTo
  rw [List.range_succ, List.map_append]
  rfl
def SwRel (w : World) (g : GramG) (a b c d i k : Nat) (rv iv : Value) (wx : World) : Prop := ∃ (n : Nat) (vs : List Value), n ≤ g.rules.length ∧ iv = .int .i64 (n : Int) ∧ RuRow w.heap.size rv (swTo g a b c d i k n) vs wx ∧ Fr [] w wx
def SjRel (w : World) (q : Nat) (l' : Int) (F : Int → Int) (rg : List Int) (iv : Value) (wx : World) : Prop := ∃ (j : Nat) (rgv : Value), j ≤ rg.length ∧ iv = .int .i64 (j : Int) ∧ wx.heap[q]? = some (.cells #[.int .i64 l', rgv] 49 (0, 0)) ∧ wx.ownsRow q 3 1 rgv j (((rg.take j).map F).map intV) ∧ Fr [] w wx
set_option maxRecDepth 100000 in
set_option maxHeartbeats 4000000 in
theorem cswap_any (g : GramG) (hv : ValidG g) (gv : Value) (w : World) (hg : gramAt w gv g) (a b c d i k : Nat) (ha : a < g.names.length) (hb : b < g.names.length) (hc : c < g.terms.length) (hd : d < g.terms.length) (hi : i < g.rules.length) (hk : k < g.rules.length) :
    Calls Tryz.prog 20 #[gv, .int .i64 (a : Int), .int .i64 (b : Int), .int .i64 (c : Int), .int .i64 (d : Int), .int .i64 (i : Int), .int .i64 (k : Int)] w (RGram (swapG g a b c d i k) w) := by
  obtain ⟨iS, hiS, hs0, hs1, hs2⟩ := info_parts infoStrS
  obtain ⟨iI, hiI, hi0, hi1, hi2⟩ := info_parts infoIntS
  obtain ⟨iR, hiR, hr0, hr1, hr2⟩ := info_parts infoRuleS
  obtain ⟨a1, c1, a2, c2, a3, c3, rfl, ⟨h1, q1, p1⟩, ⟨h2, q2, p2⟩, ⟨h3, q3, p3⟩⟩ := hg.parts
  obtain ⟨b1, o1, rfl, -⟩ := str_cell h1 a ha
  obtain ⟨b2, o2, rfl, -⟩ := str_cell h2 c hc
  have hb0 := heap_alloc_new w (.cells #[.slice (some ⟨b1, o1, none⟩) g.names.length c1, .slice (some ⟨b2, o2, none⟩) g.terms.length c2, .slice a3 g.rules.length c3] 25)
  have hb1 := heap_alloc_new (w.alloc (.cells #[.slice (some ⟨b1, o1, none⟩) g.names.length c1, .slice (some ⟨b2, o2, none⟩) g.terms.length c2, .slice a3 g.rules.length c3] 25)) (.cells #[.slice none 0 0, .slice none 0 0, .slice none 0 0] 25)
  have hf0 := Fr.alloc w (.cells #[.slice (some ⟨b1, o1, none⟩) g.names.length c1, .slice (some ⟨b2, o2, none⟩) g.terms.length c2, .slice a3 g.rules.length c3] 25)
  have hf1 := Fr.alloc (w.alloc (.cells #[.slice (some ⟨b1, o1, none⟩) g.names.length c1, .slice (some ⟨b2, o2, none⟩) g.terms.length c2, .slice a3 g.rules.length c3] 25)) (.cells #[.slice none 0 0, .slice none 0 0, .slice none 0 0] 25)
  obtain ⟨w2, hw2⟩ : ∃ w2, w2 = (w.alloc (.cells #[.slice (some ⟨b1, o1, none⟩) g.names.length c1, .slice (some ⟨b2, o2, none⟩) g.terms.length c2, .slice a3 g.rules.length c3] 25)).alloc (.cells #[.slice none 0 0, .slice none 0 0, .slice none 0 0] 25) := ⟨_, rfl⟩
  obtain ⟨q0, hq0⟩ : ∃ q0, q0 = w.heap.size := ⟨_, rfl⟩
  have hb0' := hf1.heap hb0 (by simp)
  have hf2 := hf0.trans hf1 (by simp) (n := []) (by simp)
  rw [World.size_alloc, ← hq0] at hb1
  rw [← hw2] at hb1 hb0' hf2
  rw [← hq0] at hb0'
  have HB0 := Lib.hid hb0'
  have HB1 := Lib.hid hb1
  have HF2 := Lib.hid hf2
  have H1 := Lib.hid (h1.below hf2)
  have H2 := Lib.hid (h2.below hf2)
  have H3 := Lib.hid (h3.below hf2)
  have HV := Lib.hid hv
  have HW2 := Lib.hid hw2
  have HQ0 := Lib.hid hq0
  have hsy := hv.syms
  have hfw := hv.few
  obtain ⟨n1, hn1⟩ : ∃ n, n = g.names.length := ⟨_, rfl⟩
  obtain ⟨n2, hn2⟩ : ∃ n, n = g.terms.length := ⟨_, rfl⟩
  obtain ⟨n3, hn3⟩ : ∃ n, n = g.rules.length := ⟨_, rfl⟩
  have HN1 := Lib.hid hn1
  have HN2 := Lib.hid hn2
  have HN3 := Lib.hid hn3
  rw [← hn1, ← hn2, ← hn3] at HB0 HW2
  rw [← hn1] at H1 q1 ha hb hsy
  rw [← hn2] at H2 q2 hc hd hsy
  rw [← hn3] at H3 q3 hi hk hfw
  rw [← hn1, ← hn2, ← hn3]
  clear hb0 hb1 hf0 hf1 hb0' hf2 hw2 hq0 h1 h2 h3 hg hv hn1 hn2 hn3
  go_enter Tryz.func20, Tryz.ntmps20
  go_upto_region 1 with fail
  rw [← HW2.out, ← HQ0.out]
  -- the names
  have hown0 : (w2.alloc (.cells #[] 9)).ownsRow w2.heap.size 9 1 (.slice (some ⟨w2.heap.size, 0, none⟩) 0 0) 0 [] := owns_of_heap (cur := []) (heap_alloc_new _ _) (Nat.le_refl _) rfl (Nat.le_refl _) (by decide) rfl
  have hfa := Fr.alloc w2 (.cells #[] 9)
  have HO0 := Lib.hid hown0
  have HFA := Lib.hid hfa
  have HS1 := Lib.hid (fun wx (hfx : Fr [] w2 wx) => strs_src (H1.out.below hfx))
  obtain ⟨x0, x1, x2, -⟩ := three_of_heap (hfa.heap HB0.out (by simp))
  clear hown0 hfa
  go_upto_region 2 with (at_builtin; refine wpL_appendE rfl _ _ 22 rfl w2.heap.size 9 iS (.string ⟨#[]⟩) 1 16 Tryz.underlying22 hiS hs0 hs1 hs2 rfl (by decide) _ 0 _ rfl HO0.out (.slice (some ⟨b1, o1, none⟩) n1 c1) n1 (g.names.map encStr) rfl (by rw [List.length_map, HN1.out, Nat.mul_one]) (by intro u hu; obtain ⟨y, -, rfl⟩ := List.mem_map.1 hu; rfl) (.inr ⟨_, _, rfl, HS1.out _ HFA.out⟩) (by omega) (by simp only [maxLen]; omega) (by simp) ?_; intro v3 w3 hown3 hf3)
  rw [Nat.zero_add, List.nil_append] at hown3
  have hf23 := Fr.own HFA.out HO0.out hf3
  have HF23 := Lib.hid hf23
  have HOWN3 := Lib.hid hown3
  clear hown3 hf3 hf23 x0 x1 x2 HO0 HFA HS1
  -- the terminals
  have hown0 : (w3.alloc (.cells #[] 9)).ownsRow w3.heap.size 9 1 (.slice (some ⟨w3.heap.size, 0, none⟩) 0 0) 0 [] := owns_of_heap (cur := []) (heap_alloc_new _ _) (Nat.le_refl _) rfl (Nat.le_refl _) (by decide) rfl
  have hfa := Fr.alloc w3 (.cells #[] 9)
  have HO0 := Lib.hid hown0
  have HFA := Lib.hid hfa
  have HS2 := Lib.hid (fun wx (hfx : Fr [] w2 wx) => strs_src (H2.out.below hfx))
  obtain ⟨x0, x1, x2, -⟩ := three_of_heap ((HF23.out.trans hfa (by simp) (n := []) (by simp)).heap HB0.out (by simp))
  clear hown0 hfa
  go_upto_region 3 with (at_builtin; refine wpL_appendE rfl _ _ 22 rfl w3.heap.size 9 iS (.string ⟨#[]⟩) 1 16 Tryz.underlying22 hiS hs0 hs1 hs2 rfl (by decide) _ 0 _ rfl HO0.out (.slice (some ⟨b2, o2, none⟩) n2 c2) n2 (g.terms.map encStr) rfl (by rw [List.length_map, HN2.out, Nat.mul_one]) (by intro u hu; obtain ⟨y, -, rfl⟩ := List.mem_map.1 hu; rfl) (.inr ⟨_, _, rfl, HS2.out _ (HF23.out.trans HFA.out (by simp) (by simp))⟩) (by omega) (by simp only [maxLen]; omega) (by simp) ?_; intro v4 w4 hown4 hf4)
  rw [Nat.zero_add, List.nil_append] at hown4
  have hf34 := Fr.own HFA.out HO0.out hf4
  have HF24 := Lib.hid (HF23.out.trans hf34 (by simp) (n := []) (by simp))
  obtain ⟨gN, cN, rfl, hgN, hgN2, -, -⟩ := owns_get HOWN3.out a ha
  obtain ⟨gT, cT, rfl, hgT, hgT2, -, -⟩ := owns_get hown4 c hc
  have HGN := Lib.hid (show w2.heap.size ≤ gN from hgN)
  have HGT := Lib.hid (show w2.heap.size ≤ gT by have := HF23.out.size; omega)
  have HNE := Lib.hid (show gN ≠ gT by omega)
  have hon := owns_kept HOWN3.out hf34 (by simp)
  have HOWT := Lib.hid hown4
  clear hown4 hf4 hf34 hgN hgN2 hgT hgT2 x0 x1 x2 HO0 HFA HS2 HF23
  have nget : ∀ j, j < n1 → (g.names.map encStr)[j]? = some (encStr (g.names.getD j [])) := fun j hj => by
    have hj' : j < g.names.length := by rw [← HN1.out]; exact hj
    rw [List.getElem?_map, List.getElem?_eq_getElem hj', getD_lt hj']
    rfl
  have tget : ∀ j, j < n2 → (g.terms.map encStr)[j]? = some (encStr (g.terms.getD j [])) := fun j hj => by
    have hj' : j < g.terms.length := by rw [← HN2.out]; exact hj
    rw [List.getElem?_map, List.getElem?_eq_getElem hj', getD_lt hj']
    rfl
  obtain ⟨_, _, e0, -, -, fa, ca⟩ := owns_get hon a ha
  cases e0
  obtain ⟨_, _, e0, -, -, fb, cb⟩ := owns_get hon b hb
  cases e0
  rw [nget a ha] at ca
  rw [nget b hb] at cb
  obtain ⟨xa, hxa⟩ : ∃ x, x = g.names.getD a [] := ⟨_, rfl⟩
  obtain ⟨xb, hxb⟩ : ∃ x, x = g.names.getD b [] := ⟨_, rfl⟩
  rw [← hxa] at ca
  rw [← hxb] at cb
  have HXA := Lib.hid hxa
  have HXB := Lib.hid hxb
  have HON := Lib.hid hon
  have NGET := Lib.hid nget
  have TGET := Lib.hid tget
  clear hxa hxb hon nget tget
  go_upto_region 5 with fail
  obtain ⟨w5, hw5⟩ : ∃ w5, w5 = w4.setCell ⟨gN, a, none⟩ (encStr xb) := ⟨_, rfl⟩
  have hon5 := owns_set HON.out a (encStr xb)
  have hf45 := Fr.set0 w4 gN a (encStr xb)
  rw [← hw5] at hon5 hf45 ⊢
  clear fa fb ca cb
  obtain ⟨_, _, e0, -, -, fb, cb⟩ := owns_get hon5 b hb
  cases e0
  have cb' : ∃ u, w5.cell? ⟨gN, b, none⟩ = some u := by
    rw [cb, List.getElem?_eq_getElem (by rw [List.length_set, List.length_map, ← HN1.out]; exact hb)]
    exact ⟨_, rfl⟩
  obtain ⟨u, cb'⟩ := cb'
  have HON5 := Lib.hid hon5
  have HF45 := Lib.hid hf45
  clear hon5 hf45 hw5 cb
  go_upto_region 6 with fail
  have hon6 := owns_set HON5.out b (encStr xa)
  have hf56 := Fr.set0 w5 gN b (encStr xa)
  obtain ⟨w6, hw6⟩ : ∃ w6, w6 = w5.setCell ⟨gN, b, none⟩ (encStr xa) := ⟨_, rfl⟩
  rw [show Value.string { data := xa.toArray } = encStr xa from rfl, ← hw6]
  rw [← hw6] at hon6 hf56
  have hf46 := HF45.out.trans hf56 (fun _ hi _ => hi) (n := [gN]) (fun _ hi _ => hi)
  have hn6 : w6.ownsRow w2.heap.size 9 1 (.slice (some ⟨gN, 0, none⟩) n1 cN) n1 ((swapL g.names a b).map encStr) := by
    rw [show (swapL g.names a b).map encStr = ((g.names.map encStr).set a (encStr xb)).set b (encStr xa) by unfold swapL; rw [← HXA.out, ← HXB.out, List.map_set, List.map_set]]
    exact hon6
  have ht6 := owns_kept HOWT.out hf46 (by simp [Value.ownBlock]; exact fun e => HNE.out e.symm)
  have HN6 := Lib.hid hn6
  have HF26 := Lib.hid (HF24.out.trans hf46 (by simp) (n := []) (fun i hi hlt => by have := HGN.out; simp at hi; omega))
  clear hon6 hf56 hw6 hf46 hn6 fb cb' HON5 HF45 HON HXA HXB HOWN3 HOWT HF24
  -- the terminals swapped
  obtain ⟨_, _, e0, -, -, fc, cc⟩ := owns_get ht6 c hc
  cases e0
  obtain ⟨_, _, e0, -, -, fd, cd⟩ := owns_get ht6 d hd
  cases e0
  rw [TGET.out c hc] at cc
  rw [TGET.out d hd] at cd
  obtain ⟨xc, hxc⟩ : ∃ x, x = g.terms.getD c [] := ⟨_, rfl⟩
  obtain ⟨xd, hxd⟩ : ∃ x, x = g.terms.getD d [] := ⟨_, rfl⟩
  rw [← hxc] at cc
  rw [← hxd] at cd
  have HXC := Lib.hid hxc
  have HXD := Lib.hid hxd
  have HOT := Lib.hid ht6
  clear hxc hxd ht6
  go_upto_region 8 with fail
  obtain ⟨w7, hw7⟩ : ∃ w7, w7 = w6.setCell ⟨gT, c, none⟩ (encStr xd) := ⟨_, rfl⟩
  have hon7 := owns_set HOT.out c (encStr xd)
  have hf67 := Fr.set0 w6 gT c (encStr xd)
  rw [← hw7] at hon7 hf67 ⊢
  clear fc fd cc cd
  obtain ⟨_, _, e0, -, -, fd, cd⟩ := owns_get hon7 d hd
  cases e0
  have cd' : ∃ u, w7.cell? ⟨gT, d, none⟩ = some u := by
    rw [cd, List.getElem?_eq_getElem (by rw [List.length_set, List.length_map, ← HN2.out]; exact hd)]
    exact ⟨_, rfl⟩
  obtain ⟨u, cd'⟩ := cd'
  have HON7 := Lib.hid hon7
  have HF67 := Lib.hid hf67
  clear hon7 hf67 hw7 cd
  go_upto_region 9 with fail
  have hon8 := owns_set HON7.out d (encStr xc)
  have hf78 := Fr.set0 w7 gT d (encStr xc)
  obtain ⟨w8, hw8⟩ : ∃ w8, w8 = w7.setCell ⟨gT, d, none⟩ (encStr xc) := ⟨_, rfl⟩
  rw [show Value.string { data := xc.toArray } = encStr xc from rfl, ← hw8]
  rw [← hw8] at hon8 hf78
  have hf68 := HF67.out.trans hf78 (fun _ hi _ => hi) (n := [gT]) (fun _ hi _ => hi)
  have HT8 := Lib.hid (show w8.ownsRow w3.heap.size 9 1 (.slice (some ⟨gT, 0, none⟩) n2 cT) n2 ((swapL g.terms c d).map encStr) by
    rw [show (swapL g.terms c d).map encStr = ((g.terms.map encStr).set c (encStr xd)).set d (encStr xc) by unfold swapL; rw [← HXC.out, ← HXD.out, List.map_set, List.map_set]]
    exact hon8)
  have HN8 := Lib.hid (owns_kept HN6.out hf68 (by simp [Value.ownBlock]; exact HNE.out))
  have HF28 := Lib.hid (HF26.out.trans hf68 (by simp) (n := []) (fun i hi hlt => by have := HGT.out; simp at hi; omega))
  clear hon8 hf78 hw8 hf68 fd cd' HON7 HF67 HOT HXC HXD HN6 HF26 NGET TGET
  go_wp2_with fail
  go_loopw [19, 20] (SwRel w8 g a b c d i k) (fun _ iv _ => n3 - (intOf iv).toNat)
  case atStart => exact ⟨0, [], Nat.zero_le _, rfl, RuRow.nil _ _, Fr.refl _ _⟩
  case round =>
    obtain ⟨n, vs, hn, rfl, hru, hf⟩ := hrel
    have hn2 : n ≤ n3 := by rw [HN3.out]; exact hn
    have HRU := Lib.hid hru
    have HF := Lib.hid hf
    have hf2r := HF28.out.trans hf (by simp) (n := []) (by simp)
    have HF2R := Lib.hid hf2r
    obtain ⟨x0, x1, x2, -⟩ := three_of_heap (hf2r.heap HB0.out (by simp))
    by_cases hnn : n < n3
    · have hd1 : decide (n < n3) = true := decide_eq_true hnn
      have hml : atS i k n < n3 := atS_lt hi hk hnn
      obtain ⟨m, hm⟩ : ∃ m, m = atS i k n := ⟨_, rfl⟩
      rw [← hm] at hml
      have HM := Lib.hid hm
      have hmr : m < g.rules.length := by rw [← HN3.out]; exact hml
      obtain ⟨p, off, v, rfl, k0, k1, hv⟩ := rule_cells H3.out m hmr
      have k0 := hf2r.cell k0 (by simp)
      have K1 := Lib.hid k1
      have hgd : g.rules.getD (atS i k n) ⟨0, []⟩ = g.rules[m]'hmr := by rw [← HM.out]; simp [List.getD, List.getElem?_eq_getElem hmr]
      obtain ⟨x, hx⟩ : ∃ x, x = g.rules[m]'hmr := ⟨_, rfl⟩
      have hrl := HV.out.rules _ (List.getElem_mem hmr)
      rw [← hx] at k0 hv hgd hrl
      obtain ⟨a4, c4, rfl, hle4, hmx4⟩ := hv.form
      have HRV := Lib.hid hv
      have HGD := Lib.hid hgd
      obtain ⟨n4, hn4⟩ : ∃ n4, n4 = x.right.length := ⟨_, rfl⟩
      obtain ⟨lf, hlf⟩ : ∃ lf, lf = x.left := ⟨_, rfl⟩
      have HN4 := Lib.hid hn4
      have HLF := Lib.hid hlf
      rw [← hn4] at HRV K1 hle4 hrl
      rw [← hlf] at k0
      have h64 : n4 ≤ 64 := hrl.2.2.1
      have HSYM := Lib.hid hrl.2.2.2
      clear hx hgd hn4 hlf hv hru hf hf2r hn k1 hm hrl
      go_upto_if 73 with fail
      go_cut [21] (fun s wx => s = .int .i64 (m : Int) ∧ wr = wx)
      case first =>
        have hme := HM.out
        unfold atS at hme
        by_cases e1 : n = i
        · have d1 : ((n : Int) == (i : Int)) = true := by rw [e1]; simp
          rw [if_pos e1] at hme
          have HME := Lib.hid hme
          clear hme e1
          go_wp2_with fail
          go_meet
          exact ⟨by rw [HME.out], rfl⟩
        · have d1 : ((n : Int) == (i : Int)) = false := by rw [beq_eq_false_iff_ne]; omega
          rw [if_neg e1] at hme
          clear e1
          by_cases e2 : n = k
          · have d2 : ((n : Int) == (k : Int)) = true := by rw [e2]; simp
            rw [if_pos e2] at hme
            have HME := Lib.hid hme
            clear hme e2
            go_wp2_with fail
            go_meet
            exact ⟨by rw [HME.out], rfl⟩
          · have d2 : ((n : Int) == (k : Int)) = false := by rw [beq_eq_false_iff_ne]; omega
            rw [if_neg e2] at hme
            have HME := Lib.hid hme
            clear hme e2
            go_wp2_with fail
            go_meet
            exact ⟨by rw [HME.out], rfl⟩
      case rest =>
        obtain ⟨rfl, rfl⟩ := hcut
        go_upto_region 19 with (go_at_call 45; refine (cchange_any _ _ _ _).mono ?_; rintro e w9 ⟨rfl, hw9⟩; subst hw9)
        obtain ⟨w9, hw9⟩ : ∃ w9, w9 = wr.alloc (.cells #[.int .i64 (chI lf (a : Int) (b : Int)), .slice none 0 0] 49) := ⟨_, rfl⟩
        obtain ⟨q, hq⟩ : ∃ q, q = wr.heap.size := ⟨_, rfl⟩
        have hb9 := two_of_new wr (.int .i64 (chI lf (a : Int) (b : Int))) (.slice none 0 0) 49
        have hf9 := Fr.alloc wr (.cells #[.int .i64 (chI lf (a : Int) (b : Int)), .slice none 0 0] 49)
        rw [← hw9] at hb9 hf9
        rw [← hq] at hb9
        rw [← hw9, ← hq]
        have HB9 := Lib.hid hb9
        have HF9 := Lib.hid hf9
        have HQ := Lib.hid hq
        obtain ⟨l', hl'⟩ : ∃ l', l' = chI lf (a : Int) (b : Int) := ⟨_, rfl⟩
        rw [← hl'] at HB9
        have HL' := Lib.hid hl'
        obtain ⟨F, hF⟩ : ∃ F : Int → Int, F = fun s => chI (chI s (a : Int) (b : Int)) (-1 - (c : Int)) (-1 - (d : Int)) := ⟨_, rfl⟩
        have HFF := Lib.hid hF
        have HFS := Lib.hid (show ∀ s, F s = chI (chI s (a : Int) (b : Int)) (-1 - (c : Int)) (-1 - (d : Int)) from fun s => by rw [hF])
        clear hw9 hb9 hf9 hl' hF x0 x1 x2 k0 hq
        go_wp2_with fail
        go_loopw [23] (SjRel wr q l' F x.right) (fun iv _ => n4 - (intOf iv).toNat)
        case atStart => exact ⟨0, _, Nat.zero_le _, rfl, HB9.out, World.ownsRow_nil _ _ _ _, HF9.out⟩
        case round =>
          obtain ⟨j, rgv, hj, rfl, hbx, hrow, hfj⟩ := hrel
          have hj2 : j ≤ n4 := by rw [HN4.out]; exact hj
          have hf2j := HF2R.out.trans hfj (by simp) (n := []) (by simp)
          have HF2J := Lib.hid hf2j
          have HFJ := Lib.hid hfj
          have HBX := Lib.hid hbx
          have HROW := Lib.hid hrow
          obtain ⟨x0, x1, x2, -⟩ := three_of_heap (hf2j.heap HB0.out (by simp))
          have k1 := hf2j.cell K1.out (by simp)
          by_cases hjn : j < n4
          · have hd4 : decide (j < n4) = true := decide_eq_true hjn
            have hjr : j < x.right.length := by rw [← HN4.out]; exact hjn
            obtain ⟨_, _, rfl, g0⟩ := int_cell (HRV.out.below hf2j) j hjr
            have HTK := Lib.hid (show ((x.right.take (j + 1)).map F).map intV = ((x.right.take j).map F).map intV ++ [intV (F (x.right[j]'hjr))] by rw [List.take_succ_eq_append_getElem hjr, List.map_append, List.map_append]; rfl)
            obtain ⟨s, hs⟩ : ∃ s, s = x.right[j]'hjr := ⟨_, rfl⟩
            rw [← hs] at g0 HTK
            clear hs hbx hrow hfj hf2j hj
            go_upto_region 23 with (go_at_call 45; refine (cchange_any _ _ _ _).mono ?_; rintro e w10 ⟨rfl, hw10⟩; subst hw10)
            clear g0 k1 x0 x1 x2
            obtain ⟨ar, cr, rfl, hcr, hmr2⟩ := owns_slice HROW.out
            refine wp_region_Z (Value.slice ar j cr).ownBlock.toList 11 [(0, false), (1, false), (2, false), (3, false), (4, false), (5, false), (6, false), (7, true), (8, true), (9, true), (10, false), (11, true)] 131 rfl (by kernel_rfl) (by kernel_rfl) (by kernel_rfl) (fun c a d v w h => by cases d <;> exact h) (fun w10 hf10 => ?_)
            simp only [List.map_cons, List.map_nil, List.getElem?_toArray, List.getElem?_cons_succ, List.getElem?_cons_zero, Option.getD_some]
            have hrow10 := owns_kept HROW.out hf10 (by simp)
            have hbx10 := hf10.heap HBX.out (by simp)
            have hqn : q ∉ (Value.slice ar j cr).ownBlock.toList := fun hm => notT_row hrow10 (t := 49) (by decide) q hm _ _ _ hbx10 rfl
            have LA : Hid (Later (Value.slice ar j cr).ownBlock.toList w10 (fun w' => w'.heap[q]? = some (.cells #[.int .i64 l', .slice ar j cr] 49 (0, 0)))) := Lib.hid (fun w' hf' => hf'.heap hbx10 hqn)
            have HR10 := Lib.hid hrow10
            have HF10 := Lib.hid (HFJ.out.trans hf10 (by simp) (n := []) (by simp))
            have HQN := Lib.hid hqn
            clear hf10 hrow10 hbx10 hqn
            iterate 7 (apply walkZ_t; · (intro w' hf'; obtain ⟨z0, z1, -⟩ := two_of_box2 (LA.out w' hf'); go_wp2_with fail; exact ⟨rfl, rfl⟩))
            refine walkZ_x ?_
            go_wp2_with (go_at_call 45; refine (cchange_any _ _ _ _).mono ?_; rintro e w11 ⟨rfl, hw11⟩; subst hw11)
            refine ⟨.inr (Fr.refl _ _), rfl, ?_⟩
            refine walkZ_x ?_
            go_wp2_with fail
            rw [← HFS.out s]
            obtain ⟨s', hs'⟩ : ∃ s', s' = F s := ⟨_, rfl⟩
            rw [← hs']
            rw [← hs'] at HTK
            have hfe := Fr.alloc w10 (.cells #[.int .i64 s'] 3)
            have HFE := Lib.hid hfe
            refine ⟨hfe.mono (by simp), rfl, ?_⟩
            clear hfe hs'
            refine walkZ_x ?_
            have hB10 : q ≤ w10.heap.size := Nat.le_of_lt (Array.getElem?_eq_some_iff.1 (LA.out w10 (Fr.refl _ _))).1
            go_wp2_with (at_builtin; refine wpL_appendS rfl _ _ 47 rfl q 3 iI _ 1 8 Tryz.underlying47 hiI hi0 hi1 hi2 (by rfl) (by decide) (.slice ar j cr) j _ rfl HR10.out [.int .i64 s'] rfl (by intro u hu; simp at hu; rcases hu with rfl; rfl) rfl (by omega) (by simp [maxLen]; omega) hB10 ?_; intro v11 w11 hown11 hf11 hb11)
            obtain ⟨ar', cr', rfl, hcr', hmr'⟩ := owns_slice hown11
            have hfT : Fr (Value.slice ar j cr).ownBlock.toList w10 w11 := HFE.out.trans hf11 (by simp) (fun _ hk _ => hk)
            refine ⟨hf11, rfl, ?_⟩
            have hbx11 := LA.out w11 hfT
            have HOW11 := Lib.hid hown11
            have HFT := Lib.hid hfT
            clear hf11 hown11 hb11 hfT hB10
            apply walkZ_t
            · intro w' hf'
              go_wp2_with fail
              exact ⟨rfl, rfl⟩
            refine walkZ_x ?_
            obtain ⟨z0, z1, f0, f1⟩ := two_of_box2 hbx11
            go_wp2_with fail
            refine ⟨rfl, ?_⟩
            refine walkZ_end ?_
            have hbx12 := heap_setCell_same hbx11 (i := 1) (.slice ar' (j + 1) cr')
            have hset := Fr.set0 w11 q 1 (.slice ar' (j + 1) cr')
            have hrow12 := owns_keptT HOW11.out (notT_box hbx11 (by decide)) hset
            have hf11 := HF10.out.trans HFT.out (by simp) (n := []) (fun i hi hlt => by
              have h1 := (HR10.out.lt i (Option.mem_toList.1 hi)).1
              have := HQ.out
              omega)
            have hf12 := hf11.trans hset (by simp) (n := []) (fun i hi hlt => by have := HQ.out; simp at hi; omega)
            have HX12 := Lib.hid hbx12
            have HR12 := Lib.hid hrow12
            have HF12 := Lib.hid hf12
            clear hbx12 hset hrow12 hf11 hf12 hbx11 z0 z1 f0 f1
            go_wp2_with fail
            exact ⟨⟨j + 1, _, hjr, by go_num, HX12.out, by rw [HTK.out]; exact HR12.out, HF12.out⟩, by simp [intOf]; omega⟩
          · have hd4 : decide (j < n4) = false := decide_eq_false hjn
            have hjl : j = x.right.length := by rw [← HN4.out]; omega
            rw [hjl, List.take_length] at hrow
            obtain ⟨ar, cr, rfl, hcr, hmr2⟩ := owns_slice hrow
            have HROW2 := Lib.hid hrow
            obtain ⟨y0, y1, -⟩ := two_of_box2 hbx
            have hruj := HRU.out.below hfj
            obtain ⟨av, cv, rfl, hcv, hmv⟩ := owns_slice hruj.rules
            rw [swTo_len] at hruj hcv ⊢
            have HRJ := Lib.hid hruj
            clear hrow hbx hfj hf2j hj hruj
            have hgeq : w8.heap.size ≤ q := by rw [HQ.out]; exact HF.out.size
            have hgew : w8.heap.size ≤ wr.heap.size := by have := HF.out.size; have := HFJ.out.size; omega
            have HTW := Lib.hid (swTo_next g a b c d i k n)
            rw [HGD.out] at HTW
            have hrg : renG a b c d x = ⟨l', x.right.map F⟩ := by
              rw [HL'.out, HLF.out, HFF.out]
              rfl
            rw [hrg] at HTW
            have HKR := Lib.hid (show wr.ownsRow w8.heap.size 3 1 (.slice ar x.right.length cr) (x.right.map F).length ((x.right.map F).map intV) by
              rw [List.length_map]
              exact owns_base HROW2.out (fun jj hjj => Nat.le_trans hgeq (HROW2.out.lt jj hjj).1))
            obtain ⟨nr, hnr⟩ : ∃ nr, nr = x.right.length := ⟨_, rfl⟩
            rw [← hnr] at HKR y1
            have hrules := HRJ.out.rules
            rw [swTo_len] at hrules
            clear hgeq hrg hnr hjl
            go_wp2_with (at_builtin; refine wpL_appendS rfl _ _ 23 rfl w8.heap.size 49 iR _ 2 32 Tryz.underlying23 hiR hr0 hr1 hr2 (by rfl) (by decide) (.slice av n cv) n _ rfl hrules [.int .i64 l', .slice ar nr cr] rfl (by intro u hu; simp at hu; rcases hu with rfl | rfl <;> rfl) rfl (by omega) (by simp [maxLen]; omega) hgew ?_; intro v13 w13 hown13 hf13 hb13)
            have hfT := (Fr.alloc wr (.cells [Value.int .i64 l', .slice ar nr cr].toArray 49)).trans hf13 (by simp) (n := (Value.slice av n cv).ownBlock.toList) (fun _ hi _ => hi)
            have hadd := RuRow.add HRJ.out ⟨l', x.right.map F⟩ (kv := .slice ar nr cr) HKR.out (by rw [swTo_len]; exact hown13) hfT
            refine ⟨⟨n + 1, _, by rw [← HN3.out]; exact hnn, by go_num, by rw [HTW.out]; exact hadd, ?_⟩, by simp [intOf]; omega⟩
            refine (HF.out.trans HFJ.out (by simp) (n := []) (by simp)).trans hfT (by simp) (fun ii hi hlt => ?_)
            have := (HRJ.out.rules.lt ii (Option.mem_toList.1 hi)).1
            omega
    · have hd1 : decide (n < n3) = false := decide_eq_false hnn
      have hnl : n = g.rules.length := by rw [← HN3.out]; omega
      obtain ⟨av, cv, rfl, hcv, hmv⟩ := owns_slice hru.rules
      have hb8 := hf2r.heap HB1.out (by simp)
      obtain ⟨z0, z1, z2, y0, y1, y2⟩ := three_of_heap hb8
      have HNL := Lib.hid hnl
      have HB8 := Lib.hid hb8
      rw [swTo_len] at hcv
      clear hru hf hf2r hn hnl hb8
      go_wp2_with fail
      have hset := fr_set3S wr (q0 + 1) (.slice (some ⟨gN, 0, none⟩) n1 cN) (.slice (some ⟨gT, 0, none⟩) n2 cT) (.slice av (swTo g a b c d i k n).length cv)
      have hh := gram_setS HB8.out (.slice (some ⟨gN, 0, none⟩) n1 cN) (.slice (some ⟨gT, 0, none⟩) n2 cT) (.slice av (swTo g a b c d i k n).length cv)
      have hnn1 := owns_keptT (owns_kept HN8.out HF.out (by simp)) (notT_box HB8.out (by decide)) hset
      have htt1 := owns_keptT (owns_kept HT8.out HF.out (by simp)) (notT_box HB8.out (by decide)) hset
      have hrr1 := HRU.out.keptT (notT_box HB8.out (by decide)) (notT_box HB8.out (by decide)) hset
      refine bodyPost_ret (results_cell_row rfl _ _ (q0 + 1) 25 #[.slice (some ⟨gN, 0, none⟩) n1 cN, .slice (some ⟨gT, 0, none⟩) n2 cT, .slice av (swTo g a b c d i k n).length cv] (0, 0) _ rfl hh Tryz.underlying25 rfl sizeGramS) rfl ⟨_, rfl, ?_, ?_⟩
      · refine ⟨_, _, _, rfl, ?_, ?_, ?_⟩
        · exact cellsAt_of_owns (by rw [show ((swapG g a b c d i k).names.map encStr).length = n1 by show ((swapL g.names a b).map encStr).length = n1; rw [List.length_map, swap_len, ← HN1.out]]; exact hnn1)
        · exact cellsAt_of_owns (by rw [show ((swapG g a b c d i k).terms.map encStr).length = n2 by show ((swapL g.terms c d).map encStr).length = n2; rw [List.length_map, swap_len, ← HN2.out]]; exact htt1)
        · have := hrr1.at
          rw [show (swapG g a b c d i k).rules = swTo g a b c d i k n by rw [HNL.out]; rfl]
          exact this
      · exact ((HF2.out.trans HF2R.out (by simp) (n := []) (by simp)).trans hset (by simp) (fun ii hi hlt => by have := HQ0.out; simp at hi; omega))
end Go.Proofs.YtgfpkmnmdehkpaaGreat
