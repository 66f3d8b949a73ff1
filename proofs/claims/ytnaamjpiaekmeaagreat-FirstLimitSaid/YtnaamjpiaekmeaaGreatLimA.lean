/- A grammar that a statement on limits builds (layers 20, 21): what stands in memory. -/
import Derived.Test.YtnaamjpiaekmeaaGreatRuRow
import Derived.Test.YtnaamjpiaekmeaaGreatMn
set_option linter.unusedVariables false
set_option linter.unusedSimpArgs false
namespace Go.Proofs.YtnaamjpiaekmeaaGreat
open Go.RowKit
structure LBv (w0 : World) (q : Nat) (ns ts : List (List UInt8)) (rs : List RuleG) (tv rv : Value) (vs : List Value) (wx : World) : Prop where
 box : wx.heap[q]? = some (.cells #[.slice (some ⟨w0.heap.size, 0, none⟩) ns.length ns.length, tv, rv] 25 (0, 0))
 names : wx.heap[w0.heap.size]? = some (.cells (ns.map encStr).toArray 9 (0, 0))
 terms : wx.ownsRow (w0.heap.size + 1) 9 1 tv ts.length (ts.map encStr)
 rules : RuRow w0.heap.size rv rs vs wx
 ge : w0.heap.size ≤ q
 fr : Fr [] w0 wx
theorem LBv.below {w0 : World} {q : Nat} {ns ts : List (List UInt8)} {rs : List RuleG} {tv rv : Value} {vs : List Value} {wx wy : World} (h : LBv w0 q ns ts rs tv rv vs wx) (hf : Fr [] wx wy) : LBv w0 q ns ts rs tv rv vs wy :=
 ⟨hf.heap h.box (by simp), hf.heap h.names (by simp), owns_kept h.terms hf (by simp), h.rules.below hf, h.ge, h.fr.trans hf (by simp) (by simp)⟩
theorem LBv.qt {w0 : World} {q : Nat} {ns ts : List (List UInt8)} {rs : List RuleG} {tv rv : Value} {vs : List Value} {wx : World} (h : LBv w0 q ns ts rs tv rv vs wx) : q ∉ tv.ownBlock.toList := fun hm => notT_row h.terms (t := 25) (by decide) q hm _ _ _ h.box rfl
theorem LBv.qr {w0 : World} {q : Nat} {ns ts : List (List UInt8)} {rs : List RuleG} {tv rv : Value} {vs : List Value} {wx : World} (h : LBv w0 q ns ts rs tv rv vs wx) : q ∉ rv.ownBlock.toList := fun hm => notT_row h.rules.rules (t := 25) (by decide) q hm _ _ _ h.box rfl
theorem row_ge {w : World} {base sz n : Nat} {e : TypeId} {v : Value} {xs : List Value} (h : w.ownsRow base e sz v n xs) : ∀ i ∈ v.ownBlock.toList, base ≤ i := fun i hi => (h.lt i (by simpa [Option.mem_toList] using hi)).1
theorem LBv.term {w0 : World} {q : Nat} {ns ts : List (List UInt8)} {rs : List RuleG} {tv rv : Value} {vs : List Value} {wr wA w5 : World} (h : LBv w0 q ns ts rs tv rv vs wr) (hA : Fr [] wr wA) {nm : List UInt8} {tv' : Value}
  (hn : w5.ownsRow (w0.heap.size + 1) 9 1 tv' (ts.length + 1) (ts.map encStr ++ [encStr nm])) (hf : Fr tv.ownBlock.toList wA w5) : LBv w0 q ns (ts ++ [nm]) rs tv' rv vs (w5.setCell ⟨q, 1, none⟩ tv') := by
 have hA' := h.below hA
 have hs := Fr.set0 w5 q 1 tv'
 have hbox5 := hf.heap hA'.box hA'.qt
 have hq5 : ∀ {e : TypeId}, e ≠ 25 → notT w5 [q] e := fun he => notT_box hbox5 (fun e => he e.symm)
 have hnn : w0.heap.size ∉ tv.ownBlock.toList := fun hm => by have := row_ge hA'.terms _ hm; omega
 refine ⟨heap_setCell_same hbox5 (i := 1) tv', ?_, ?_, ?_, h.ge, ?_⟩
 ·refine hs.heap (hf.heap hA'.names hnn) (fun hm => ?_)
  have e : w0.heap.size = q := by simpa using hm
  have h1 := hA'.names
  have h2 := hA'.box
  rw [← e, h1] at h2
  injection h2 with h2
  injection h2 with _ h2 _
  exact absurd h2 (by decide)
 ·have := owns_keptT hn (hq5 (by decide)) hs
  simpa using this
 ·exact ((hA'.rules.keptT (notT_row hA'.terms (by decide)) (notT_row hA'.terms (by decide)) hf)).keptT (hq5 (by decide)) (hq5 (by decide)) hs
 ·refine (hA'.fr.trans hf (by simp) (n := []) (fun i hi hlt => by have := row_ge hA'.terms i hi; omega)).trans hs (by simp) (fun i hi hlt => by have e : i = q := (by simpa using hi); have := h.ge; omega)
theorem LBv.rule {w0 : World} {q : Nat} {ns ts : List (List UInt8)} {rs : List RuleG} {tv rv : Value} {vs : List Value} {wr wA w5 : World} (h : LBv w0 q ns ts rs tv rv vs wr) (hA : Fr [] wr wA) (r : RuleG) {kv rv' : Value}
  (hr : w5.ownsRow w0.heap.size 46 2 rv' (rs.length + 1) (ruleVs rs vs ++ [intV r.left, kv])) (hk : wA.ownsRow w0.heap.size 3 1 kv r.right.length (r.right.map intV)) (hf : Fr rv.ownBlock.toList wA w5) :
  LBv w0 q ns ts (rs ++ [r]) tv rv' (vs ++ [kv]) (w5.setCell ⟨q, 2, none⟩ rv') := by
 have hA' := h.below hA
 have hs := Fr.set0 w5 q 2 rv'
 have hbox5 := hf.heap hA'.box hA'.qr
 have hq5 : ∀ {e : TypeId}, e ≠ 25 → notT w5 [q] e := fun he => notT_box hbox5 (fun e => he e.symm)
 refine ⟨heap_setCell_same hbox5 (i := 2) rv', ?_, ?_, ?_, h.ge, ?_⟩
 ·refine hs.heap (hf.heap hA'.names (fun hm => notT_row hA'.rules.rules (t := 9) (by decide) _ hm _ _ _ hA'.names rfl)) (fun hm => ?_)
  have e : w0.heap.size = q := by simpa using hm
  have h1 := hA'.names
  have h2 := hA'.box
  rw [← e, h1] at h2
  injection h2 with h2
  injection h2 with _ h2 _
  exact absurd h2 (by decide)
 ·exact owns_keptT (owns_keptT hA'.terms (notT_row hA'.rules.rules (by decide)) hf) (hq5 (by decide)) hs
 ·exact (hA'.rules.add r hk hr hf).keptT (hq5 (by decide)) (hq5 (by decide)) hs
 ·refine (hA'.fr.trans hf (by simp) (n := []) (fun i hi hlt => by have := row_ge hA'.rules.rules i hi; omega)).trans hs (by simp) (fun i hi hlt => by have e : i = q := (by simpa using hi); have := h.ge; omega)
theorem LBv.gram {w0 : World} {q : Nat} {ns ts : List (List UInt8)} {rs : List RuleG} {tv rv : Value} {vs : List Value} {wx : World} (h : LBv w0 q ns ts rs tv rv vs wx) (hm : ns.length ≤ maxLen) : gramAt wx (.agg #[.slice (some ⟨w0.heap.size, 0, none⟩) ns.length ns.length, tv, rv]) ⟨ns, ts, rs⟩ := by
 refine ⟨_, _, _, rfl, ?_, cellsAt_of_owns (by rw [List.length_map]; exact h.terms), h.rules.at⟩
 refine .inr ⟨w0.heap.size, 0, ns.length, by simp, by simp, hm, fun i hi => ?_⟩
 rw [cell_of_heap h.names]
 simp only [Nat.zero_add, List.getElem?_toArray]
 exact List.getElem?_eq_getElem hi
end Go.Proofs.YtnaamjpiaekmeaaGreat
