/- Rules that a call makes: a row of the call's own that grows, each with a right side in a row of its own. Nothing here names a function. -/
import Derived.Test.YtnaamjpiaekmeaaGreatDt
import Derived.Test.YtnaamjpiaekmeaaGreatBs
set_option linter.unusedVariables false
set_option linter.unusedSimpArgs false
namespace Go.Proofs.YtnaamjpiaekmeaaGreat
open Go.RowKit
def ruleVs (R : List RuleG) (vs : List Value) : List Value := ((R.zip vs).map fun x => [intV x.1.left, x.2]).flatten
structure RuRow (base : Nat) (rv : Value) (R : List RuleG) (vs : List Value) (wx : World) : Prop where
 rules : wx.ownsRow base 46 2 rv R.length (ruleVs R vs)
 vlen : vs.length = R.length
 right : ∀ i (h : i < vs.length) (h' : i < R.length), wx.ownsRow base 3 1 (vs[i]'h) (R[i]'h').right.length ((R[i]'h').right.map intV)
theorem RuRow.nil (base : Nat) (w : World) : RuRow base (.slice none 0 0) [] [] w := ⟨World.ownsRow_nil _ _ _ _, rfl, fun i h => by simp at h⟩
theorem RuRow.below {base : Nat} {rv : Value} {R : List RuleG} {vs : List Value} {wx wy : World} (h : RuRow base rv R vs wx) (hf : Fr [] wx wy) : RuRow base rv R vs wy :=
 ⟨owns_kept h.rules hf (by simp), h.vlen, fun i a b => owns_kept (h.right i a b) hf (by simp)⟩
theorem RuRow.base {b1 b2 : Nat} {rv : Value} {R : List RuleG} {vs : List Value} {wx : World} (h : RuRow b1 rv R vs wx) (hb : b2 ≤ b1) : RuRow b2 rv R vs wx :=
 ⟨owns_base h.rules (fun j hj => Nat.le_trans hb (h.rules.lt j hj).1), h.vlen, fun i a b => owns_base (h.right i a b) (fun j hj => Nat.le_trans hb ((h.right i a b).lt j hj).1)⟩
theorem RuRow.keptT {base : Nat} {rv : Value} {R : List RuleG} {vs : List Value} {wx wy : World} {L : List Nat} (h : RuRow base rv R vs wx) (h1 : notT wx L 46) (h2 : notT wx L 3) (hf : Fr L wx wy) : RuRow base rv R vs wy :=
 ⟨owns_keptT h.rules h1 hf, h.vlen, fun i a b => owns_keptT (h.right i a b) h2 hf⟩
theorem RuRow.at {base : Nat} {rv : Value} {R : List RuleG} {vs : List Value} {wx : World} (h : RuRow base rv R vs wx) : rulesAt wx rv R := by
 refine ⟨vs, h.vlen, elems_of_owns (by rw [List.length_map, List.length_zip, h.vlen, Nat.min_self]; exact h.rules) (fun x hx => by obtain ⟨f, _, rfl⟩ := List.mem_map.1 hx; rfl), fun i a b => ?_⟩
 exact cellsAt_of_owns (by rw [List.length_map]; exact h.right i a b)
theorem ruleVs_snoc {R : List RuleG} {vs : List Value} (h : vs.length = R.length) (r : RuleG) (v : Value) : ruleVs (R ++ [r]) (vs ++ [v]) = ruleVs R vs ++ [intV r.left, v] := by
 unfold ruleVs
 rw [List.zip_append h.symm, List.map_append, List.flatten_append]
 rfl
theorem RuRow.add {base : Nat} {rv rv' : Value} {R : List RuleG} {vs : List Value} {wx wy : World} (h : RuRow base rv R vs wx) (r : RuleG) {kv : Value} (hk : wx.ownsRow base 3 1 kv r.right.length (r.right.map intV))
  (hown : wy.ownsRow base 46 2 rv' (R.length + 1) (ruleVs R vs ++ [intV r.left, kv])) (hf : Fr rv.ownBlock.toList wx wy) : RuRow base rv' (R ++ [r]) (vs ++ [kv]) wy := by
 refine ⟨by rw [List.length_append, ruleVs_snoc h.vlen]; exact hown, by rw [List.length_append, List.length_append, h.vlen]; rfl, fun i a b => ?_⟩
 rcases Nat.lt_or_ge i R.length with q | q
 ·have q' : i < vs.length := by rw [h.vlen]; exact q
  rw [List.getElem_append_left q', List.getElem_append_left q]
  exact owns_keptT (h.right i q' q) (notT_row h.rules (by decide)) hf
 ·have e : i = R.length := by rw [List.length_append] at b; simp at b; omega
  subst e
  have e1 : (vs ++ [kv])[R.length]'a = kv := by rw [List.getElem_append_right (by rw [h.vlen]; exact Nat.le_refl _)]; simp [h.vlen]
  have e2 : (R ++ [r])[R.length]'b = r := by rw [List.getElem_append_right (Nat.le_refl _)]; simp
  rw [e1, e2]
  exact owns_keptT hk (notT_row h.rules (by decide)) hf
end Go.Proofs.YtnaamjpiaekmeaaGreat
