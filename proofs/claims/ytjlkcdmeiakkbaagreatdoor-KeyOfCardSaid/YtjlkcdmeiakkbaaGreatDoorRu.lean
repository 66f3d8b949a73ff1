/- Several texts in one: RuRow, RuIns. -/
import Derived.Test.YtjlkcdmeiakkbaaGreatDoorDt
import Derived.Test.YtjlkcdmeiakkbaaGreatDoorBs
import Derived.Test.YtjlkcdmeiakkbaaGreatDoorMm
set_option linter.unusedVariables false
set_option linter.unusedSimpArgs false
/-! Rules that a call makes: a row of the call's own that grows, each with a right side in a row of its own. Nothing here names a function. -/
namespace Go.Proofs.YtjlkcdmeiakkbaaGreatDoor
open Go.RowKit

def ruleVs (R : List RuleG) (vs : List Value) : List Value := ((R.zip vs).map fun x => [intV x.1.left, x.2]).flatten
structure RuRow (base : Nat) (rv : Value) (R : List RuleG) (vs : List Value) (wx : World) : Prop where
  rules : wx.ownsRow base 36 2 rv R.length (ruleVs R vs)
  vlen : vs.length = R.length
  right : ∀ i (h : i < vs.length) (h' : i < R.length), wx.ownsRow base 3 1 (vs[i]'h) (R[i]'h').right.length ((R[i]'h').right.map intV)
theorem RuRow.nil (base : Nat) (w : World) : RuRow base (.slice none 0 0) [] [] w := ⟨World.ownsRow_nil _ _ _ _, rfl, fun i h => by simp at h⟩
theorem RuRow.below {base : Nat} {rv : Value} {R : List RuleG} {vs : List Value} {wx wy : World} (h : RuRow base rv R vs wx) (hf : Fr [] wx wy) : RuRow base rv R vs wy :=
  ⟨owns_kept h.rules hf (by simp), h.vlen, fun i a b => owns_kept (h.right i a b) hf (by simp)⟩
theorem RuRow.base {b1 b2 : Nat} {rv : Value} {R : List RuleG} {vs : List Value} {wx : World} (h : RuRow b1 rv R vs wx) (hb : b2 ≤ b1) : RuRow b2 rv R vs wx :=
  ⟨owns_base h.rules (fun j hj => Nat.le_trans hb (h.rules.lt j hj).1), h.vlen, fun i a b => owns_base (h.right i a b) (fun j hj => Nat.le_trans hb ((h.right i a b).lt j hj).1)⟩
/-- Blocks of other types are written. -/
theorem RuRow.keptT {base : Nat} {rv : Value} {R : List RuleG} {vs : List Value} {wx wy : World} {L : List Nat} (h : RuRow base rv R vs wx) (h1 : notT wx L 36) (h2 : notT wx L 3) (hf : Fr L wx wy) : RuRow base rv R vs wy :=
  ⟨owns_keptT h.rules h1 hf, h.vlen, fun i a b => owns_keptT (h.right i a b) h2 hf⟩
theorem RuRow.at {base : Nat} {rv : Value} {R : List RuleG} {vs : List Value} {wx : World} (h : RuRow base rv R vs wx) : rulesAt wx rv R := by
  refine ⟨vs, h.vlen, elems_of_owns (by rw [List.length_map, List.length_zip, h.vlen, Nat.min_self]; exact h.rules) (fun x hx => by obtain ⟨f, _, rfl⟩ := List.mem_map.1 hx; rfl), fun i a b => ?_⟩
  exact cellsAt_of_owns (by rw [List.length_map]; exact h.right i a b)
theorem ruleVs_snoc {R : List RuleG} {vs : List Value} (h : vs.length = R.length) (r : RuleG) (v : Value) : ruleVs (R ++ [r]) (vs ++ [v]) = ruleVs R vs ++ [intV r.left, v] := by
  unfold ruleVs
  rw [List.zip_append h.symm, List.map_append, List.flatten_append]
  rfl
theorem ruleVs_len {R : List RuleG} {vs : List Value} (h : vs.length = R.length) : (ruleVs R vs).length = R.length * 2 := by
  unfold ruleVs
  rw [List.length_flatten, List.map_map]
  have : (List.map (List.length ∘ fun x : RuleG × Value => [intV x.1.left, x.2]) (R.zip vs)) = List.replicate R.length 2 := by
    refine List.ext_getElem (by simp [h]) (fun i h1 h2 => ?_)
    simp
  rw [this]
  simp
/-- One rule more. -/
theorem RuRow.add {base : Nat} {rv rv' : Value} {R : List RuleG} {vs : List Value} {wx wy : World} (h : RuRow base rv R vs wx) (r : RuleG) {kv : Value} (hk : wx.ownsRow base 3 1 kv r.right.length (r.right.map intV))
    (hown : wy.ownsRow base 36 2 rv' (R.length + 1) (ruleVs R vs ++ [intV r.left, kv])) (hf : Fr rv.ownBlock.toList wx wy) : RuRow base rv' (R ++ [r]) (vs ++ [kv]) wy := by
  refine ⟨by rw [List.length_append, ruleVs_snoc h.vlen]; exact hown, by rw [List.length_append, List.length_append, h.vlen]; rfl, fun i a b => ?_⟩
  rcases Nat.lt_or_ge i R.length with q | q
  · have q' : i < vs.length := by rw [h.vlen]; exact q
    rw [List.getElem_append_left q', List.getElem_append_left q]
    exact owns_keptT (h.right i q' q) (notT_row h.rules (by decide)) hf
  · have e : i = R.length := by rw [List.length_append] at b; simp at b; omega
    subst e
    have e1 : (vs ++ [kv])[R.length]'a = kv := by rw [List.getElem_append_right (by rw [h.vlen]; exact Nat.le_refl _)]; simp [h.vlen]
    have e2 : (R ++ [r])[R.length]'b = r := by rw [List.getElem_append_right (Nat.le_refl _)]; simp
    rw [e1, e2]
    exact owns_keptT hk (notT_row h.rules (by decide)) hf
/-- An element of a row of strings of the call's own, and what it is to write it. -/
theorem owns_get {w : World} {base n : Nat} {e : TypeId} {v : Value} {xs : List Value} (h : w.ownsRow base e 1 v n xs) (j : Nat) (hj : j < n) : ∃ g cap, v = .slice (some ⟨g, 0, none⟩) n cap ∧ base ≤ g ∧ g < w.heap.size ∧ w.frozen? ⟨g, j, none⟩ = false ∧ w.cell? ⟨g, j, none⟩ = xs[j]? := by
  rcases h.2 with ⟨-, h0⟩ | ⟨g, cap', cur, rfl, hb, hg, h1, h2, hs, ht⟩
  · omega
  · refine ⟨g, cap', rfl, hb, (Array.getElem?_eq_some_iff.1 hg).1, free_of_heap hg j, ?_⟩
    rw [cell_of_heap hg, ← ht, List.getElem?_take, if_pos (by omega)]
    simp
end Go.Proofs.YtjlkcdmeiakkbaaGreatDoor

/-! Rules of the call's own: one goes in between. Nothing here names a function. -/
namespace Go.Proofs.YtjlkcdmeiakkbaaGreatDoor
open Go.RowKit

theorem row_frontS {w : World} {base g n co sz : Nat} {e : TypeId} {xs : List Value} (h : w.ownsRow base e sz (.slice (some ⟨g, 0, none⟩) n co) n xs) (p : Nat) : ∀ j u, (xs.take p)[j]? = some u → w.cell? ((⟨g, 0, none⟩ : Addr).add j) = some u := fun j u hj => by
  have hl := (List.getElem?_eq_some_iff.1 hj).1
  rw [List.length_take] at hl
  rw [List.getElem?_take, if_pos (by omega)] at hj
  exact h.cells rfl j u hj
theorem row_backS {w : World} {base g n co sz : Nat} {e : TypeId} {xs : List Value} (h : w.ownsRow base e sz (.slice (some ⟨g, 0, none⟩) n co) n xs) (p : Nat) : ∀ j u, (xs.drop p)[j]? = some u → w.cell? ((⟨g, p, none⟩ : Addr).add j) = some u := fun j u hj => by
  rw [List.getElem?_drop] at hj
  have := h.cells rfl (p + j) u hj
  have h1 : (⟨g, 0, none⟩ : Addr).add (p + j) = ⟨g, 0 + (p + j), none⟩ := by unfold Addr.add; split <;> simp_all
  have h2 : (⟨g, p, none⟩ : Addr).add j = ⟨g, p + j, none⟩ := by unfold Addr.add; split <;> simp_all
  rw [h1] at this
  rw [h2, show p + j = 0 + (p + j) by omega]
  exact this
theorem flat_take : ∀ (l : List (RuleG × Value)) (p : Nat), ((l.map fun x => [intV x.1.left, x.2]).flatten).take (p * 2) = ((l.take p).map fun x => [intV x.1.left, x.2]).flatten
  | [], p => by simp
  | x :: l, 0 => by simp
  | x :: l, p + 1 => by
    rw [List.map_cons, List.flatten_cons, show (p + 1) * 2 = p * 2 + 1 + 1 by omega, List.take_succ_cons, List.map_cons, List.flatten_cons, ← flat_take l p]
    rfl
theorem flat_drop : ∀ (l : List (RuleG × Value)) (p : Nat), ((l.map fun x => [intV x.1.left, x.2]).flatten).drop (p * 2) = ((l.drop p).map fun x => [intV x.1.left, x.2]).flatten
  | [], p => by simp
  | x :: l, 0 => by simp
  | x :: l, p + 1 => by
    rw [List.map_cons, List.flatten_cons, show (p + 1) * 2 = p * 2 + 1 + 1 by omega, List.drop_succ_cons, ← flat_drop l p]
    rfl
theorem zip_take : ∀ (R : List RuleG) (vs : List Value) (p : Nat), (R.zip vs).take p = (R.take p).zip (vs.take p)
  | _, _, 0 => by simp
  | [], _, _ + 1 => by simp
  | _ :: _, [], _ + 1 => by simp
  | r :: R, v :: vs, p + 1 => by simp [zip_take R vs p]
theorem zip_drop : ∀ (R : List RuleG) (vs : List Value) (p : Nat), (R.zip vs).drop p = (R.drop p).zip (vs.drop p)
  | _, _, 0 => by simp
  | [], _, _ + 1 => by simp
  | _ :: _, [], _ + 1 => by simp
  | r :: R, v :: vs, p + 1 => by simp [zip_drop R vs p]
theorem ruleVs_take (R : List RuleG) (vs : List Value) (p : Nat) : (ruleVs R vs).take (p * 2) = ruleVs (R.take p) (vs.take p) := by
  unfold ruleVs
  rw [flat_take, zip_take]
theorem ruleVs_drop (R : List RuleG) (vs : List Value) (p : Nat) : (ruleVs R vs).drop (p * 2) = ruleVs (R.drop p) (vs.drop p) := by
  unfold ruleVs
  rw [flat_drop, zip_drop]
theorem ruleVs_ins {R : List RuleG} {vs : List Value} (h : vs.length = R.length) (p : Nat) (r : RuleG) (v : Value) :
    ruleVs (R.take p) (vs.take p) ++ [intV r.left, v] ++ ruleVs (R.drop p) (vs.drop p) = ruleVs (R.take p ++ r :: R.drop p) (vs.take p ++ v :: vs.drop p) := by
  unfold ruleVs
  rw [List.zip_append (by rw [List.length_take, List.length_take, h]), List.map_append, List.flatten_append, List.zip_cons_cons, List.map_cons, List.flatten_cons, List.append_assoc]
theorem right_mem {P : Value → RuleG → Prop} {R : List RuleG} {vs : List Value} (h : vs.length = R.length) : (∀ i (a : i < vs.length) (b : i < R.length), P (vs[i]'a) (R[i]'b)) ↔ ∀ x ∈ R.zip vs, P x.2 x.1 := by
  constructor
  · intro hp x hx
    obtain ⟨i, hi, rfl⟩ := List.getElem_of_mem hx
    rw [List.length_zip] at hi
    rw [List.getElem_zip]
    exact hp i (by omega) (by omega)
  · intro hp i a b
    have := hp _ (List.getElem_mem (show i < (R.zip vs).length by rw [List.length_zip]; omega))
    rw [List.getElem_zip] at this
    exact this
/-- One rule goes in at p. -/
theorem RuRow.ins {b1 b2 : Nat} {rv rv' : Value} {R : List RuleG} {vs : List Value} {wx wy : World} (h : RuRow b1 rv R vs wx) (hf : Fr [] wx wy) (p : Nat) (r : RuleG) {kv : Value} (hb : b1 ≤ b2) (hk : wx.ownsRow b1 3 1 kv r.right.length (r.right.map intV))
    (hown : wy.ownsRow b2 36 2 rv' (R.length + 1) (ruleVs (R.take p) (vs.take p) ++ [intV r.left, kv] ++ ruleVs (R.drop p) (vs.drop p))) : RuRow b1 rv' (R.take p ++ r :: R.drop p) (vs.take p ++ kv :: vs.drop p) wy := by
  have hlR : (R.take p ++ r :: R.drop p).length = R.length + 1 := by rw [List.length_append, List.length_cons, List.length_take, List.length_drop]; omega
  have hlv : (vs.take p ++ kv :: vs.drop p).length = R.length + 1 := by rw [List.length_append, List.length_cons, List.length_take, List.length_drop, h.vlen]; omega
  refine ⟨?_, by rw [hlv, hlR], ?_⟩
  · rw [hlR, ← ruleVs_ins h.vlen]
    exact owns_base hown (fun j hj => Nat.le_trans hb (hown.lt j hj).1)
  · have hold := (right_mem (P := fun v r => wy.ownsRow b1 3 1 v r.right.length (r.right.map intV)) h.vlen).1 (fun i a b => owns_kept (h.right i a b) hf (by simp))
    refine (right_mem (P := fun v r => wy.ownsRow b1 3 1 v r.right.length (r.right.map intV)) (by rw [hlv, hlR])).2 (fun x hx => ?_)
    rw [List.zip_append (by rw [List.length_take, List.length_take, h.vlen]), List.zip_cons_cons] at hx
    rcases List.mem_append.1 hx with q | q
    · rw [← zip_take] at q
      exact hold x (List.mem_of_mem_take q)
    · rcases List.mem_cons.1 q with rfl | q
      · exact owns_kept hk hf (by simp)
      · rw [← zip_drop] at q
        exact hold x (List.mem_of_mem_drop q)
end Go.Proofs.YtjlkcdmeiakkbaaGreatDoor
