/- Lines of a grammar as slices of slices (layer 13): what they read like. Nothing here names the program. -/
import Derived.Test.YtapkohdbnfaacaaMm
import Derived.Test.YtapkohdbnfaacaaStr
import Derived.Test.YtapkohdbnfaacaaRow
import Derived.Test.YtapkohdbnfaacaaOwn
set_option linter.unusedVariables false
set_option linter.unusedSimpArgs false
namespace Go.Proofs.Ytapkohdbnfaacaa
open Go.RowKit

def ItemD.cells (i : ItemD) : List Value := [.bool i.term, encStr i.text]
/-- None of these blocks holds elements of type t. -/
def notT (w : World) (L : List Nat) (t : TypeId) : Prop := ∀ k ∈ L, ∀ cs t' fr, w.heap[k]? = some (.cells cs t' fr) → t' ≠ t
theorem notT.nil (w : World) (t : TypeId) : notT w [] t := fun k hk => by cases hk
theorem owns_keptT {w w' : World} {base sz n : Nat} {e : TypeId} {v : Value} {xs : List Value} {L : List Nat} (h : w.ownsRow base e sz v n xs) (hL : notT w L e) (hf : Fr L w w') : w'.ownsRow base e sz v n xs := by
  refine owns_kept h hf (fun k hk hm => ?_)
  rcases h.2 with ⟨rfl, _⟩ | ⟨g, cap, cur, rfl, _, hg, _⟩
  · cases hk
  · obtain rfl : g = k := by simpa [Value.ownBlock] using hk
    exact hL _ hm _ _ _ hg rfl
theorem notT_row {w : World} {base sz n : Nat} {e t : TypeId} {v : Value} {xs : List Value} (h : w.ownsRow base e sz v n xs) (ht : e ≠ t) : notT w v.ownBlock.toList t := by
  intro k hk cs t' fr hh
  rw [Option.mem_toList] at hk
  rcases h.2 with ⟨rfl, _⟩ | ⟨g, cap, cur, rfl, _, hg, _⟩
  · cases hk
  · obtain rfl : g = k := by simpa [Value.ownBlock] using hk
    rw [hg] at hh
    simp only [Option.some.injEq, Obj.cells.injEq] at hh
    rw [← hh.2.1]; exact ht
theorem notT_box {w : World} {q : Nat} {cs : Array Value} {e t : TypeId} {fr : Nat × Nat} (h : w.heap[q]? = some (.cells cs e fr)) (ht : e ≠ t) : notT w [q] t := by
  intro k hk cs' t' fr' hh
  obtain rfl : k = q := by simpa using hk
  rw [h] at hh
  simp only [Option.some.injEq, Obj.cells.injEq] at hh
  rw [← hh.2.1]; exact ht
/-- A row of items. -/
def itemsR (tI : TypeId) (w : World) (base : Nat) (v : Value) (l : List ItemD) : Prop := w.ownsRow base tI 2 v l.length (l.map ItemD.cells).flatten
/-- A row of rows of items. -/
def altsR (tI tA : TypeId) (w : World) (base : Nat) (v : Value) (al : List (List ItemD)) : Prop :=
  ∃ vs : List Value, vs.length = al.length ∧ w.ownsRow base tA 1 v al.length vs ∧ ∀ i (h : i < vs.length) (h' : i < al.length), itemsR tI w base (vs[i]'h) (al[i]'h')
theorem itemsR.kept {tI : TypeId} {w w' : World} {base : Nat} {v : Value} {l : List ItemD} {L : List Nat} (h : itemsR tI w base v l) (hL : notT w L tI) (hf : Fr L w w') : itemsR tI w' base v l := owns_keptT h hL hf
theorem altsR.kept {tI tA : TypeId} {w w' : World} {base : Nat} {v : Value} {al : List (List ItemD)} {L : List Nat} (h : altsR tI tA w base v al) (h1 : notT w L tI) (h2 : notT w L tA) (hf : Fr L w w') : altsR tI tA w' base v al := by
  obtain ⟨vs, e, hr, hi⟩ := h
  exact ⟨vs, e, owns_keptT hr h2 hf, fun i a b => (hi i a b).kept h1 hf⟩
theorem altsR.below {tI tA : TypeId} {w w' : World} {base : Nat} {v : Value} {al : List (List ItemD)} (h : altsR tI tA w base v al) (hf : Fr [] w w') : altsR tI tA w' base v al := h.kept (notT.nil _ _) (notT.nil _ _) hf
theorem altsR.nil (tI tA : TypeId) (w : World) (base : Nat) : altsR tI tA w base (.slice none 0 0) [] := ⟨[], rfl, World.ownsRow_nil _ _ _ _, fun i h => by simp at h⟩
theorem altsR.slice {tI tA : TypeId} {w : World} {base : Nat} {v : Value} {al : List (List ItemD)} (h : altsR tI tA w base v al) : ∃ a c, v = .slice a al.length c ∧ al.length ≤ c ∧ c ≤ maxLen := by
  obtain ⟨vs, _, hr, _⟩ := h
  exact owns_slice hr
/-- A row of lines. -/
def linesR (tI tA tL : TypeId) (w : World) (base : Nat) (v : Value) (ls : List LineD) : Prop :=
  ∃ vs : List Value, vs.length = ls.length ∧ w.ownsRow base tL 2 v ls.length ((ls.zip vs).map fun p => [encStr p.1.name, p.2]).flatten ∧ ∀ i (h : i < vs.length) (h' : i < ls.length), altsR tI tA w base (vs[i]'h) (ls[i]'h').alts
theorem linesR.kept {tI tA tL : TypeId} {w w' : World} {base : Nat} {v : Value} {ls : List LineD} {L : List Nat} (h : linesR tI tA tL w base v ls) (h1 : notT w L tI) (h2 : notT w L tA) (h3 : notT w L tL) (hf : Fr L w w') : linesR tI tA tL w' base v ls := by
  obtain ⟨vs, e, hr, hi⟩ := h
  exact ⟨vs, e, owns_keptT hr h3 hf, fun i a b => (hi i a b).kept h1 h2 hf⟩
theorem linesR.below {tI tA tL : TypeId} {w w' : World} {base : Nat} {v : Value} {ls : List LineD} (h : linesR tI tA tL w base v ls) (hf : Fr [] w w') : linesR tI tA tL w' base v ls := h.kept (notT.nil _ _) (notT.nil _ _) (notT.nil _ _) hf
theorem linesR.nil (tI tA tL : TypeId) (w : World) (base : Nat) : linesR tI tA tL w base (.slice none 0 0) [] := ⟨[], rfl, World.ownsRow_nil _ _ _ _, fun i h => by simp at h⟩
/-- What stands in memory, whoever owns it. -/
def itemsAt (w : World) (v : Value) (l : List ItemD) : Prop := elemsAt w v 2 (l.map ItemD.cells)
def altsAt (w : World) (v : Value) (al : List (List ItemD)) : Prop := ∃ vs : List Value, vs.length = al.length ∧ cellsAt w v vs ∧ ∀ i (h : i < vs.length) (h' : i < al.length), itemsAt w (vs[i]'h) (al[i]'h')
def linesAt (w : World) (v : Value) (ls : List LineD) : Prop := ∃ vs : List Value, vs.length = ls.length ∧ elemsAt w v 2 ((ls.zip vs).map fun p => [encStr p.1.name, p.2]) ∧ ∀ i (h : i < vs.length) (h' : i < ls.length), altsAt w (vs[i]'h) (ls[i]'h').alts
theorem itemsAt.below {w w' : World} {v : Value} {l : List ItemD} (h : itemsAt w v l) (hf : Fr [] w w') : itemsAt w' v l := elemsAt.below h hf
theorem altsAt.below {w w' : World} {v : Value} {al : List (List ItemD)} (h : altsAt w v al) (hf : Fr [] w w') : altsAt w' v al := by
  obtain ⟨vs, e, hc, hi⟩ := h
  exact ⟨vs, e, hc.below hf, fun i a b => (hi i a b).below hf⟩
theorem linesAt.below {w w' : World} {v : Value} {ls : List LineD} (h : linesAt w v ls) (hf : Fr [] w w') : linesAt w' v ls := by
  obtain ⟨vs, e, hc, hi⟩ := h
  exact ⟨vs, e, elemsAt.below hc hf, fun i a b => (hi i a b).below hf⟩
theorem itemsR.at_ {tI : TypeId} {w : World} {base : Nat} {v : Value} {l : List ItemD} (h : itemsR tI w base v l) : itemsAt w v l :=
  elems_of_owns (xs := l.map ItemD.cells) (by rw [List.length_map]; exact h) (fun x hx => by obtain ⟨f, _, rfl⟩ := List.mem_map.1 hx; rfl)
theorem altsR.at_ {tI tA : TypeId} {w : World} {base : Nat} {v : Value} {al : List (List ItemD)} (h : altsR tI tA w base v al) : altsAt w v al := by
  obtain ⟨vs, e, hr, hi⟩ := h
  exact ⟨vs, e, cellsAt_of_owns (by rw [e]; exact hr), fun i a b => (hi i a b).at_⟩
theorem linesR.at_ {tI tA tL : TypeId} {w : World} {base : Nat} {v : Value} {ls : List LineD} (h : linesR tI tA tL w base v ls) : linesAt w v ls := by
  obtain ⟨vs, e, hr, hi⟩ := h
  exact ⟨vs, e, elems_of_owns (by rw [List.length_map, List.length_zip, e, Nat.min_self]; exact hr) (fun x hx => by obtain ⟨f, _, rfl⟩ := List.mem_map.1 hx; rfl), fun i a b => (hi i a b).at_⟩
theorem linesAt.form {w : World} {v : Value} {ls : List LineD} (h : linesAt w v ls) : ∃ a cap, v = .slice a ls.length cap ∧ ls.length ≤ cap ∧ cap ≤ 9223372036854775807 := by
  obtain ⟨vs, e, hc, -⟩ := h
  obtain ⟨a, c, rfl, h1, h2⟩ := elemsAt.form hc
  rw [List.length_map, List.length_zip, e, Nat.min_self] at h1 ⊢
  exact ⟨a, c, rfl, h1, by simpa [maxLen] using h2⟩
theorem altsAt.form {w : World} {v : Value} {al : List (List ItemD)} (h : altsAt w v al) : ∃ a cap, v = .slice a al.length cap ∧ al.length ≤ cap ∧ cap ≤ 9223372036854775807 := by
  obtain ⟨vs, e, hc, -⟩ := h
  obtain ⟨a, c, rfl, h1, h2⟩ := hc.form
  rw [e] at h1 ⊢
  exact ⟨a, c, rfl, h1, by simpa [maxLen] using h2⟩
theorem itemsAt.form {w : World} {v : Value} {l : List ItemD} (h : itemsAt w v l) : ∃ a cap, v = .slice a l.length cap ∧ l.length ≤ cap ∧ cap ≤ 9223372036854775807 := by
  obtain ⟨a, c, rfl, h1, h2⟩ := elemsAt.form h
  rw [List.length_map] at h1 ⊢
  exact ⟨a, c, rfl, h1, by simpa [maxLen] using h2⟩
theorem item_cells {w : World} {a0 : Option Addr} {n cap : Nat} {l : List ItemD} (h : itemsAt w (.slice a0 n cap) l) (k : Nat) (hk : k < l.length) : ∃ b off, a0 = some ⟨b, off, none⟩ ∧ w.cell? ⟨b, off + k * 2, none⟩ = some (.bool (l[k]'hk).term) ∧ w.cell? ⟨b, off + k * 2 + 1, none⟩ = some (encStr (l[k]'hk).text) := by
  rcases h with ⟨_, _, _, _, e⟩ | ⟨b, off, cap', e, _, _, hb, hcell⟩
  · rw [List.map_eq_nil_iff] at e; subst e; simp at hk
  · simp only [Value.slice.injEq, List.length_map] at e
    obtain ⟨rfl, hn, rfl⟩ := e
    obtain ⟨-, h1⟩ := hcell k (by simpa using hk)
    rw [List.getElem_map] at h1
    exact ⟨b, off, rfl, by simpa using h1 0 _ rfl, h1 1 _ rfl⟩
theorem alt_cells {w : World} {a0 : Option Addr} {n cap : Nat} {al : List (List ItemD)} (h : altsAt w (.slice a0 n cap) al) (k : Nat) (hk : k < al.length) : ∃ b off v, a0 = some ⟨b, off, none⟩ ∧ w.cell? ⟨b, off + k, none⟩ = some v ∧ itemsAt w v (al[k]'hk) := by
  obtain ⟨vs, e, hc, hi⟩ := h
  obtain ⟨b, off, rfl, -, hx⟩ := hc.get (i := k) (by omega)
  exact ⟨b, off, _, rfl, hx k (by omega), hi k (by omega) hk⟩
theorem line_cells {w : World} {a0 : Option Addr} {n cap : Nat} {ls : List LineD} (h : linesAt w (.slice a0 n cap) ls) (k : Nat) (hk : k < ls.length) : ∃ b off v, a0 = some ⟨b, off, none⟩ ∧ w.cell? ⟨b, off + k * 2, none⟩ = some (encStr (ls[k]'hk).name) ∧ w.cell? ⟨b, off + k * 2 + 1, none⟩ = some v ∧ altsAt w v (ls[k]'hk).alts := by
  obtain ⟨vs, e, hc, hi⟩ := h
  have hlen : ((ls.zip vs).map fun p => [encStr p.1.name, p.2]).length = ls.length := by rw [List.length_map, List.length_zip, e, Nat.min_self]
  rcases hc with ⟨_, _, _, _, e2⟩ | ⟨b, off, cap', e2, _, _, hb, hcell⟩
  · rw [e2] at hlen; simp at hlen; omega
  · simp only [Value.slice.injEq] at e2
    obtain ⟨rfl, hn, rfl⟩ := e2
    obtain ⟨-, h1⟩ := hcell k (by rw [hlen]; exact hk)
    rw [List.getElem_map, List.getElem_zip] at h1
    exact ⟨b, off, _, rfl, by simpa using h1 0 _ rfl, h1 1 _ rfl, hi k (by omega) hk⟩
end Go.Proofs.Ytapkohdbnfaacaa
