/- The program's parser (layer 13): what stands in memory. -/
import Derived.Test.YtcmgnhjffhaajaaPrsM
namespace Go.Proofs.Ytcmgnhjffhaajaa
open Go.RowKit

theorem owns_set {w : World} {base n g cap sz : Nat} {e : TypeId} {xs : List Value} (h : w.ownsRow base e sz (.slice (some ⟨g, 0, none⟩) n cap) n xs) (j : Nat) (u : Value) : (w.setCell ⟨g, j, none⟩ u).ownsRow base e sz (.slice (some ⟨g, 0, none⟩) n cap) n (xs.set j u) := by
  refine ⟨by rw [List.length_set]; exact h.1, ?_⟩
  rcases h.2 with ⟨h0, _⟩ | ⟨g', cap', cur, e1, hb, hg, hn, hm, hs, ht⟩
  · cases h0
  · cases e1
    refine .inr ⟨g, cap, cur.setIfInBounds j u, rfl, hb, heap_setCell_same hg (i := j) u, hn, hm, by simpa using hs, ?_⟩
    rw [Array.toList_setIfInBounds, List.take_set, ht]
/-- What held elements of these types holds the same. -/
def KeepT (T : List TypeId) (w1 w : World) : Prop := ∀ (k : Nat) (cs : Array Value) (t : TypeId) (fr : Nat × Nat), w1.heap[k]? = some (Obj.cells cs t fr) → t ∈ T → w.heap[k]? = some (Obj.cells cs t fr)
theorem KeepT.refl (T : List TypeId) (w : World) : KeepT T w w := fun _ _ _ _ h _ => h
theorem KeepT.fr {T : List TypeId} {w1 w w' : World} {L : List Nat} (h : KeepT T w1 w) (hf : Fr L w w') (hL : ∀ k ∈ L, w1.heap.size ≤ k ∨ ∀ t ∈ T, notT w [k] t) : KeepT T w1 w' := by
  intro k cs t fr h1 ht
  refine hf.heap (h k cs t fr h1 ht) (fun hm => ?_)
  rcases hL k hm with h2 | h2
  · have := (Array.getElem?_eq_some_iff.1 h1).1
    omega
  · exact h2 t ht k (by simp) _ _ _ (h k cs t fr h1 ht) rfl
theorem KeepT.owns {T : List TypeId} {w1 w : World} {base sz n : Nat} {e : TypeId} {v : Value} {xs : List Value} (h : KeepT T w1 w) (he : e ∈ T) (ho : w1.ownsRow base e sz v n xs) : w.ownsRow base e sz v n xs := by
  refine ⟨ho.1, ?_⟩
  rcases ho.2 with h2 | ⟨g, cap, cur, rfl, hb, hg, rest⟩
  · exact .inl h2
  · exact .inr ⟨g, cap, cur, rfl, hb, h _ _ _ _ hg he, rest⟩
theorem KeepT.items {T : List TypeId} {w1 w : World} {tI : TypeId} {base : Nat} {v : Value} {l : List ItemD} (h : KeepT T w1 w) (he : tI ∈ T) (ho : itemsR tI w1 base v l) : itemsR tI w base v l := h.owns he ho
theorem KeepT.alts {T : List TypeId} {w1 w : World} {tI tA : TypeId} {base : Nat} {v : Value} {l : List (List ItemD)} (h : KeepT T w1 w) (hI : tI ∈ T) (hA : tA ∈ T) (ho : altsR tI tA w1 base v l) : altsR tI tA w base v l := by
  obtain ⟨vs, e, hr, hi⟩ := ho
  exact ⟨vs, e, h.owns hA hr, fun i a b => h.items hI (hi i a b)⟩
theorem notT.one {w : World} {L : List Nat} {t : TypeId} {k : Nat} (h : notT w L t) (hk : k ∈ L) : notT w [k] t := fun j hj => by
  obtain rfl : j = k := by simpa using hj
  exact h j hk
abbrev pI : TypeId := 44
abbrev pA : TypeId := 42
abbrev pL : TypeId := 41
abbrev pP : TypeId := 76
def nameV (p : Nat) : Value := .func (.func 41) #[.pointer (some ⟨p, 0, none⟩)] #[]
def colonV (p : Nat) : Value := .func (.func 60) #[.pointer (some ⟨p, 0, none⟩)] #[]
def bodyV (p : Nat) : Value := .func (.func 77) #[.pointer (some ⟨p, 0, none⟩)] #[]
/-- The cells of lines whose alternatives are these values. -/
def lineC (ls : List LineD) (vs : List Value) : List Value := ((ls.zip vs).map fun p => [encStr p.1.name, p.2]).flatten
theorem lineC_len {ls : List LineD} {vs : List Value} (e : vs.length = ls.length) : (lineC ls vs).length = ls.length * 2 := by
  unfold lineC
  induction ls generalizing vs with
  | nil => simp
  | cons x r ih =>
    cases vs with
    | nil => simp at e
    | cons y q =>
      have := ih (vs := q) (by simpa using e)
      simp only [List.zip_cons_cons, List.map_cons, List.flatten_cons, List.length_append, List.length_cons, List.length_nil] at this ⊢
      omega
/-- The parser, none of whose lines is open. -/
structure NameSt (base : Nat) (w : World) (p : Nat) (ev : Value) (wh : Bool) (ls : List LineD) : Prop where
  pb : base ≤ p
  st : ∃ lv, w.heap[p]? = some (.cells #[lv, ev, .bool wh] pP (0, 0)) ∧ linesR pI pA pL w base lv ls
/-- The parser behind the name of its last line. -/
structure ColonSt (base : Nat) (w : World) (p : Nat) (ev : Value) (wh : Bool) (ls : List LineD) (n : List UInt8) : Prop where
  pb : base ≤ p
  st : ∃ lv vs, w.heap[p]? = some (.cells #[lv, ev, .bool wh] pP (0, 0)) ∧ vs.length = ls.length ∧ w.ownsRow base pL 2 lv (ls.length + 1) (lineC ls vs ++ [encStr n, .slice none 0 0]) ∧ ∀ i (h : i < vs.length) (h' : i < ls.length), altsR pI pA w base (vs[i]'h) (ls[i]'h').alts
/-- The parser within its last line. -/
structure BodySt (base : Nat) (w : World) (p : Nat) (ev : Value) (wh : Bool) (ls : List LineD) (n : List UInt8) (als : List (List ItemD)) (cur : List ItemD) : Prop where
  pb : base ≤ p
  st : ∃ lv vs av us cv, ∃ w1 w2 : World, w.heap[p]? = some (.cells #[lv, ev, .bool wh] pP (0, 0)) ∧ vs.length = ls.length ∧ w.ownsRow base pL 2 lv (ls.length + 1) (lineC ls vs ++ [encStr n, av]) ∧
    (∀ i (h : i < vs.length) (h' : i < ls.length), altsR pI pA w1 base (vs[i]'h) (ls[i]'h').alts) ∧ KeepT [pI, pA] w1 w ∧ base ≤ w1.heap.size ∧
    us.length = als.length ∧ w.ownsRow w1.heap.size pA 1 av (als.length + 1) (us ++ [cv]) ∧ (∀ i (h : i < us.length) (h' : i < als.length), itemsR pI w2 base (us[i]'h) (als[i]'h')) ∧ KeepT [pI] w2 w ∧ w1.heap.size ≤ w2.heap.size ∧ w2.heap.size ≤ w.heap.size ∧
    itemsR pI w w2.heap.size cv cur
end Go.Proofs.Ytcmgnhjffhaajaa
