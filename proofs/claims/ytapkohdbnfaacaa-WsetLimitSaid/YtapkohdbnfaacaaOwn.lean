/- Rows of the call's own, objects of several cells: small laws that several layers use. Nothing here names the program. -/
import Derived.Test.YtapkohdbnfaacaaRow
set_option linter.unusedVariables false
set_option linter.unusedSimpArgs false
namespace Go.Proofs.Ytapkohdbnfaacaa
open Go.RowKit

theorem owns_slice {w : World} {base : Nat} {e : TypeId} {size : Nat} {v : Value} {n : Nat} {xs : List Value} (h : w.ownsRow base e size v n xs) : ∃ a cap, v = .slice a n cap ∧ n ≤ cap ∧ cap ≤ maxLen := by
  rcases h.2 with ⟨rfl, h0⟩ | ⟨g, cap, cur, rfl, _, _, h1, h2, _⟩
  · exact ⟨_, _, by rw [h0], by omega, by simp⟩
  · exact ⟨_, _, rfl, h1, h2⟩
/-- A row of the call's own, as a slice of elements. -/
theorem elems_of_owns {w : World} {base sz : Nat} {e : TypeId} {v : Value} {xs : List (List Value)} (h : w.ownsRow base e sz v xs.length xs.flatten) (hs : ∀ x ∈ xs, x.length = sz) : elemsAt w v sz xs := by
  have hc := fun g hg => h.cells (g := g) hg
  rcases h.2 with ⟨rfl, h0⟩ | ⟨g, cap, cur, rfl, hb, hg, hn, hm, hsz, ht⟩
  · exact .inl ⟨_, _, rfl, by simp, List.eq_nil_of_length_eq_zero h0⟩
  · refine .inr ⟨g, 0, cap, rfl, hn, hm, (Array.getElem?_eq_some_iff.1 hg).1, fun i hi => ⟨hs _ (List.getElem_mem hi), fun j u hu => ?_⟩⟩
    have hj : j < sz := by
      rw [← hs _ (List.getElem_mem hi)]
      rcases Nat.lt_or_ge j (xs[i]'hi).length with q | q
      · exact q
      · rw [List.getElem?_eq_none q] at hu; cases hu
    have key : ∀ (ys : List (List Value)) (k : Nat) (hk : k < ys.length), (∀ x ∈ ys, x.length = sz) → ys.flatten[k * sz + j]? = (ys[k]'hk)[j]? := by
      intro ys
      induction ys with
      | nil => intro k hk; simp at hk
      | cons y r ih =>
        intro k hk hall
        have hy := hall y (by simp)
        match k, hk with
        | 0, _ => simp only [List.flatten_cons, Nat.zero_mul, Nat.zero_add, List.getElem_cons_zero]; rw [List.getElem?_append_left (by omega)]
        | k + 1, hk =>
          rw [List.flatten_cons, List.getElem?_append_right (by rw [hy, Nat.add_mul]; omega)]
          simp only [List.getElem_cons_succ]
          rw [← ih k (by simpa using hk) (fun x hx => hall x (by simp [hx]))]
          congr 1
          rw [hy, Nat.add_mul]; omega
    have := hc g rfl (i * sz + j) u (by rw [key xs i hi hs]; exact hu)
    have hadd : (⟨g, 0, none⟩ : Addr).add (i * sz + j) = ⟨g, 0 + i * sz + j, none⟩ := by unfold Addr.add; split <;> simp_all
    rwa [hadd] at this

theorem three_of_heap {w : World} {p : Nat} {a b c : Value} {t : TypeId} (h : w.heap[p]? = some (.cells #[a, b, c] t (0, 0))) :
    w.cell? ⟨p, 0, none⟩ = some a ∧ w.cell? ⟨p, 1, none⟩ = some b ∧ w.cell? ⟨p, 2, none⟩ = some c ∧ w.frozen? ⟨p, 0, none⟩ = false ∧ w.frozen? ⟨p, 1, none⟩ = false ∧ w.frozen? ⟨p, 2, none⟩ = false :=
  ⟨by rw [cell_of_heap h]; rfl, by rw [cell_of_heap h]; rfl, by rw [cell_of_heap h]; rfl, free_of_heap h 0, free_of_heap h 1, free_of_heap h 2⟩

theorem four_of_heap {w : World} {p : Nat} {a b c d : Value} {t : TypeId} {fr : Nat × Nat} (h : w.heap[p]? = some (.cells #[a, b, c, d] t fr)) :
    w.cell? ⟨p, 0, none⟩ = some a ∧ w.cell? ⟨p, 1, none⟩ = some b ∧ w.cell? ⟨p, 2, none⟩ = some c ∧ w.cell? ⟨p, 3, none⟩ = some d :=
  ⟨by rw [cell_of_heap h]; rfl, by rw [cell_of_heap h]; rfl, by rw [cell_of_heap h]; rfl, by rw [cell_of_heap h]; rfl⟩
/-- 'append(s, x)', x a struct: one element of several cells onto a row that may be written, the frame from behind the element's own row. -/
theorem wpL_appendS {P : Program} {w : World} {ops : Array Oper} {rest : List Oper} {o : Oper} {a : Act} {Q : Exit → Act → World → Prop} (hgd : o.guard = none) (s x : Operand) (t : TypeId)
    (ho : o.op = .call { callee := .builtin .append, args := #[s, x], argTypes := #[t, t] }) (base : Nat) (e : TypeId) (i : TypeInfo) (z : Value) (sz bytes : Nat) (ht : P.underlying t = some (.slice e)) (hi : P.info? e = some i) (hz : i.zero = some z) (h4 : i.size = sz) (h5 : i.bytes = bytes) (hzc : z.cells.size = sz) (hsz : 0 < sz)
    (v : Value) (n : Nat) (xs : List Value) (hs : a.eval s = v) (hown : w.ownsRow base e sz v n xs) (us : List Value) (hl : us.length = sz) (hu : ∀ u ∈ us, u.oneCell' = true) (hx : a.eval x = .slice (some ⟨w.heap.size, 0, none⟩) 1 1) (hsum : (n + 1) * bytes ≤ 140737488355328) (hm : n + 1 ≤ maxLen) (hbase : base ≤ w.heap.size)
    (h : ∀ v' w', w'.ownsRow base e sz v' (n + 1) (xs ++ us) → Fr v.ownBlock.toList (w.alloc (.cells us.toArray e)) w' → (v'.ownBlock = v.ownBlock ∨ ∃ k, v'.ownBlock = some k ∧ w.heap.size ≤ k) → wpList P ops Q rest (a.put o.dst v') w') : wpList P ops Q (o :: rest) a (w.alloc (.cells us.toArray e)) := by
  refine wpList_append_own_at _ hgd s x t ho base e i z sz bytes ht hi hz h4 h5 hzc hsz v n xs hs (owns_kept hown (Fr.alloc _ _) (by simp)) ⟨w.heap.size, 0, none⟩ 1 1 us hx (by omega) ?_ hu hm hsum (by simp; omega) ?_
  · intro j y hj
    have hadd : (⟨w.heap.size, 0, none⟩ : Addr).add j = ⟨w.heap.size, j, none⟩ := by unfold Addr.add; split <;> simp_all
    rw [hadd, cell_of_heap (heap_alloc_new w _)]
    simpa using hj
  · intro v' w' h1 h2 _ h3
    refine h v' w' h1 (Fr.of_grown h2) ?_
    rcases h3 with h3 | h3
    · exact .inl h3
    · exact .inr ⟨_, h3, by simp⟩

theorem splice_step {α : Type} (L : List α) (off : Nat) (v : α) (cs : List α) (h : off + (cs.length + 1) ≤ L.length) : splice (L.set off v) (off + 1) cs = splice L off (v :: cs) := by
  have e1 : (L.set off v).take (off + 1) = L.take off ++ [v] := by
    rw [List.take_succ_eq_append_getElem (by rw [List.length_set]; omega), List.getElem_set_self, List.take_set_of_le (Nat.le_refl _)]
  have e2 : (L.set off v).drop (off + 1 + cs.length) = L.drop (off + (cs.length + 1)) := by
    rw [List.drop_set_of_lt (by omega)]
    congr 1
    omega
  rw [splice, splice, e1, e2, List.length_cons]
  simp
theorem heap_setCells {t : TypeId} {fr : Nat × Nat} (b : Nat) : ∀ (vs : List Value) (o : Nat) (w : World) (cur : List Value), o + vs.length ≤ cur.length → w.heap[b]? = some (.cells cur.toArray t fr) →
    (w.setCells b o vs).heap[b]? = some (.cells (splice cur o vs).toArray t fr)
  | [], o, w, cur, _, hw => by
    rw [World.setCells, hw]
    simp [splice]
  | v :: r, o, w, cur, h, hw => by
    rw [List.length_cons] at h
    have hs : (w.setCell ⟨b, o, none⟩ v).heap[b]? = some (.cells (cur.set o v).toArray t fr) := by
      rw [heap_setCell_same hw]
      simp
    rw [World.setCells, heap_setCells b r (o + 1) _ (cur.set o v) (by rw [List.length_set]; omega) hs, splice_step cur o v r h]
theorem Fr.setCells (b : Nat) : ∀ (vs : List Value) (o : Nat) (w : World), Fr [b] w (w.setCells b o vs)
  | [], _, _ => Fr.refl _ _
  | v :: r, o, w => (Fr.set0 w b o v).trans (Fr.setCells b r (o + 1) _) (fun _ hi _ => hi) (fun _ hi _ => hi)

theorem Fr.new {w w1 w2 : World} {B : List Nat} (h : Fr [] w w1) (k : Fr B w1 w2) (hB : ∀ i ∈ B, w.heap.size ≤ i) : Fr [] w w2 := h.trans k (by simp) (fun i hi hlt => by have := hB i hi; omega)
end Go.Proofs.Ytapkohdbnfaacaa
