/- A row of the call's own that is filled from its beginning: small laws that hold of every program. Nothing here names the program. -/
import Derived.Test.YtapkohdbnfaacaaOwn
set_option linter.unusedVariables false
set_option linter.unusedSimpArgs false
namespace Go.Proofs.Ytapkohdbnfaacaa
open Go.RowKit

/-- The row in block b holds the first k of these cells, and z behind them. -/
def fillAt (w : World) (b : Nat) (t : TypeId) (z : Value) (l : List Value) (k : Nat) : Prop := w.heap[b]? = some (.cells (l.take k ++ List.replicate (l.length - k) z).toArray t (0, 0))
theorem fill_zero {w : World} {b : Nat} {t : TypeId} {z : Value} {l : List Value} {n : Nat} (hn : n = l.length) (h : w.heap[b]? = some (.cells (List.replicate n z).toArray t (0, 0))) : fillAt w b t z l 0 := by
  unfold fillAt; rw [h, hn]; simp
theorem fill_free {w : World} {b : Nat} {t : TypeId} {z : Value} {l : List Value} {k : Nat} (h : fillAt w b t z l k) (i : Nat) : w.frozen? ⟨b, i, none⟩ = false := free_of_heap h i
theorem fill_cell {w : World} {b : Nat} {t : TypeId} {z : Value} {l : List Value} {k : Nat} (h : fillAt w b t z l k) (hk : k < l.length) : w.cell? ⟨b, k, none⟩ = some z := by
  have hl : (l.take k).length = k := by rw [List.length_take]; omega
  rw [cell_of_heap h]
  simp only [List.getElem?_toArray]
  rw [List.getElem?_append_right (by omega), hl, List.getElem?_replicate]
  simp; omega
theorem fill_lt {w : World} {b : Nat} {t : TypeId} {z : Value} {l : List Value} {k : Nat} (h : fillAt w b t z l k) : b < w.heap.size := (Array.getElem?_eq_some_iff.1 h).1
theorem fill_kept {w w' : World} {b : Nat} {t : TypeId} {z : Value} {l : List Value} {k : Nat} {L : List Nat} (h : fillAt w b t z l k) (hf : Fr L w w') (hb : b ∉ L) : fillAt w' b t z l k := hf.heap h hb
theorem fill_below {w w' : World} {b : Nat} {t : TypeId} {z : Value} {l : List Value} {k : Nat} (h : fillAt w b t z l k) (hf : Fr [] w w') : fillAt w' b t z l k := hf.heap h (by simp)
theorem set_fill {l : List Value} {k : Nat} {z : Value} (hk : k < l.length) : ((l.take k ++ List.replicate (l.length - k) z).toArray).setIfInBounds k (l[k]'hk) = (l.take (k + 1) ++ List.replicate (l.length - (k + 1)) z).toArray := by
  have hl : (l.take k).length = k := by rw [List.length_take]; omega
  apply Array.ext'
  simp only [List.setIfInBounds_toArray]
  rw [List.set_append_right _ _ (by omega), hl, Nat.sub_self, show l.length - k = (l.length - (k + 1)) + 1 by omega, List.replicate_succ, List.set_cons_zero, List.take_succ_eq_append_getElem hk, List.append_assoc]
  rfl
theorem fill_next {w : World} {b : Nat} {t : TypeId} {z v : Value} {l : List Value} {k : Nat} (h : fillAt w b t z l k) (hk : k < l.length) (hv : v = l[k]'hk) : fillAt (w.setCell ⟨b, k, none⟩ v) b t z l (k + 1) := by
  unfold fillAt at h ⊢
  rw [heap_setCell_same h, hv, set_fill hk]
theorem fill_end {w : World} {b : Nat} {t : TypeId} {z : Value} {l : List Value} {k : Nat} (h : fillAt w b t z l k) (hk : k = l.length) (hm : l.length ≤ maxLen) : cellsAt w (.slice (some ⟨b, 0, none⟩) l.length l.length) l := by
  subst hk
  unfold fillAt at h
  rw [List.take_length, Nat.sub_self, List.replicate_zero, List.append_nil] at h
  refine .inr ⟨b, 0, l.length, rfl, Nat.le_refl _, hm, fun i hi => ?_⟩
  rw [cell_of_heap h]
  simp [hi]
theorem fill_owns {w : World} {b base : Nat} {t : TypeId} {z : Value} {l : List Value} {k : Nat} (h : fillAt w b t z l k) (hk : k = l.length) (hm : l.length ≤ maxLen) (hb : base ≤ b) : w.ownsRow base t 1 (.slice (some ⟨b, 0, none⟩) l.length l.length) l.length l := by
  subst hk
  unfold fillAt at h
  rw [List.take_length, Nat.sub_self, List.replicate_zero, List.append_nil] at h
  exact owns_of_heap (cur := l) h hb (by simp) (Nat.le_refl _) hm (by simp)
end Go.Proofs.Ytapkohdbnfaacaa
