/- Slices of byte slices: small laws that hold of every program. Nothing here names the program. -/
import Derived.Test.YtmchnaojlnjmjaaBs
namespace Go.Proofs.Ytmchnaojlnjmjaa
open Go.RowKit

/-- The slice sv reads as these slices of bytes. -/
def partsAt (w : World) (sv : Value) (parts : List (List UInt8)) : Prop :=
  ∃ vs : List Value, cellsAt w sv vs ∧ vs.length = parts.length ∧ ∀ i (h : i < vs.length) (h' : i < parts.length), bytesAt w (vs[i]'h) (parts[i]'h')
theorem partsAt.below {w w' : World} {sv : Value} {parts : List (List UInt8)} (h : partsAt w sv parts) (hf : Fr [] w w') : partsAt w' sv parts := by
  obtain ⟨vs, h1, h2, h3⟩ := h
  exact ⟨vs, h1.below hf, h2, fun i hi hi' => (h3 i hi hi').below hf⟩
theorem partsAt.form {w : World} {sv : Value} {parts : List (List UInt8)} (h : partsAt w sv parts) : ∃ a cap, sv = .slice a parts.length cap ∧ parts.length ≤ cap ∧ cap ≤ maxLen := by
  obtain ⟨vs, h1, h2, _⟩ := h
  rw [← h2]; exact h1.form
theorem partsAt.nil (w : World) : partsAt w (.slice none 0 0) [] := ⟨[], cellsAt.nil w, rfl, by simp⟩
theorem partsAt_new1 (w : World) (v : Value) (p : List UInt8) (e : TypeId) (h : bytesAt w v p) : partsAt (w.alloc (.cells #[v] e)) (.slice (some ⟨w.heap.size, 0, none⟩) 1 1) [p] :=
  ⟨[v], cellsAt_new w [v] e 1 rfl (by simp [maxLen]), rfl, fun i hi hi' => by
    obtain rfl : i = 0 := by simp at hi; exact hi
    exact h.below (Fr.alloc _ _)⟩
theorem partsAt_new2 (w : World) (v u : Value) (p q : List UInt8) (e : TypeId) (h : bytesAt w v p) (k : bytesAt w u q) : partsAt (w.alloc (.cells #[v, u] e)) (.slice (some ⟨w.heap.size, 0, none⟩) 2 2) [p, q] :=
  ⟨[v, u], cellsAt_new w [v, u] e 2 rfl (by simp [maxLen]), rfl, fun i hi hi' => by
    match i, hi with
    | 0, _ => exact h.below (Fr.alloc _ _)
    | 1, _ => exact k.below (Fr.alloc _ _)⟩
/-- One of them: where its cell lies, and what it reads as. -/
theorem partsAt.get {w : World} {a : Option Addr} {n cap : Nat} {parts : List (List UInt8)} (h : partsAt w (.slice a n cap) parts) {i : Nat} (hi : i < parts.length) :
    ∃ b off v, a = some ⟨b, off, none⟩ ∧ w.cell? ⟨b, off + i, none⟩ = some v ∧ bytesAt w v (parts[i]'hi) := by
  obtain ⟨vs, h1, h2, h3⟩ := h
  obtain ⟨b, off, rfl, -, hc⟩ := h1.get (i := i) (by omega)
  exact ⟨b, off, vs[i]'(by omega), rfl, hc i (by omega), h3 i (by omega) hi⟩
theorem flat_take_succ (parts : List (List UInt8)) (k : Nat) (h : k < parts.length) : (parts.take (k + 1)).flatten = (parts.take k).flatten ++ (parts[k]'h) := by
  rw [List.take_succ_eq_append_getElem h, List.flatten_append]; simp
end Go.Proofs.Ytmchnaojlnjmjaa
