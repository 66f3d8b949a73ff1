/- A box of eight cells. Nothing here names the program. -/
import Derived.Test.YtmchnaojlnjmjaaGreatBs
namespace Go.Proofs.YtmchnaojlnjmjaaGreat
open Go.RowKit

/-- A box of eight cells. -/
theorem eight_of_heap {w : World} {p : Nat} {a b c d e f g h : Value} {t : TypeId} (hp : w.heap[p]? = some (.cells #[a, b, c, d, e, f, g, h] t (0, 0))) :
    w.cell? ⟨p, 0, none⟩ = some a ∧ w.cell? ⟨p, 1, none⟩ = some b ∧ w.cell? ⟨p, 2, none⟩ = some c ∧ w.cell? ⟨p, 3, none⟩ = some d ∧ w.cell? ⟨p, 4, none⟩ = some e ∧ w.cell? ⟨p, 5, none⟩ = some f ∧ w.cell? ⟨p, 6, none⟩ = some g ∧ w.cell? ⟨p, 7, none⟩ = some h :=
  ⟨by rw [cell_of_heap hp]; rfl, by rw [cell_of_heap hp]; rfl, by rw [cell_of_heap hp]; rfl, by rw [cell_of_heap hp]; rfl, by rw [cell_of_heap hp]; rfl, by rw [cell_of_heap hp]; rfl, by rw [cell_of_heap hp]; rfl, by rw [cell_of_heap hp]; rfl⟩
theorem eight_free {w : World} {p : Nat} {cs : Array Value} {t : TypeId} (hp : w.heap[p]? = some (.cells cs t (0, 0))) :
    w.frozen? ⟨p, 0, none⟩ = false ∧ w.frozen? ⟨p, 1, none⟩ = false ∧ w.frozen? ⟨p, 2, none⟩ = false ∧ w.frozen? ⟨p, 3, none⟩ = false ∧ w.frozen? ⟨p, 4, none⟩ = false ∧ w.frozen? ⟨p, 5, none⟩ = false ∧ w.frozen? ⟨p, 6, none⟩ = false ∧ w.frozen? ⟨p, 7, none⟩ = false :=
  ⟨free_of_heap hp _, free_of_heap hp _, free_of_heap hp _, free_of_heap hp _, free_of_heap hp _, free_of_heap hp _, free_of_heap hp _, free_of_heap hp _⟩
end Go.Proofs.YtmchnaojlnjmjaaGreat
