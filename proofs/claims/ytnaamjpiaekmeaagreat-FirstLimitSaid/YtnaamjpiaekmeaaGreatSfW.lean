/- What a sort with a comparison leaves, in plain words: worlds, rows, orders of numbers. Nothing here names the program. -/
import Derived.Test.YtnaamjpiaekmeaaGreatMn
import Derived.Test.YtnaamjpiaekmeaaGreatDt
import Derived.Test.YtnaamjpiaekmeaaGreatBs
import Derived.Shelf.SlSortCmp.Kit1
import Derived.Shelf.SlSortCmp.KitK
set_option linter.unusedVariables false
set_option linter.unusedSimpArgs false
namespace Go.Proofs.YtnaamjpiaekmeaaGreat
open Go.RowKit Go.Lib Go.Sort
def Gw (w wx : World) : Prop := ∃ q os, wx = grow (w.drewN q) os
theorem Gw.refl (w : World) : Gw w w := ⟨0, #[], by rw [grow_empty]; rfl⟩
theorem Gw.trans {a b c : World} (h : Gw a b) (k : Gw b c) : Gw a c := by
 obtain ⟨q, os, rfl⟩ := h
 obtain ⟨q', os', rfl⟩ := k
 refine ⟨q + q', os ++ os', ?_⟩
 rw [← grow_grow]
 unfold grow World.drewN
 simp [Nat.add_assoc]
theorem Gw.alloc (w : World) (o : Obj) : Gw w (w.alloc o) := ⟨0, #[o], alloc_eq_grow w o⟩
theorem Gw.drewN (w : World) (n : Nat) : Gw w (w.drewN n) := ⟨n, #[], by rw [grow_empty]⟩
theorem Gw.drew (w : World) : Gw w w.drew := ⟨1, #[], by rw [grow_empty]; rfl⟩
theorem fr_grow (w : World) (os : Array Obj) : Fr [] w (grow w os) := by
 refine ⟨rfl, rfl, rfl, by simp [grow], fun k hk _ => ?_⟩
 show (w.heap ++ os)[k]? = w.heap[k]?
 rw [Array.getElem?_append_left hk]
theorem fr_drewN (w : World) (n : Nat) : Fr [] w (w.drewN n) := ⟨rfl, rfl, rfl, Nat.le_refl _, fun _ _ _ => rfl⟩
theorem Gw.fr {w wx : World} (h : Gw w wx) : Fr [] w wx := by
 obtain ⟨q, os, rfl⟩ := h
 exact (fr_drewN w q).trans (fr_grow _ os) (by simp) (by simp)
theorem fr_putRow {α : Type} [Inhabited α] (enc : α → Value) (w : World) (b off n : Nat) (d : Array α) : Fr [b] w (putRow enc (Sort.ahead w n) b off d) := by
 refine ⟨rfl, rfl, rfl, by simp [putRow, mapBlock, Sort.ahead], fun k _ hn => ?_⟩
 show (w.heap.modify b _)[k]? = w.heap[k]?
 rw [Array.getElem?_modify, if_neg (by intro e; exact hn (by simp [e]))]
end Go.Proofs.YtnaamjpiaekmeaaGreat
