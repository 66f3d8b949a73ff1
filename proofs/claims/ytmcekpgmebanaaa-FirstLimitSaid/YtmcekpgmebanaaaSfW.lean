/- What a sort with a comparison leaves, in plain words: worlds, rows, orders of numbers. Nothing here names the program. -/
import Derived.Test.YtmcekpgmebanaaaMn
import Derived.Test.YtmcekpgmebanaaaDt
import Derived.Test.YtmcekpgmebanaaaBs
import Derived.Shelf.SlSortCmp.Kit1
import Derived.Shelf.SlSortCmp.KitK
set_option linter.unusedVariables false
set_option linter.unusedSimpArgs false
namespace Go.Proofs.Ytmcekpgmebanaaa
open Go.RowKit Go.Lib Go.Sort

/-- A later world in which only new blocks stand and draws were made. -/
def Gw (w wx : World) : Prop := ∃ q os, wx = grow (w.drewN q) os
theorem Gw.refl (w : World) : Gw w w := ⟨0, #[], by rw [grow_empty]; rfl⟩
theorem Gw.trans {a b c : World} (h : Gw a b) (k : Gw b c) : Gw a c := by
  obtain ⟨q, os, rfl⟩ := h
  obtain ⟨q', os', rfl⟩ := k
  refine ⟨q + q', os ++ os', ?_⟩
  rw [← grow_grow]
  unfold grow World.drewN
  simp [Nat.add_assoc]
theorem Gw.alloc (w : World) (o : Obj) : Gw w (w.alloc o) := ⟨0, #[o], alloc_eq_grow w o⟩
theorem Gw.drewN (w : World) (n : Nat) : Gw w (w.drewN n) := ⟨n, #[], by rw [grow_empty]⟩
theorem Gw.drew (w : World) : Gw w w.drew := ⟨1, #[], by rw [grow_empty]; rfl⟩
theorem fr_grow (w : World) (os : Array Obj) : Fr [] w (grow w os) := by
  refine ⟨rfl, rfl, rfl, by simp [grow], fun k hk _ => ?_⟩
  show (w.heap ++ os)[k]? = w.heap[k]?
  rw [Array.getElem?_append_left hk]
theorem fr_drewN (w : World) (n : Nat) : Fr [] w (w.drewN n) := ⟨rfl, rfl, rfl, Nat.le_refl _, fun _ _ _ => rfl⟩
theorem Gw.fr {w wx : World} (h : Gw w wx) : Fr [] w wx := by
  obtain ⟨q, os, rfl⟩ := h
  exact (fr_drewN w q).trans (fr_grow _ os) (by simp) (by simp)
theorem fr_putRow {α : Type} [Inhabited α] (enc : α → Value) (w : World) (b off n : Nat) (d : Array α) : Fr [b] w (putRow enc (Sort.ahead w n) b off d) := by
  refine ⟨rfl, rfl, rfl, by simp [putRow, mapBlock, Sort.ahead], fun k _ hn => ?_⟩
  show (w.heap.modify b _)[k]? = w.heap[k]?
  rw [Array.getElem?_modify, if_neg (by intro e; exact hn (by simp [e]))]
theorem fr_sortWorld {α : Type} [Inhabited α] (enc : α → Value) (w : World) (b off n : Nat) (d : Array α) (os : Array Obj) : Fr [b] w (sortWorld enc w b off n d os) :=
  (fr_putRow enc w b off n d).trans (fr_grow _ os) (by simp) (by simp)
theorem fr_sortWorldK {α : Type} [Inhabited α] (enc : α → List Value) (k : Nat) (w : World) (b off n : Nat) (d : Array α) (os : Array Obj) : Fr [b] w (sortWorldK enc k w b off n d os) :=
  (fr_putRow id w b off n _).trans (fr_grow _ os) (by simp) (by simp)

/-- The numbers below m + 1. -/
def finA (m : Nat) : Array (Fin (m + 1)) := Array.ofFn id
theorem finA_size (m : Nat) : (finA m).size = m + 1 := by simp [finA]
theorem finA_at (m : Nat) {j : Nat} (h : j < m + 1) : (finA m)[j]! = ⟨j, h⟩ := by
  unfold finA
  rw [getElem!_pos _ j (by simpa using h)]
  simp
theorem finA_vals (m : Nat) : (finA m).toList.map Fin.val = List.range (m + 1) := by
  refine List.ext_getElem (by simp [finA]) (fun i h1 h2 => ?_)
  rw [List.getElem_map, List.getElem_range, Array.getElem_toList]
  unfold finA
  rw [Array.getElem_ofFn]
  rfl
theorem swo_of {m : Nat} {cf : Nat → Nat → Int} (h : OrdN (m + 1) cf) : SWO (ltOf fun x y : Fin (m + 1) => cf x.val y.val) where
  irrefl x := by
    have := h.irrefl x.val x.isLt
    unfold ltOf
    simpa using this
  trans x y z h1 h2 := by
    unfold ltOf at *
    exact decide_eq_true (h.trans x.val y.val z.val x.isLt y.isLt z.isLt (of_decide_eq_true h1) (of_decide_eq_true h2))
  ntrans x y z h1 h2 := by
    unfold ltOf at *
    exact decide_eq_false (h.ntrans x.val y.val z.val x.isLt y.isLt z.isLt (of_decide_eq_false h1) (of_decide_eq_false h2))
theorem sorted_of {m : Nat} {cf : Nat → Nat → Int} {d : Array (Fin (m + 1))} (hp : PermIn 0 (m + 1) (finA m) d) (hs : SortedIn (ltOf fun x y : Fin (m + 1) => cf x.val y.val) 0 (m + 1) d) : SortedN (m + 1) cf (d.toList.map Fin.val) where
  perm := by
    obtain ⟨h1, -, h3⟩ := hp
    rw [finA_size] at h1
    have e1 : d.extract 0 (m + 1) = d := by simp [← h1]
    have e2 : (finA m).extract 0 (m + 1) = finA m := by simp [← finA_size m]
    rw [e1, e2] at h3
    have := h3.map Fin.val
    rwa [finA_vals] at this
  order := by
    obtain ⟨h1, -, -⟩ := hp
    refine List.pairwise_map.2 (List.pairwise_iff_getElem.2 (fun i j hi hj hij => ?_))
    have hj' : j < d.size := by simpa using hj
    have hi' : i < d.size := by simpa using hi
    have := hs i j (Nat.zero_le _) hij (by rw [← finA_size m, ← h1]; exact hj')
    rw [getElem!_pos d j hj', getElem!_pos d i hi'] at this
    unfold ltOf at this
    simpa using this
theorem cells_of_holds {α : Type} [Inhabited α] {enc : α → Value} {w : World} {b cap : Nat} {d : Array α} (h : Holds enc w b 0 d) (hl : d.size ≤ cap) (hm : cap ≤ maxLen) : cellsAt w (.slice (some ⟨b, 0, none⟩) d.size cap) (d.toList.map enc) := by
  refine .inr ⟨b, 0, cap, by simp, by simpa using hl, hm, fun i hi => ?_⟩
  have hi' : i < d.size := by simpa using hi
  have := (h i hi').1
  rw [getElem!_pos d i hi'] at this
  rw [this, List.getElem_map]
  simp
theorem holds_of_heap {α : Type} [Inhabited α] {enc : α → Value} {w : World} {b : Nat} {t : TypeId} {d : Array α} {cs : List Value} (h : w.heap[b]? = some (.cells cs.toArray t (0, 0))) (hc : cs = d.toList.map enc) : Holds enc w b 0 d := fun j hj => by
  refine ⟨?_, free_of_heap h _⟩
  rw [cell_of_heap h, getElem!_pos d j hj, hc]
  simp [hj]
/-- The encoding of elements of two cells. -/
def enc2 {α : Type} (f g : α → Value) (x : α) : List Value := [f x, g x]
theorem elems_of_holds {α : Type} [Inhabited α] {f g : α → Value} {w : World} {b cap : Nat} {d : Array α} (hb : b < w.heap.size) (h : HoldsK (enc2 f g) 2 w b 0 d) (hl : d.size ≤ cap) (hm : cap ≤ maxLen) : elemsAt w (.slice (some ⟨b, 0, none⟩) d.size cap) 2 (d.toList.map (enc2 f g)) := by
  refine .inr ⟨b, 0, cap, by simp, by simpa using hl, hm, hb, fun i hi => ?_⟩
  have hi' : i < d.size := by simpa using hi
  rw [List.getElem_map]
  have e : d.toList[i]'(by simpa using hi') = d[i] := by simp
  rw [e]
  refine ⟨rfl, fun j u hj => ?_⟩
  have hj2 : j < 2 := by
    rcases Nat.lt_or_ge j 2 with q | q
    · exact q
    · rw [List.getElem?_eq_none (by simpa [enc2] using q)] at hj
      cases hj
  have := (HoldsK.cell h hi' hj2).1
  rw [getElem!_pos d i hi'] at this
  rw [this]
  have hl2 : j < (enc2 f g d[i]).length := by simpa [enc2] using hj2
  rw [List.getElem?_eq_getElem hl2] at hj
  rw [getElem!_pos _ j hl2]
  exact hj
theorem holdsK_of_heap {α : Type} [Inhabited α] {f g : α → Value} {w : World} {b : Nat} {t : TypeId} {d : Array α} {cs : List Value} (h : w.heap[b]? = some (.cells cs.toArray t (0, 0))) (hc : cs = (d.toList.map (enc2 f g)).flatten) : HoldsK (enc2 f g) 2 w b 0 d := fun j hj => by
  have hj' : j < d.size * 2 := by simpa using hj
  refine ⟨?_, free_of_heap h _⟩
  rw [cell_of_heap h, get_flatK _ _ _ j hj', hc]
  have h1 : j / 2 < d.size := by omega
  rw [getElem!_pos d (j / 2) h1]
  have h2 : j % 2 < (enc2 f g d[j / 2]).length := by simp [enc2]; omega
  rw [getElem!_pos (enc2 f g d[j / 2]) (j % 2) h2]
  simp only [Nat.zero_add, List.getElem?_toArray, id]
  have := flat2 f g d.toList j
  rw [this, List.getElem?_eq_getElem (show j / 2 < d.toList.length by simpa using h1)]
  simp
where
  flat2 {α : Type} (f g : α → Value) : ∀ (l : List α) (j : Nat), ((l.map (enc2 f g)).flatten)[j]? = (l[j / 2]?).bind fun x => (enc2 f g x)[j % 2]?
    | [], j => by simp
    | x :: l, 0 => by simp [enc2]
    | x :: l, 1 => by simp [enc2]
    | x :: l, j + 2 => by
      rw [List.map_cons, List.flatten_cons, List.getElem?_append_right (by simp [enc2]), show (j + 2) / 2 = j / 2 + 1 by omega, show (j + 2) % 2 = j % 2 by omega]
      simp only [List.getElem?_cons_succ]
      rw [← flat2 f g l j]
      simp [enc2]
end Go.Proofs.Ytmcekpgmebanaaa
