/- What the statements of layer 4 call beside sha: awake. -/
import Derived.Test.YtjiighgabfkmpaaDoorShaO
import Derived.Lib.SlBytesConst
import Derived.Lib.SmallJoins
namespace Go.Proofs.YtjiighgabfkmpaaDoor
open Go.RowKit

theorem hash_flat_none : hashN ([] : List (List UInt8)).flatten = [227, 176, 196, 66, 152, 252, 28, 20, 154, 251, 244, 200, 153, 111, 185, 36, 39, 174, 65, 228, 100, 155, 147, 76, 164, 149, 153, 27, 120, 82, 184, 85] := hash_none
theorem hash_flat_abc : hashN ([[97], [98, 99]] : List (List UInt8)).flatten = [186, 120, 22, 191, 143, 1, 207, 234, 65, 65, 64, 222, 93, 174, 34, 35, 176, 3, 97, 163, 150, 23, 122, 156, 180, 16, 255, 97, 242, 0, 21, 173] := hash_abc
theorem cell_hash {w : World} {g : Nat} {l : List UInt8} {e : TypeId} (h : w.heap[g]? = some (.cells (cellsB l).toArray e (0, 0))) (i : Nat) (c : UInt8) (hc : l[i]? = some c) : w.cell? ⟨g, i, none⟩ = some (.int .u8 (c.toNat : Int)) := by
  rw [cell_of_heap h]
  simp [cellsB, hc]

theorem bytesAt_marked (w : World) (bs : List UInt8) (e : TypeId) (fr : Nat × Nat) (n : Nat) (hn : n = bs.length) (h : bs.length ≤ maxLen) (cs : Array Value) (hcs : cs = (cellsB bs).toArray) : bytesAt (w.alloc (.cells cs e fr)) (.slice (some ⟨w.heap.size, 0, none⟩) n n) bs := by
  subst hn hcs
  refine .inr ⟨_, 0, bs.length, rfl, Nat.le_refl _, h, fun i hi => ?_⟩
  rw [cell_of_heap (heap_alloc_new w _)]
  simp [cellsB, hi]
set_option maxRecDepth 100000 in
theorem awake_any (w : World) (hr : rootsAt w) :
    Calls Tryd.prog 6 #[] w fun e w' => e = .returned (.bool true) ∧ Fr [] w w' := by
  obtain ⟨Z, hZ⟩ : ∃ Z, Z = (cellsB (List.replicate 32 0)).toArray := ⟨_, rfl⟩
  have hiz := infoB32
  have hs : ∀ l : List UInt8, l.length = 32 → Z.size = (cellsB l).toArray.size := fun l hl => by rw [hZ]; simp [cellsB, hl]
  have hi : ∀ l : List UInt8, l.length = 32 → (Tryd.prog.info? 24).map (·.size) = some (cellsB l).toArray.size := fun l hl => by rw [bytesC_size, hl]; exact sizeB32
  rw [← hZ] at hiz
  have HI := Lib.hid hiz
  have HO := of_any [] _ w (partsAt.nil w) hr (by simp)
  obtain ⟨l1, hl1⟩ : ∃ l1, l1 = hashN ([] : List (List UInt8)).flatten := ⟨_, rfl⟩
  obtain ⟨l2, hl2⟩ : ∃ l2, l2 = hashN ([[97], [98, 99]] : List (List UInt8)).flatten := ⟨_, rfl⟩
  have hn1 : l1.length = 32 := by rw [hl1]; exact hashN_length _
  have hn2 : l2.length = 32 := by rw [hl2]; exact hashN_length _
  rw [← hl1] at HO
  have HO1 := Lib.hid HO
  have HS := Lib.hid hs
  have HSI := Lib.hid hi
  have HL1 := Lib.hid hl1
  have HL2 := Lib.hid hl2
  clear hZ hiz hs hi HO hl1 hl2
  have kc := fun (w : World) (C : Array Value) (n c : Nat) => Lib.run_convert_bytes_const (P := Tryd.prog) w 22 5 C n c Tryd.underlying22 Tryd.underlying5
  have kc2 := fun (w : World) (C0 C : Array Value) (e0 : TypeId) (f0 : Nat × Nat) (n c : Nat) => Joins.run_convert_bytes_const_at (P := Tryd.prog) (w.alloc (.cells C0 e0 f0)) 22 5 C n c (w.heap.size + 1) (by simp) Tryd.underlying22 Tryd.underlying5
  go_enter Tryd.func6, Tryd.ntmps6
  go_wp2_with (first
    | (go_at_call 8; with_reducible refine HO1.out.mono ?_; rintro e w1 ⟨rfl, hf1⟩)
    | (refine wpL_newArr rfl 24 rfl Z HI.out ?_; intro w2 hh2 hf2 hs2; refine wpL_storeArr rfl 24 (.tmp 1) (.tmp 3) rfl w1.heap.size (cellsB l1).toArray Z rfl rfl 24 hh2.out (HSI.out l1 hn1) (HS.out l1 hn1) (bytesC_one l1) ?_; intro w3 hh3 hf3 hs3))
  have z1 := hs2.out
  have hA3 := hh3.out
  have hf03 : Fr [] w w3 := (hf1.trans hf2 (by simp) (n := []) (by simp)).trans hf3 (by simp) (by simp; have := hf1.size; omega)
  have b1 := (bytesAt_marked w3 [97] 5 (1, 2) 1 rfl (by simp [maxLen]) _ rfl).below (Fr.alloc _ (.cells #[Value.int IntKind.u8 98, Value.int IntKind.u8 99] 5 (2, 3)))
  have b2 := bytesAt_marked (w3.alloc (.cells #[Value.int IntKind.u8 97] 5 (1, 2))) [98, 99] 5 (2, 3) 2 rfl (by simp [maxLen]) _ rfl
  rw [World.size_alloc] at b2
  have hp := partsAt_new2 _ _ _ [97] [98, 99] 22 b1 b2
  rw [World.size_alloc, World.size_alloc] at hp
  have hfA : Fr [] w3 (((w3.alloc (.cells #[Value.int IntKind.u8 97] 5 (1, 2))).alloc (.cells #[Value.int IntKind.u8 98, Value.int IntKind.u8 99] 5 (2, 3))).alloc (.cells #[Value.slice (some ⟨w3.heap.size, 0, none⟩) 1 1, Value.slice (some ⟨w3.heap.size + 1, 0, none⟩) 2 2] 22)) :=
    ((Fr.alloc w3 _).trans (Fr.alloc _ _) (by simp) (n := []) (by simp)).trans (Fr.alloc _ _) (by simp) (by simp)
  have hlt : w1.heap.size < w3.heap.size := (Array.getElem?_eq_some_iff.1 hA3).1
  have HO2 := of_any [[97], [98, 99]] _ _ hp (hr.below (hf03.trans hfA (by simp) (by simp))) (by simp)
  rw [← HL2.out] at HO2
  have HO2 := Lib.hid HO2
  clear b1 b2 hp hh2 hh3
  go_wp2_with (first
    | (go_at_call 8; refine HO2.out.mono ?_; rintro e w5 ⟨rfl, hf5⟩)
    | (refine wpL_newArr rfl 24 rfl Z HI.out ?_; intro w6 hh6 hf6 hs6; refine wpL_storeArr rfl 24 (.tmp 2) (.tmp 9) rfl w5.heap.size (cellsB l2).toArray Z rfl rfl 24 hh6.out (HSI.out l2 hn2) (HS.out l2 hn2) (bytesC_one l2) ?_; intro w7 hh7 hf7 hs7; have hx : w1.heap.size < w5.heap.size := Nat.lt_of_lt_of_le hlt (hfA.trans hf5 (by simp) (n := []) (by simp)).size; have hA : w7.heap[w1.heap.size]? = some (.cells (cellsB l1).toArray 24 (0, 0)) := hf7.heap (hf6.heap ((hfA.trans hf5 (by simp) (n := []) (by simp)).heap hA3 (by simp)) (by simp)) (by simp; omega); have hB := hh7.out
       ; have c0 : w7.cell? ⟨w1.heap.size, 0, none⟩ = some (.int .u8 227) := cell_hash hA 0 227 (by rw [HL1.out, hash_flat_none]; rfl)
       ; have c1 : w7.cell? ⟨w1.heap.size, 1, none⟩ = some (.int .u8 176) := cell_hash hA 1 176 (by rw [HL1.out, hash_flat_none]; rfl)
       ; have c2 : w7.cell? ⟨w1.heap.size, 2, none⟩ = some (.int .u8 196) := cell_hash hA 2 196 (by rw [HL1.out, hash_flat_none]; rfl)
       ; have c3 : w7.cell? ⟨w1.heap.size, 3, none⟩ = some (.int .u8 66) := cell_hash hA 3 66 (by rw [HL1.out, hash_flat_none]; rfl)
       ; have d0 : w7.cell? ⟨w5.heap.size, 0, none⟩ = some (.int .u8 186) := cell_hash hB 0 186 (by rw [HL2.out, hash_flat_abc]; rfl)
       ; have d1 : w7.cell? ⟨w5.heap.size, 1, none⟩ = some (.int .u8 120) := cell_hash hB 1 120 (by rw [HL2.out, hash_flat_abc]; rfl)
       ; have d2 : w7.cell? ⟨w5.heap.size, 2, none⟩ = some (.int .u8 22) := cell_hash hB 2 22 (by rw [HL2.out, hash_flat_abc]; rfl)
       ; have d3 : w7.cell? ⟨w5.heap.size, 3, none⟩ = some (.int .u8 191) := cell_hash hB 3 191 (by rw [HL2.out, hash_flat_abc]; rfl); clear hA hB))
  go_ret
  exact ⟨rfl, (((hf03.trans hfA (by simp) (n := []) (by simp)).trans hf5 (by simp) (n := []) (by simp)).trans hf6 (by simp) (n := []) (by simp)).trans hf7 (by simp) (by simp; have := hf1.size; omega)⟩
end Go.Proofs.YtjiighgabfkmpaaDoor
