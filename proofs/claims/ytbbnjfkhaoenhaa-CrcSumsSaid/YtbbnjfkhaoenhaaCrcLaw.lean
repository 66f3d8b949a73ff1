/- What the statements of layer 3 call beside crc: awake. -/
import Derived.Test.YtbbnjfkhaoenhaaCrcTurn
import Derived.Lib.SlBytesConst
namespace Go.Proofs.Ytbbnjfkhaoenhaa
open Go.RowKit

theorem of_ex : crcOf ([[49, 50, 51, 52, 53, 54, 55, 56, 57]] : List (List UInt8)).flatten = 3421780262 := by decide +kernel
theorem of_none : crcOf ([] : List (List UInt8)).flatten = 0 := by decide +kernel

theorem bytesAt_marked (w : World) (bs : List UInt8) (e : TypeId) (fr : Nat × Nat) (n : Nat) (hn : n = bs.length) (h : bs.length ≤ maxLen) (cs : Array Value) (hcs : cs = (cellsB bs).toArray) : bytesAt (w.alloc (.cells cs e fr)) (.slice (some ⟨w.heap.size, 0, none⟩) n n) bs := by
  subst hn hcs
  refine .inr ⟨_, 0, bs.length, rfl, Nat.le_refl _, h, fun i hi => ?_⟩
  rw [cell_of_heap (heap_alloc_new w _)]
  simp [cellsB, hi]

set_option maxRecDepth 100000 in
theorem awake_any (w : World) :
    Calls Try.prog 7 #[] w fun e w' => e = .returned (.bool true) ∧ Fr [] w w' := by
  have kc := fun (w : World) (C : Array Value) (n c : Nat) => Lib.run_convert_bytes_const (P := Try.prog) w 24 5 C n c Try.underlying24 Try.underlying5
  go_enter Try.func7, Try.ntmps7
  go_wp2_with fail
  have hp := partsAt_new1 _ _ _ 24 (bytesAt_marked w [49, 50, 51, 52, 53, 54, 55, 56, 57] 5 (9, 10) 9 rfl (by simp [maxLen]) _ rfl)
  rw [World.size_alloc] at hp
  refine (of_any _ _ _ hp).mono ?_
  rintro e w1 ⟨rfl, hf1⟩
  have hf01 : Fr [] w w1 := ((Fr.alloc w _).trans (Fr.alloc _ _) (by simp) (n := []) (by simp)).trans hf1 (by simp) (by simp)
  rw [of_ex]
  go_wp2_with fail
  refine (of_any [] _ _ (partsAt.nil w1)).mono ?_
  rintro e w2 ⟨rfl, hf2⟩
  rw [of_none]
  go_wp2_with fail
  go_ret
  exact ⟨rfl, hf01.trans hf2 (by simp) (by simp)⟩
end Go.Proofs.Ytbbnjfkhaoenhaa
