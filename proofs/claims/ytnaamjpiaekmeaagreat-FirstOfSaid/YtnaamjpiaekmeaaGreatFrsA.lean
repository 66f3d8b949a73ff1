/- The law's awake (layer 20), over any program that does what it must. -/
import Derived.Test.YtnaamjpiaekmeaaGreatPr
import Derived.Test.YtnaamjpiaekmeaaGreatDt
import Derived.Deep.DeepCutAuto
import Derived.Test.YtnaamjpiaekmeaaGreatBs
import Derived.LoopTactic
import Derived.BigQuiet
import Derived.WalkMore
set_option linter.unusedVariables false
set_option linter.unusedSimpArgs false
namespace Go.Proofs.YtnaamjpiaekmeaaGreat
open Go.RowKit
def LD (q : Nat) : List Obj := [.cells #[.string ⟨#[83]⟩] 9, .cells #[.string ⟨#[97]⟩] 9, .cells #[.int .i64 (-1), .int .i64 0] 3,
 .cells #[.int .i64 0, sl (q + 1 + 1) 2, .int .i64 0, .slice none 0 0] 46, .cells #[sl q 1, sl (q + 1) 1, sl (q + 1 + 1 + 1) 2] 25]
theorem gramD (w : World) : gramAt (allocL w (LD w.heap.size)) (.agg #[sl w.heap.size 1, sl (w.heap.size + 1) 1, sl (w.heap.size + 1 + 1 + 1) 2]) exD := by
 have h := allocL_heap (LD w.heap.size) w
 refine ⟨_, _, _, rfl, cells_of_heap (h 0 _ rfl) (by decide) 1 rfl, cells_of_heap (h 1 _ rfl) (by decide) 1 rfl, [sl (w.heap.size + 1 + 1) 2, .slice none 0 0], rfl, elems2_of_heap (xs := [[intV 0, sl (w.heap.size + 1 + 1) 2], [intV 0, .slice none 0 0]]) (h 3 _ rfl) (fun x hx => (by simpa using hx : x = _ ∨ x = _).elim (fun e => by rw [e]; rfl) (fun e => by rw [e]; rfl)) (show 2 ≤ maxLen by decide) 2 rfl, fun i a b => ?_⟩
 have hi : i < 2 := a
 rcases (by omega : i = 0 ∨ i = 1) with rfl | rfl
 ·exact cells_of_heap (h 2 _ rfl) (by decide) 2 rfl
 ·exact cellsAt.nil _
set_option maxRecDepth 100000 in
set_option maxHeartbeats 4000000 in
theorem lfawake_any (hC : ProgFirst) (w : World) : Calls Tryz.prog 10 #[] w fun e w' => e = .returned (.bool true) ∧ Fr [] w w' := by
 obtain ⟨wa, hwa⟩ : ∃ x, x = allocL w (LD w.heap.size) := ⟨_, rfl⟩
 have hga := gramD w
 have hfa := allocL_fr (LD w.heap.size) w
 have ha := allocL_heap (LD w.heap.size) w 4 _ rfl
 rw [← hwa] at hga hfa ha
 have HFF := Lib.hid hfa
 have HA := Lib.hid (hC exD _ 2 wa hga sizeD intD)
 have HWA := Lib.hid hwa
 clear hwa hga hfa hC
 go_enter Tryz.func10, Tryz.ntmps10
 go_upto_region 2 with fail
 change Code.wp Tryz.prog _ _ _ (allocL w (LD w.heap.size))
 rw [← HWA.out]
 clear HWA
 have HBA := Lib.hid ha
 clear ha
 obtain ⟨qa, hqa⟩ : ∃ q, q = w.heap.size := ⟨_, rfl⟩
 rw [← hqa] at HA HBA ⊢
 clear hqa
 unfold sl at HA HBA
 obtain ⟨x0, x1, x2, -⟩ := three_of_heap HBA.out
 go_upto_region 3 with (go_at_call 11; refine HA.out.mono ?_; rintro e w1 ⟨v1, ls, c, rfl, hs, ho, hf1⟩; obtain ⟨rfl, rfl⟩ := outD ho; have HF1 := Lib.hid (HFF.out.tr0 hf1); have HS := Lib.hid hs; obtain ⟨a1, c1, rfl, hc1, hm1⟩ := hs.form; clear hs hf1 ho)
 obtain ⟨b, off, u, rfl, y0, hu⟩ := set_cell HS.out 0 (by decide)
 obtain ⟨a2, c2, rfl, hc2, hm2⟩ := hu.form
 obtain ⟨b2, o2, e2, z0⟩ := str_cell hu 0 (by decide)
 obtain ⟨b3, o3, e3, z1⟩ := str_cell hu 1 (by decide)
 obtain ⟨b4, o4, e4, z2⟩ := str_cell hu 2 (by decide)
 subst e2
 obtain ⟨rfl, rfl⟩ : b2 = b3 ∧ o2 = o3 := by simpa using e3
 obtain ⟨rfl, rfl⟩ : b2 = b4 ∧ o2 = o4 := by simpa using e4
 have y : w1.cell? ⟨b, off, none⟩ = some (.slice (some ⟨b2, o2, none⟩) 3 c2) := y0
 have z3 : w1.cell? ⟨b2, o2, none⟩ = some (.string ⟨#[]⟩) := z0
 have z4 : w1.cell? ⟨b2, o2 + 1, none⟩ = some (.string ⟨#[0]⟩) := z1
 have z5 : w1.cell? ⟨b2, o2 + 2, none⟩ = some (.string ⟨#[0, 0]⟩) := z2
 replace hc1 : 1 ≤ c1 := hc1
 replace hc2 : 3 ≤ c2 := hc2
 clear e3 e4 hu HS y0 z0 z1 z2
 go_wp2_with fail
 go_ret
 exact ⟨rfl, HF1.out⟩
end Go.Proofs.YtnaamjpiaekmeaaGreat
