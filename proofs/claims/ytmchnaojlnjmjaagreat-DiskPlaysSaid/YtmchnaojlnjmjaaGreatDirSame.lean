/- The document's Do (layer 9) where nothing happens. -/
import Derived.Test.YtmchnaojlnjmjaaGreatDirRD
namespace Go.Proofs.YtmchnaojlnjmjaaGreat
open Go.RowKit Go.Maps

/-- The document's Do, where a name is moved to itself. -/
theorem rdo_same (a : List UInt8) (n : Int) (a0 a1 a2 : Option Addr) (n0 c0 n1 c1 n2 c2 : Nat) (w : World) :
    Calls Tryz.prog 59 #[.agg #[.slice a0 n0 c0, .slice a1 n1 c1, .slice a2 n2 c2], .agg #[.int .i64 2, encStr a, encStr a, .int .i64 n]] w fun e w' => e = .returned (.agg #[.slice a0 n0 c0, .slice a1 n1 c1, .slice a2 n2 c2]) ∧ Fr [] w w' := by
  obtain ⟨hfw, hB1, hB2, hB3, hsz⟩ := dirs_boxes w #[.slice a0 n0 c0, .slice a1 n1 c1, .slice a2 n2 c2] #[.int .i64 2, encStr a, encStr a, .int .i64 n] #[.slice none 0 0, .slice none 0 0, .slice none 0 0] 30 105
  obtain ⟨w0, hw0⟩ : ∃ w0, w0 = ((w.alloc (.cells #[.slice a0 n0 c0, .slice a1 n1 c1, .slice a2 n2 c2] 30)).alloc (.cells #[.int .i64 2, encStr a, encStr a, .int .i64 n] 105)).alloc (.cells #[.slice none 0 0, .slice none 0 0, .slice none 0 0] 30) := ⟨_, rfl⟩
  rw [← hw0] at hfw hB1 hB2 hB3 hsz
  have HFW := Lib.hid hfw
  have HB1 := Lib.hid hB1
  have HB2 := Lib.hid hB2
  have HB3 := Lib.hid hB3
  have HW0 := Lib.hid hw0
  clear hfw hB1 hB2 hB3 hsz hw0
  go_enter Tryz.func59, Tryz.ntmps59
  go_upto_region 1 with fail
  rw [← HW0.out]
  have hab : (a == a) = true := by simp
  obtain ⟨d0, d1, d2, d3⟩ := four_of_heap HB2.out
  obtain ⟨g0, g1, g2, -, -, -⟩ := three_of_heap HB1.out
  obtain ⟨x0, x1, x2, y0, y1, y2⟩ := three_of_heap HB3.out
  go_wp2_with fail
  have hh := heap_set3 (x := .slice a0 n0 c0) (y := .slice a1 n1 c1) (z := .slice a2 n2 c2) HB3.out
  refine bodyPost_ret (results_cell_row rfl _ _ (w.heap.size + 1 + 1) 30 #[.slice a0 n0 c0, .slice a1 n1 c1, .slice a2 n2 c2] (0, 0) _ rfl hh Tryz.underlying30 rfl sizeDir) rfl ⟨rfl, ?_⟩
  exact HFW.out.trans (Fr.set3 _ _ _ _ _) (by simp) (by simp; omega)

end Go.Proofs.YtmchnaojlnjmjaaGreat
