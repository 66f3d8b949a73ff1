/- Stage 17, KeyOf's seat: the variables, out of the row's condition; a start that meets the condition. -/
import Derived.Test.YtjlkcdmeiakkbaaGreatDoorKyLc
import Derived.Test.YtjlkcdmeiakkbaaGreatDoorSm
set_option linter.unusedVariables false
set_option linter.unusedSimpArgs false
namespace Go.Proofs.YtjlkcdmeiakkbaaGreatDoor
open Go.ChangeShapes Go.WideShapes Go.ChangeAt Go.WideMaps Go.WideElems Go.RowKit

/-- What the row of this seat says of the variables. -/
def laidL {H : Type} : List (String × DataW H) := [("math/bits.deBruijn32tab", Rows.laid_math_bits_deBruijn32tab), ("math/bits.deBruijn64tab", Rows.laid_math_bits_deBruijn64tab), ("internal/strconv.uint64pow10", Rows.laid_internal_strconv_uint64pow10), ("repertory/hex.digits", Rows.laid_repertory_hex_digits), ("repertory/sha.roots", Rows.laid_repertory_sha_roots), ("strconv.ErrRange", Rows.laid_strconv_ErrRange), ("strconv.ErrSyntax", Rows.laid_strconv_ErrSyntax)]
theorem door_met (os : Os) (args : Array Value) : laidMetH Tryz.prog laidL ((World.doorLaid Tryz.prog 400 os).forCall (fun _ _ => 0) ⟨#[], args, []⟩).memory :=
  laidMetH_of_parts3 (fuel := 8) (laidMet_of_run' 8 (by kernel_rfl) (by kernel_rfl)) (by kernel_rfl) (by kernel_rfl)
theorem gRoots : Tryz.prog.globalNamed "repertory/sha.roots" = some 1 := by kernel_rfl

theorem vars_of_laid {W : World} (h : laidMetH Tryz.prog laidL W) (hs : W.ShapedOpen Tryz.prog) : VarsAt W ∧ rootsAt W := by
  rw [MakeChecks.laidMetH_plain _ _ _ (by kernel_rfl)] at h
  have t2 := h.tail.tail
  have hp : Lib.TabIs Tryz.prog W "internal/strconv.uint64pow10" .u64 Lib.pow10Tab :=
    Lib.tabIs_of_head (n := 20) gPow (by kernel_rfl) Tryz.underlying188 Tryz.underlying113 (by kernel_rfl) (by kernel_rfl) t2
  have hd : Lib.TabIs Tryz.prog W "repertory/hex.digits" .u8 (dk.map fun c => (c.toNat : Int)) :=
    Lib.tabIs_of_head (n := 16) gDigs (by kernel_rfl) Tryz.underlying124 Tryz.underlying5 (by kernel_rfl) (by kernel_rfl) t2.tail
  have hr : Lib.TabIs Tryz.prog W "repertory/sha.roots" .u32 (kk.map fun (k : Nat) => (k : Int)) :=
    Lib.tabIs_of_head (n := 64) gRoots (by kernel_rfl) Tryz.underlying116 Tryz.underlying64 (by kernel_rfl) (by kernel_rfl) t2.tail.tail
  obtain ⟨a0, s0, hv0, -, -, -⟩ := laid_sentinel t2.tail.tail.tail gRng (by kernel_rfl) Tryz.underlying74 rowErr Tryz.underlying184 Tryz.underlying186 rfl rfl Tryz.underlying9 (by kernel_rfl) (by kernel_rfl)
  obtain ⟨a1, s1, hv1, -, -, -⟩ := laid_sentinel t2.tail.tail.tail.tail gSyn (by kernel_rfl) Tryz.underlying74 rowErr Tryz.underlying184 Tryz.underlying186 rfl rfl Tryz.underlying9 (by kernel_rfl) (by kernel_rfl)
  refine ⟨⟨?_, hp, ?_, ⟨_, _, by have h0 := World.var?_cell gSyn hv1 0; simpa using h0⟩, ⟨_, _, by have h0 := World.var?_cell gRng hv0 0; simpa using h0⟩⟩, ?_⟩
  · intro i hi
    have hc := Lib.TabIs.cell hd gDigs i (by simpa using hi)
    rw [hc]
    simp [List.getD, hi]
  · exact cell_of_shapedOpen_int (zero := #[.int .i64 0]) hs (of_decide_eq_true (by kernel_rfl)) (by kernel_rfl) (by kernel_rfl) (by kernel_rfl) (by kernel_rfl) Tryz.underlying3
  · intro i hi
    have hc := Lib.TabIs.cell hr gRoots i (by simpa using hi)
    rw [hc]
    simp [List.getD, hi]
end Go.Proofs.YtjlkcdmeiakkbaaGreatDoor
