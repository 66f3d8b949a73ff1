/- The table of digits, out of the row's condition; a start that meets the condition. -/
import Derived.Test.YtbccneabhjnpoaaDoorLift
import Derived.Test.YtbccneabhjnpoaaDoorHexA
import Derived.LaidMore
import Derived.LaidOnce
import Derived.Stop.Joined
namespace Go.Proofs.YtbccneabhjnpoaaDoor
open Go.ChangeShapes Go.WideShapes Go.ChangeAt Go.WideMaps Go.WideElems Go.RowKit

/-- What the rows of this seat say of the variable. -/
def laidL {H : Type} : List (String × DataW H) := [("repertory/hex.digits", Rows.laid_repertory_hex_digits)]
theorem gDigs : Tryd.prog.globalNamed "repertory/hex.digits" = some 0 := by kernel_rfl
theorem tDigs : (Tryd.prog.globals[0]?).map (·.type) = some 32 := by kernel_rfl
theorem laid_list {H : Type} : (Rows.laid_repertory_hex_digits : DataW H) = .agg (dk.map fun (c : UInt8) => .lit (.int .u8 (c.toNat : Int))) := rfl

theorem door_met (os : Os) (args : Array Value) : laidMetH Tryd.prog laidL ((World.doorLaid Tryd.prog 400 os).forCall (fun _ _ => 0) ⟨#[], args, []⟩).memory :=
  laidMetH_of_parts3 (fuel := 8) (laidMet_of_run' 8 (by kernel_rfl) (by kernel_rfl)) (by kernel_rfl) (by kernel_rfl)

theorem digs_of_laid {W : World} (h : laidMetH Tryd.prog laidL W) : digsAt W := by
  rw [MakeChecks.laidMetH_plain _ _ _ (by kernel_rfl)] at h
  obtain ⟨ps, ⟨g0, t0, cs0, f0, p0, q0, hg0, ht0, hv0, hd0, -, -⟩, -, -⟩ := h
  obtain rfl := Option.some.inj (gDigs.symm.trans hg0)
  obtain rfl := Option.some.inj (tDigs.symm.trans ht0)
  obtain ⟨xs, m, rfl, hx, hlen, hn, hel⟩ := DataW.trod_array Tryd.underlying32 hd0
  have hc : Tryd.prog.cellsOf 5 = 1 := by kernel_rfl
  rw [laid_list] at hx
  simp only [Prod.mk.injEq, DataW.agg.injEq] at hx
  intro i hi
  have hi64 : i < 16 := by rw [dk_length] at hi; exact hi
  have h1 := hel i hi64
  rw [hc, List.getElem?_eq_getElem (by omega)] at h1
  obtain ⟨n, e1, e2, -⟩ := DataW.trod_int Tryd.underlying5 h1
  have h2 : (dk.map fun (c : UInt8) => (DataW.lit (.int .u8 (c.toNat : Int)) : DataW _))[i]? = (xs.map (·.1))[i]? := by rw [hx.1]
  rw [List.getElem?_map, List.getElem?_eq_getElem hi, List.getElem?_map, List.getElem?_eq_getElem (by omega), e2] at h2
  simp only [Option.map_some, Option.some.injEq, DataW.lit.injEq, Lit.int.injEq, true_and] at h2
  have h3 := World.var?_cell hg0 hv0 i
  rw [h3, h2]
  have h4 : (cs0.toList.drop (i * 1))[0]? = some (.int .u8 n) := by
    have : ((cs0.toList.drop (i * 1)).take 1)[0]? = some (.int .u8 n) := by rw [e1]; rfl
    rwa [List.getElem?_take, if_pos (by decide)] at this
  rw [List.getElem?_drop] at h4
  simpa using h4
end Go.Proofs.YtbccneabhjnpoaaDoor
