/- Two strings, one behind the other. Nothing here names the program. -/
import Derived.Test.YtmcekpgmebanaaaBs
import Derived.Laws.Concat
set_option linter.unusedVariables false
set_option linter.unusedSimpArgs false
namespace Go.Proofs.Ytmcekpgmebanaaa
open Go.RowKit

theorem cat_w {P : Program} {A B C : Array UInt8} {x y : List UInt8} (hA : A = x.toArray) (hB : B = y.toArray) (hC : C = (x ++ y).toArray) (hl : (x ++ y).length ≤ 9223372036854775807) (w : World) : (Op.stringOp .add { data := A } { data := B }).run P w = .ok (.string { data := C }) w := by
  subst hA hB hC
  rw [List.length_append] at hl
  rw [run_string_add_sum w _ _ (by simp [ByteArray.size]; omega), ByteArray.mk_append_mk]
end Go.Proofs.Ytmcekpgmebanaaa
