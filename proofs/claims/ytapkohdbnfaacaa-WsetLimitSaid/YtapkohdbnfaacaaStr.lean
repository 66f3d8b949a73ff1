/- A byte of a string. Nothing here names the program. -/
import Derived.Test.YtapkohdbnfaacaaKit
import Derived.Sort.EncStr
set_option linter.unusedVariables false
set_option linter.unusedSimpArgs false
namespace Go.Proofs.Ytapkohdbnfaacaa
open Go.RowKit

theorem run_index_str {P : Program} (w : World) (t : TypeId) (s : List UInt8) (i : Int) (k : Nat) (c : UInt8) (h : P.underlying t = some .string) (hi : i = (k : Int)) (hc : s[k]? = some c) :
    (Instr.index t (.string ⟨s.toArray⟩) (.int .i64 i)).run P w = .ok (.int .u8 (c.toNat : Int)) w := by
  subst hi
  have hk : k < s.length := by
    rcases Nat.lt_or_ge k s.length with q | q
    · exact q
    · rw [List.getElem?_eq_none q] at hc; cases hc
  rw [run_index_string w t _ .i64 k h, dif_pos ⟨by omega, by simpa [ByteArray.size] using hk⟩]
  rw [List.getElem?_eq_getElem hk] at hc
  have : ((⟨s.toArray⟩ : ByteArray)[(k : Int).toNat]'(by simpa [ByteArray.size] using hk)) = s[k]'hk := by
    simp [ByteArray.getElem_eq_getElem_data]
  rw [this, Option.some.inj hc]

end Go.Proofs.Ytapkohdbnfaacaa
