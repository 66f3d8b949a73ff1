/- Lexing (layer 12): a small law. -/
import Derived.Test.YtcmgnhjffhaajaaLexCs
namespace Go.Proofs.Ytcmgnhjffhaajaa
open Go.RowKit


theorem head_drop (m : List UInt8) (k : Nat) : (m.drop k).head? = m[k]? := by rw [List.head?_drop]

end Go.Proofs.Ytcmgnhjffhaajaa
