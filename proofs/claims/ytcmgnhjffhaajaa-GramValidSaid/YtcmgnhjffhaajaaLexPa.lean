/- What the lexer (layer 12) must give. -/
import Derived.Test.YtcmgnhjffhaajaaLexTk
import Derived.Test.YtcmgnhjffhaajaaMm
namespace Go.Proofs.Ytcmgnhjffhaajaa
open Go.RowKit

/-- The program's All does what the document's does. -/
def ProgAll : Prop := ∀ (m : List UInt8) (w : World), m.length ≤ 1000000 → Calls Try.prog 40 #[encStr m] w (RAll (allD m) w)
end Go.Proofs.Ytcmgnhjffhaajaa
