/- What IsName and IsTerm (layer 12) must give. -/
import Derived.Test.YtcmgnhjffhaajaaLexA
import Derived.Test.YtcmgnhjffhaajaaMm
namespace Go.Proofs.Ytcmgnhjffhaajaa
open Go.RowKit


/-- The program's IsName and IsTerm do what the document's do. -/
def ProgIs : Prop := (∀ (m : List UInt8) (w : World), m.length ≤ maxLen → Calls Try.prog 23 #[encStr m] w fun e w' => e = .returned (.bool (nameB m)) ∧ Fr [] w w') ∧
  ∀ (m : List UInt8) (w : World), m.length ≤ maxLen → Calls Try.prog 24 #[encStr m] w fun e w' => e = .returned (.bool (termB m)) ∧ Fr [] w w'
end Go.Proofs.Ytcmgnhjffhaajaa
