/- The program's sets of words (layer 19): all seven functions. -/
import Derived.Test.YtapkohdbnfaacaaWlJ
import Derived.Test.YtapkohdbnfaacaaWlE
import Derived.Test.YtapkohdbnfaacaaWlF
set_option linter.unusedVariables false
set_option linter.unusedSimpArgs false
namespace Go.Proofs.Ytapkohdbnfaacaa
end Go.Proofs.Ytapkohdbnfaacaa
