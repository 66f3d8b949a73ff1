/- The program's sets of words (layer 19): all seven functions. -/
import Derived.Test.YtmcekpgmebanaaaWlJ
import Derived.Test.YtmcekpgmebanaaaWlE
import Derived.Test.YtmcekpgmebanaaaWlF
set_option linter.unusedVariables false
set_option linter.unusedSimpArgs false
namespace Go.Proofs.Ytmcekpgmebanaaa
end Go.Proofs.Ytmcekpgmebanaaa
