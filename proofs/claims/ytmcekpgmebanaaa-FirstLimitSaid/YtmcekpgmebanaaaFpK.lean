/- The program's first sets (layer 20): all. -/
import Derived.Test.YtmcekpgmebanaaaSchR
import Derived.Test.YtmcekpgmebanaaaFo
import Derived.Test.YtmcekpgmebanaaaWlJ
import Derived.Test.YtmcekpgmebanaaaWlDu
import Derived.Test.YtmcekpgmebanaaaWpCk
set_option linter.unusedVariables false
set_option linter.unusedSimpArgs false
namespace Go.Proofs.Ytmcekpgmebanaaa
open Go.RowKit

theorem prog_first : ProgFirst := psets_any prog_wcat prog_wunion pcheck_any
theorem prog_fof : ProgFof := pof_any prog_wcat
end Go.Proofs.Ytmcekpgmebanaaa
