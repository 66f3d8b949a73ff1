/- The program's first sets (layer 20): all. -/
import Derived.Test.YtmcekpgmebanaaaGreatSchR
import Derived.Test.YtmcekpgmebanaaaGreatFo
import Derived.Test.YtmcekpgmebanaaaGreatWlJ
import Derived.Test.YtmcekpgmebanaaaGreatWlDu
import Derived.Test.YtmcekpgmebanaaaGreatWpCk
set_option linter.unusedVariables false
set_option linter.unusedSimpArgs false
namespace Go.Proofs.YtmcekpgmebanaaaGreat
open Go.RowKit

theorem prog_first : ProgFirst := psets_any prog_wcat prog_wunion pcheck_any
theorem prog_fof : ProgFof := pof_any prog_wcat
end Go.Proofs.YtmcekpgmebanaaaGreat
