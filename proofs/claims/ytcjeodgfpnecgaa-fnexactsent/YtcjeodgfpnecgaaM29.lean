/- Contract of nodeThere of the program. Contracts of EndOf, KidsOf and TextIn of the program. -/
import Derived.Test.YtcjeodgfpnecgaaM25
import Derived.Test.YtcjeodgfpnecgaaM13
import Derived.Test.YtcjeodgfpnecgaaM17
namespace Go.Proofs.Ytcjeodgfpnecgaa
open Go.RowKit
set_option linter.unusedVariables false
set_option linter.unusedSimpArgs false

end Go.Proofs.Ytcjeodgfpnecgaa

namespace Go.Proofs.Ytcjeodgfpnecgaa
open Go.RowKit
set_option linter.unusedVariables false
set_option linter.unusedSimpArgs false

end Go.Proofs.Ytcjeodgfpnecgaa
