/- Contracts of impl: letters, the first colon, a name split, NameOk. -/
import Derived.Test.YtmbomjmenbfhmaaRows
import Derived.Test.YtmbomjmenbfhmaaSNMath
import Derived.Test.YtmbomjmenbfhmaaKit
import Derived.Test.YtmbomjmenbfhmaaSNImplA
import Derived.WalkKit
import Derived.Deep.QuietTactic
import Derived.BigQuiet
namespace Go.Proofs.Ytmbomjmenbfhmaa
open Go.RowKit
set_option linter.unusedVariables false
set_option linter.unusedSimpArgs false

end Go.Proofs.Ytmbomjmenbfhmaa
