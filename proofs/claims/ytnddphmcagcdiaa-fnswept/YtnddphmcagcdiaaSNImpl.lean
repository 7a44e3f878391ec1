/- Contracts of impl: letters, the first colon, a name split, NameOk. -/
import Derived.Test.YtnddphmcagcdiaaRows
import Derived.Test.YtnddphmcagcdiaaSNMath
import Derived.Test.YtnddphmcagcdiaaKit
import Derived.Test.YtnddphmcagcdiaaSNImplA
import Derived.WalkKit
import Derived.Deep.QuietTactic
import Derived.BigQuiet
namespace Go.Proofs.Ytnddphmcagcdiaa
open Go.RowKit
set_option linter.unusedVariables false
set_option linter.unusedSimpArgs false

end Go.Proofs.Ytnddphmcagcdiaa
