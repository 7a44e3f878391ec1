/- Contracts of impl: letters, the first colon, a name split, NameOk. -/
import Derived.Test.YtdgppdjjmpjgkaaRows
import Derived.Test.YtdgppdjjmpjgkaaSNMath
import Derived.Test.YtdgppdjjmpjgkaaKit
import Derived.Test.YtdgppdjjmpjgkaaSNImplA
import Derived.WalkKit
import Derived.Deep.QuietTactic
import Derived.BigQuiet
namespace Go.Proofs.Ytdgppdjjmpjgkaa
open Go.RowKit
set_option linter.unusedVariables false
set_option linter.unusedSimpArgs false

end Go.Proofs.Ytdgppdjjmpjgkaa
