/- A row of attrs among the arguments, opened. -/
import Derived.Test.YtnbpcgeojmikoaaNAt
import Derived.Lib.SmallJoins
import Derived.Deep.SlicePairs
import Derived.ProofKit
import Derived.OpenShut
namespace Go.Proofs.Ytnbpcgeojmikoaa
open Go.ChangeShapes Go.WideShapes Go.ChangeAt Go.RowKit
set_option linter.unusedVariables false

def strVN (v : Value) : ByteArray := match v with | .string s => s | _ => ByteArray.empty

end Go.Proofs.Ytnbpcgeojmikoaa
