/- The face: what gives up by a panic within is caught, and the answer is what it gave up with; what returns is answered. Contracts of the deferred closure, of need, and of the face over whatever work. -/
import Derived.Test.YtfglgadmcgkjkabRows
import Derived.WalkKit
import Derived.Defers
import Derived.Recover
import Derived.Below
import Derived.Lib.BufferWrite
import Derived.WalkSmall
namespace Go.Proofs.Ytfglgadmcgkjkab
open Go.RowKit
set_option linter.unusedVariables false
set_option linter.unusedSimpArgs false

theorem face_enters {f : FuncId} {fn : Func} {c : Code} (hf : Try.prog.funcs[f]? = some fn) (hname : (fn.name == "runtime.NumGoroutine") = false) (hb : fn.body = some c) (args : Array Value) (w : World) :
    (callFunc f args).run Try.prog w = .ok (.enter f args) w := by
  have h1 : fn.name ≠ "runtime.NumGoroutine" := by simpa using hname
  simp [callFunc, hf, h1, hb]

end Go.Proofs.Ytfglgadmcgkjkab
