/- Contracts of what the laws hand keys in by, and hold keys against each other by. -/
import Derived.Test.YtfglgadmcgkjkabRows
import Derived.WalkKit
import Derived.Below
namespace Go.Proofs.Ytfglgadmcgkjkab
open Go.RowKit
set_option linter.unusedVariables false
set_option linter.unusedSimpArgs false

theorem cToKey (n e d : Int) (w : World) :
    Calls Try.prog 5 #[.agg #[.int .i64 n, .int .i64 e, .int .i64 d]] w fun x w' => x = .returned (.agg #[.int .i64 n, .int .i64 e, .int .i64 d]) ∧ Below w.heap.size w w' := by
  go_enter Try.func5, Try.ntmps5
  go_wp2
  refine bodyPost_ret (v := .agg #[.int .i64 n, .int .i64 e, .int .i64 d]) (by simp [results, Try.results5, go_sem]) rfl ⟨rfl, ?_⟩
  repeat first | exact Below.refl _ _ | refine Below.setCell ?_ (by simp; try omega) _ | refine Below.alloc ?_ (by simp; try omega) _

end Go.Proofs.Ytfglgadmcgkjkab
