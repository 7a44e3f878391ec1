/- Contracts of what the laws hand keys in by, and hold keys against each other by. -/
import Derived.Test.YtfglgadmcgkjkaaRows
import Derived.WalkKit
import Derived.Below
namespace Go.Proofs.Ytfglgadmcgkjkaa
open Go.RowKit
set_option linter.unusedVariables false
set_option linter.unusedSimpArgs false

theorem cToKey (n e d : Int) (w : World) :
    Calls Try.prog 28 #[.agg #[.int .i64 n, .int .i64 e, .int .i64 d]] w fun x w' => x = .returned (.agg #[.int .i64 n, .int .i64 e, .int .i64 d]) ∧ Below w.heap.size w w' := by
  go_enter Try.func28, Try.ntmps28
  go_wp2
  refine bodyPost_ret (v := .agg #[.int .i64 n, .int .i64 e, .int .i64 d]) (by simp [results, Try.results28, go_sem]) rfl ⟨rfl, ?_⟩
  repeat first | exact Below.refl _ _ | refine Below.setCell ?_ (by simp; try omega) _ | refine Below.alloc ?_ (by simp; try omega) _

/-- A key is as it is. -/
theorem cEqKey (n e d : Int) (w : World) :
    Calls Try.prog 27 #[.agg #[.int .i64 n, .int .i64 e, .int .i64 d], .agg #[.int .i64 n, .int .i64 e, .int .i64 d]] w fun x w' => x = .returned (.bool true) ∧ Below w.heap.size w w' := by
  go_enter Try.func27, Try.ntmps27
  go_wp2
  go_ret
  refine ⟨rfl, ?_⟩
  repeat first | exact Below.refl _ _ | refine Below.setCell ?_ (by simp; try omega) _ | refine Below.alloc ?_ (by simp; try omega) _

end Go.Proofs.Ytfglgadmcgkjkaa
