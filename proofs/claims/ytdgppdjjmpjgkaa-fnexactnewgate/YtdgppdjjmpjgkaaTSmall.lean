/- Contracts of the small tests on times, of the program and of the specification. -/
import Derived.Test.YtdgppdjjmpjgkaaRows
import Derived.WalkKit
namespace Go.Proofs.Ytdgppdjjmpjgkaa
open Go.RowKit
set_option linter.unusedVariables false
set_option linter.unusedSimpArgs false

theorem cIn (x lo hi : Int) (w : World) :
    Calls Try.prog 44 #[.int .i64 x, .int .i64 lo, .int .i64 hi] w fun e w' => e = .returned (.bool (decide (lo ≤ x ∧ x ≤ hi))) ∧ w' = w := by
  go_enter Try.func44, Try.ntmps44
  go_wp2
  all_goals go_ret
  all_goals exact ⟨by congr 2; simp; try omega, rfl⟩

theorem cTimeS (x : Int) (w : World) :
    Calls Try.prog 22 #[.int .i64 x] w fun e w' => e = .returned (.bool (decide (0 ≤ x ∧ x ≤ 3155759999))) ∧ w' = w := by
  go_enter Try.func22, Try.ntmps22
  go_wp2_with (go_at_call 44; refine (cIn _ _ _ _).mono ?_; rintro e w' ⟨rfl, rfl⟩)
  go_ret
  exact ⟨by congr 2; simp, rfl⟩

theorem cTimeI (x : Int) (w : World) :
    Calls Try.prog 28 #[.int .i64 x] w fun e w' => e = .returned (.bool (decide (0 ≤ x ∧ x ≤ 3155759999))) ∧ w' = w := by
  go_enter Try.func28, Try.ntmps28
  go_wp2
  all_goals go_ret
  all_goals exact ⟨by congr 2; simp; try omega, rfl⟩

end Go.Proofs.Ytdgppdjjmpjgkaa
