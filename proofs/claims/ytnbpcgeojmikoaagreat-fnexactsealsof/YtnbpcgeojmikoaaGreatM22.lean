/- (nothing of the shelf is wanted here) Contracts of strings.Builder at this program's own numbers: copyCheck, the writers, String; a builder that the call has made itself. Contracts of EndOf, KidsOf and TextIn of the program. -/
import Derived.Test.YtnbpcgeojmikoaaGreatProg
import Derived.Test.YtnbpcgeojmikoaaGreatRows
import Derived.Test.YtnbpcgeojmikoaaGreatM21
import Derived.WalkKit
import Derived.OwnWalk
import Derived.Lib.Builder
import Derived.Lib.OthersKept
import Derived.Lib.AppendStr
import Derived.Laws.Externs

namespace Go.Proofs.YtnbpcgeojmikoaaGreat
open Go.RowKit

theorem row_kind {w : World} {B : Nat} {e : TypeId} {v : Value} {n : Nat} {xs : List Value} (h : w.ownsRow B e 1 v n xs) : ∀ g, v.ownBlock = some g → ∃ c fz, w.heap[g]? = some (.cells c e fz) := by
  intro g hg
  rcases h.2 with ⟨rfl, _⟩ | ⟨g', cap, cur, rfl, _, hgg, _⟩
  · simp [Value.ownBlock] at hg
  · simp [Value.ownBlock] at hg
    subst hg
    exact ⟨cur, _, hgg⟩

end Go.Proofs.YtnbpcgeojmikoaaGreat

namespace Go.Proofs.YtnbpcgeojmikoaaGreat
open Go.RowKit
set_option linter.unusedVariables false
set_option linter.unusedSimpArgs false

end Go.Proofs.YtnbpcgeojmikoaaGreat
