/-  -/
import Derived.Test.YtoioiddjbanahaaGreatDoorM3
import Derived.Test.YtoioiddjbanahaaGreatDoorM9
set_option linter.unusedVariables false
set_option linter.unusedSimpArgs false
namespace Go.Proofs.YtoioiddjbanahaaGreatDoor.Nd

open Go.RowKit

structure Laid (ts : List Tk) (g i : Nat) (G : Nat -> Nat) (cur : Array Value) (wr : World) : Prop where
 cells : ∀ j (h : j < ts.length), j < i -> cur[j * 4]? = some (.int .i64 ts[j].kind) /\ cur[j * 4 + 1]? = some (.string ts[j].name) /\ cur[j * 4 + 2]? = some (.slice (some ⟨G j, 0, none⟩) ts[j].attrs.length ts[j].attrs.length) /\ cur[j * 4 + 3]? = some (.string ts[j].text)
 row : ∀ j (h : j < ts.length), j < i -> g < G j /\ ∃ cu, wr.heap[G j]? = some (.cells cu 67 (0, 0)) /\ AtCells cu 0 ts[j].attrs
 later : ∀ j k, j < k -> k < i -> G j < G k

end Go.Proofs.YtoioiddjbanahaaGreatDoor.Nd

namespace Go.Proofs.YtoioiddjbanahaaGreatDoor

open Go.RowKit

end Go.Proofs.YtoioiddjbanahaaGreatDoor

namespace Go.Proofs.YtoioiddjbanahaaGreatDoor.Nd

open Go.RowKit

-- over type 32

-- over type 32

-- over type 32

-- over type 32

end Go.Proofs.YtoioiddjbanahaaGreatDoor.Nd

namespace Go.Proofs.YtoioiddjbanahaaGreatDoor.Nd

open Go.RowKit

end Go.Proofs.YtoioiddjbanahaaGreatDoor.Nd
