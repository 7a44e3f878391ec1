/- Contracts of what the exact laws call on attrs: sized, copied, compared; a row of attrs among the arguments, opened. -/
import Derived.Test.YtdgppdjjmpjgkaaNAt
import Derived.Test.YtdgppdjjmpjgkaaPQuiet
import Derived.Lib.SmallJoins
import Derived.Deep.SlicePairs
import Derived.ProofKit
import Derived.OpenShut
namespace Go.Proofs.Ytdgppdjjmpjgkaa
open Go.RowKit
set_option linter.unusedVariables false
set_option linter.unusedSimpArgs false

/-- The attrs lie in these cells, from o on. -/
def AtCells (cu : Array Value) (o : Nat) (l : List At) : Prop := ∀ m (h : m < l.length), cu[o + m * 2]? = some (.string l[m].name) ∧ cu[o + m * 2 + 1]? = some (.string l[m].value)

theorem AtCells.atRow {w : World} {g o : Nat} {cu : Array Value} {T : TypeId} {l : List At} (h : AtCells cu o l) (hh : w.heap[g]? = some (.cells cu T (0, 0))) : AtRow w (some ⟨g, o, none⟩) l := fun j hj =>
  ⟨g, o, rfl, lt_of_heap hh, by rw [Lib.cell_of_heap hh]; exact (h j hj).1, by rw [Lib.cell_of_heap hh]; exact (h j hj).2⟩

theorem pair_bw {W : World} {b o : Nat} {x y : Value} (hb : b < W.heap.size) (h1 : W.cell? ⟨b, o, none⟩ = some x) (h2 : W.cell? ⟨b, o + 1, none⟩ = some y) :
    (∀ p : BW W, p.w.cell? ⟨b, o, none⟩ = some x) ∧ (∀ p : BW W, p.w.cell? ⟨b, o + 1, none⟩ = some y) :=
  ⟨fun p => (p.h.cell (p := ⟨b, o, none⟩) hb).trans h1, fun p => (p.h.cell (p := ⟨b, o + 1, none⟩) hb).trans h2⟩

end Go.Proofs.Ytdgppdjjmpjgkaa
