/- Contracts of what the exact laws call on attrs: sized, copied, compared; a row of attrs among the arguments, opened. A row of attrs among the arguments, opened. Contracts of what the exact laws call on tokens: sized, copied, compared; a token among the arguments, opened. Marks that the exact laws leave in what was answered: a text for a number; marks in a row of attrs, set and held. -/
import Derived.Test.YteninofjeidljaaGreatM1
import Derived.Lib.SmallJoins
import Derived.Deep.SlicePairs
import Derived.ProofKit
import Derived.OpenShut
namespace Go.Proofs.YteninofjeidljaaGreat

open Go.RowKit

set_option linter.unusedVariables false

set_option linter.unusedSimpArgs false

/-- The attrs lie in these cells, from o on. -/
def AtCells (cu : Array Value) (o : Nat) (l : List At) : Prop := ∀ m (h : m < l.length), cu[o + m * 2]? = some (.string l[m].name) ∧ cu[o + m * 2 + 1]? = some (.string l[m].value)

theorem pair_bw {W : World} {b o : Nat} {x y : Value} (hb : b < W.heap.size) (h1 : W.cell? ⟨b, o, none⟩ = some x) (h2 : W.cell? ⟨b, o + 1, none⟩ = some y) :
    (∀ p : BW W, p.w.cell? ⟨b, o, none⟩ = some x) ∧ (∀ p : BW W, p.w.cell? ⟨b, o + 1, none⟩ = some y) :=
  ⟨fun p => (p.h.cell (p := ⟨b, o, none⟩) hb).trans h1, fun p => (p.h.cell (p := ⟨b, o + 1, none⟩) hb).trans h2⟩

theorem infoAt : (Tryz.prog.info? 114).map (fun i => (i.zero, i.size, i.bytes)) = some (some (.agg #[.string ⟨#[]⟩, .string ⟨#[]⟩]), 2, 32) := by kernel_rfl

end Go.Proofs.YteninofjeidljaaGreat

namespace Go.Proofs.YteninofjeidljaaGreat

open Go.ChangeShapes Go.WideShapes Go.ChangeAt Go.RowKit

set_option linter.unusedVariables false

end Go.Proofs.YteninofjeidljaaGreat

namespace Go.Proofs.YteninofjeidljaaGreat

open Go.RowKit

set_option linter.unusedVariables false

set_option linter.unusedSimpArgs false

/-- A token; a node, too (its parent for its kind). -/
structure Tk where
  kind : Int
  name : ByteArray
  attrs : List At
  text : ByteArray

/-- A token's cells, its attrs in the row at a. -/
abbrev tkV (t : Tk) (a : Option Addr) (cap : Nat) : Value := .agg #[.int .i64 t.kind, .string t.name, .slice a t.attrs.length cap, .string t.text]

def TkSz (n : Nat) (t : Tk) : Prop := t.name.size ≤ n ∧ t.attrs.length ≤ n ∧ AtSz n t.attrs ∧ t.text.size ≤ n

theorem box4 {w : World} {g : Nat} {x y z u : Value} {T : TypeId} (h : w.heap[g]? = some (.cells #[x, y, z, u] T (0, 0))) :
    (w.cell? ⟨g, 0, none⟩ = some x ∧ w.cell? ⟨g, 1, none⟩ = some y ∧ w.cell? ⟨g, 2, none⟩ = some z ∧ w.cell? ⟨g, 3, none⟩ = some u) ∧ (w.frozen? ⟨g, 0, none⟩ = false ∧ w.frozen? ⟨g, 1, none⟩ = false ∧ w.frozen? ⟨g, 2, none⟩ = false ∧ w.frozen? ⟨g, 3, none⟩ = false) :=
  ⟨⟨by rw [Lib.cell_of_heap h]; rfl, by rw [Lib.cell_of_heap h]; rfl, by rw [Lib.cell_of_heap h]; rfl, by rw [Lib.cell_of_heap h]; rfl⟩, Lib.frozen_of_heap h 0, Lib.frozen_of_heap h 1, Lib.frozen_of_heap h 2, Lib.frozen_of_heap h 3⟩

theorem blk_below {w w1 : World} {B : Nat} {o : Obj} (h : w.heap[B]? = some o) (k : Below w.heap.size w w1) : w1.heap[B]? = some o := (k.block B (lt_of_heap h)).trans h

theorem blk_alloc {w : World} {B : Nat} {o : Obj} (h : w.heap[B]? = some o) (o' : Obj) : (w.alloc o').heap[B]? = some o := (Below.heap_alloc w o' B (lt_of_heap h)).trans h

end Go.Proofs.YteninofjeidljaaGreat

namespace Go.Proofs.YteninofjeidljaaGreat

open Go.RowKit

set_option linter.unusedVariables false

set_option linter.unusedSimpArgs false

end Go.Proofs.YteninofjeidljaaGreat
