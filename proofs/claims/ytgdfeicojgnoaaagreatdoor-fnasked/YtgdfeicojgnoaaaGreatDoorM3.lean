/- A region that draws its order, whose operations only read and whose callees write into no block that was there: walked once, in the order of the text. Contracts of what the exact laws call on attrs: sized, copied, compared; a row of attrs among the arguments, opened. Contracts of the small tests on times, of the program and of the specification. -/
import Derived.Test.YtgdfeicojgnoaaaGreatDoorRows
import Derived.Test.YtgdfeicojgnoaaaGreatDoorM2
import Derived.WalkKit
import Derived.Below
import Derived.Deep.QuietTactic
import Derived.BigQuiet
import Derived.Lib.SmallJoins
import Derived.Deep.SlicePairs
import Derived.ProofKit
import Derived.OpenShut
namespace Go.Proofs.YtgdfeicojgnoaaaGreatDoor
open Go.RowKit

/-- A world in which all that was there stands. -/
structure BW (w0 : World) where
  w : World
  h : Below w0.heap.size w0 w

theorem bw_any (w0 : World) : Nonempty (BW w0) := ⟨⟨w0, Below.refl _ w0⟩⟩

theorem wp_region_below {P : Program} {id : Nat} {Q : Exit → Act → World → Prop} {a : Act} {w w0 : World} {l : List Oper} (hm : P.follows .mixedOrders = true) (hB : Region.lexB .any l.toArray = true) (hw : Below w0.heap.size w0 w)
    (h : wpQuiet P l.toArray (fun w' => ∃ p : BW w0, w' = p.w) (fun a' => ∀ w', (∃ p : BW w0, w' = p.w) → Q .normal a' w') l a) : (Code.region id l.toArray true).wp P Q a w :=
  wp_region_quiet (C := fun w' => ∃ p : BW w0, w' = p.w) hm hB ⟨⟨w.drew, hw.drew⟩, rfl⟩ (by simpa using h)

theorem calls_bw {P : Program} {f : FuncId} {args : Array Value} {w0 : World} {v : Value} (p : BW w0) (h : Calls P f args p.w fun e w' => e = .returned v ∧ Below p.w.heap.size p.w w') :
    Calls P f args p.w fun e w'' => e = .returned v ∧ ∃ q : BW w0, w'' = q.w :=
  h.mono fun _ _ ⟨he, hb⟩ => ⟨he, ⟨_, p.h.trans (hb.mono p.h.size)⟩, rfl⟩

end Go.Proofs.YtgdfeicojgnoaaaGreatDoor

namespace Go.Proofs.YtgdfeicojgnoaaaGreatDoor
open Go.RowKit
set_option linter.unusedVariables false
set_option linter.unusedSimpArgs false

/-- The attrs lie in these cells, from o on. -/
def AtCells (cu : Array Value) (o : Nat) (l : List At) : Prop := ∀ m (h : m < l.length), cu[o + m * 2]? = some (.string l[m].name) ∧ cu[o + m * 2 + 1]? = some (.string l[m].value)

theorem AtCells.atRow {w : World} {g o : Nat} {cu : Array Value} {T : TypeId} {l : List At} (h : AtCells cu o l) (hh : w.heap[g]? = some (.cells cu T (0, 0))) : AtRow w (some ⟨g, o, none⟩) l := fun j hj =>
  ⟨g, o, rfl, lt_of_heap hh, by rw [Lib.cell_of_heap hh]; exact (h j hj).1, by rw [Lib.cell_of_heap hh]; exact (h j hj).2⟩

theorem pair_bw {W : World} {b o : Nat} {x y : Value} (hb : b < W.heap.size) (h1 : W.cell? ⟨b, o, none⟩ = some x) (h2 : W.cell? ⟨b, o + 1, none⟩ = some y) :
    (∀ p : BW W, p.w.cell? ⟨b, o, none⟩ = some x) ∧ (∀ p : BW W, p.w.cell? ⟨b, o + 1, none⟩ = some y) :=
  ⟨fun p => (p.h.cell (p := ⟨b, o, none⟩) hb).trans h1, fun p => (p.h.cell (p := ⟨b, o + 1, none⟩) hb).trans h2⟩

end Go.Proofs.YtgdfeicojgnoaaaGreatDoor

namespace Go.Proofs.YtgdfeicojgnoaaaGreatDoor
open Go.RowKit
set_option linter.unusedVariables false
set_option linter.unusedSimpArgs false

theorem cIn (x lo hi : Int) (w : World) :
    Calls Tryz.prog 71 #[.int .i64 x, .int .i64 lo, .int .i64 hi] w fun e w' => e = .returned (.bool (decide (lo ≤ x ∧ x ≤ hi))) ∧ w' = w := by
  go_enter Tryz.func71, Tryz.ntmps71
  go_wp2
  all_goals go_ret
  all_goals exact ⟨by congr 2; simp; try omega, rfl⟩

theorem cTimeS (x : Int) (w : World) :
    Calls Tryz.prog 35 #[.int .i64 x] w fun e w' => e = .returned (.bool (decide (0 ≤ x ∧ x ≤ 3155759999))) ∧ w' = w := by
  go_enter Tryz.func35, Tryz.ntmps35
  go_wp2_with (go_at_call 71; refine (cIn _ _ _ _).mono ?_; rintro e w' ⟨rfl, rfl⟩)
  go_ret
  exact ⟨by congr 2; simp, rfl⟩

theorem cTimeI (x : Int) (w : World) :
    Calls Tryz.prog 42 #[.int .i64 x] w fun e w' => e = .returned (.bool (decide (0 ≤ x ∧ x ≤ 3155759999))) ∧ w' = w := by
  go_enter Tryz.func42, Tryz.ntmps42
  go_wp2
  all_goals go_ret
  all_goals exact ⟨by congr 2; simp; try omega, rfl⟩

end Go.Proofs.YtgdfeicojgnoaaaGreatDoor
