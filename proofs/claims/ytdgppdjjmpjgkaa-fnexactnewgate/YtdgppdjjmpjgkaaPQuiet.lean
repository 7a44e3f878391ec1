/- A region that draws its order, whose operations only read and whose callees write into no block that was there: walked once, in the order of the text. -/
import Derived.Test.YtdgppdjjmpjgkaaRows
import Derived.WalkKit
import Derived.Below
import Derived.Deep.QuietTactic
import Derived.BigQuiet
namespace Go.Proofs.Ytdgppdjjmpjgkaa
open Go.RowKit

/-- A world in which all that was there stands. -/
structure BW (w0 : World) where
  w : World
  h : Below w0.heap.size w0 w

theorem bw_any (w0 : World) : Nonempty (BW w0) := ⟨⟨w0, Below.refl _ w0⟩⟩

theorem wp_region_below {P : Program} {id : Nat} {Q : Exit → Act → World → Prop} {a : Act} {w w0 : World} {l : List Oper} (hm : P.follows .mixedOrders = true) (hB : Region.lexB .any l.toArray = true) (hw : Below w0.heap.size w0 w)
    (h : wpQuiet P l.toArray (fun w' => ∃ p : BW w0, w' = p.w) (fun a' => ∀ w', (∃ p : BW w0, w' = p.w) → Q .normal a' w') l a) : (Code.region id l.toArray true).wp P Q a w :=
  wp_region_quiet (C := fun w' => ∃ p : BW w0, w' = p.w) hm hB ⟨⟨w.drew, hw.drew⟩, rfl⟩ (by simpa using h)

theorem calls_bw {P : Program} {f : FuncId} {args : Array Value} {w0 : World} {v : Value} (p : BW w0) (h : Calls P f args p.w fun e w' => e = .returned v ∧ Below p.w.heap.size p.w w') :
    Calls P f args p.w fun e w'' => e = .returned v ∧ ∃ q : BW w0, w'' = q.w :=
  h.mono fun _ _ ⟨he, hb⟩ => ⟨he, ⟨_, p.h.trans (hb.mono p.h.size)⟩, rfl⟩

end Go.Proofs.Ytdgppdjjmpjgkaa
