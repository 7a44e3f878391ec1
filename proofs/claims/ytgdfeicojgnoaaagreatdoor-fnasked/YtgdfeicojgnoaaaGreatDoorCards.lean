/-
  DERIVED. GIVEN WITH THE SEED: THE CARDS: each row of YtgdfeicojgnoaaaGreatDoorRows.lean that lists a variable, with what it lists TIED to the program's text (the seventh form; the later family's looks); each row that meets fmt, with fmt's text TOLD by the authors' own Lean function (tested against real Go, not proved from fmt's source: count such statements apart). THE CARD IS WHAT COUNTS. Prove the row's statement (the work); the ties are given (YtgdfeicojgnoaaaGreatDoorTie.lean); close each card by the builder's one call (the guide's Derived/Test/ToyasCard.lean, 'card_holds'). Laid BY PROGRAM, IN A SANDBOX (cutbox-door.mjs). By AI agents, Wed Nov 11 2026. No macro, syntax, notation, axiom, sorry.
-/
import Derived.Test.YtgdfeicojgnoaaaGreatDoorRows
import GoSem.ClaimSeven
namespace Go.Proofs.YtgdfeicojgnoaaaGreatDoor
namespace Rows

/-- THE TIED CARD OF 'laws.FnAsked'. -/
def fnAskedCard : Claim7 := { stood := { row := fnAskedRow, standIns := [], harness := (true, "5d91c4f8ea6f273d0342e74e0f5927a2492da72bd5bbd1420a1d96c1346695a0"), looks := true }, kinds := [], alts := [], laidByText := true, laidKinds := [.handle, .sentinel, .sentinel, .sentinel], laidTests := true, laidLooks := .later }
def FnAskedCardSaid : Prop := Claim7.holds Tryz.pinned (.plain (OpenSpec.ofChange fnAskedSpec)) fnAskedCard

/-- THE TIED CARD OF 'laws.FnExactTicked'. -/
def fnExactTickedCard : Claim7 := { stood := { row := fnExactTickedRow, standIns := [], harness := (true, "5d91c4f8ea6f273d0342e74e0f5927a2492da72bd5bbd1420a1d96c1346695a0"), looks := true }, kinds := [], alts := [], laidByText := true, laidKinds := [.sentinel, .sentinel], laidTests := true, laidLooks := .later }
def FnExactTickedCardSaid : Prop := Claim7.holds Tryz.pinned (.plain (OpenSpec.ofChange fnExactTickedSpec)) fnExactTickedCard

/-- THE SECOND FORM's CARD OF 'laws.FnAsked'. -/
def fnAskedUptoCard : Claim7 := { stood := { row := fnAskedUptoRow, standIns := [], harness := (true, "5d91c4f8ea6f273d0342e74e0f5927a2492da72bd5bbd1420a1d96c1346695a0"), looks := true }, kinds := [], alts := [], laidByText := true, laidKinds := [.handle, .sentinel, .sentinel, .sentinel], laidTests := true, laidLooks := .later }
def FnAskedUptoCardSaid : Prop := Claim7.holds Tryz.pinned (.plain (OpenSpec.upto fnAskedSpec)) fnAskedUptoCard

/-- THE SECOND FORM's CARD OF 'laws.FnExactTicked'. -/
def fnExactTickedUptoCard : Claim7 := { stood := { row := fnExactTickedUptoRow, standIns := [], harness := (true, "5d91c4f8ea6f273d0342e74e0f5927a2492da72bd5bbd1420a1d96c1346695a0"), looks := true }, kinds := [], alts := [], laidByText := true, laidKinds := [.sentinel, .sentinel], laidTests := true, laidLooks := .later }
def FnExactTickedUptoCardSaid : Prop := Claim7.holds Tryz.pinned (.plain (OpenSpec.upto fnExactTickedSpec)) fnExactTickedUptoCard
end Rows
end Go.Proofs.YtgdfeicojgnoaaaGreatDoor
