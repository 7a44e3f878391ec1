/-
  DERIVED. GIVEN WITH THE SEED: THE CARDS: each row of YtnjepdggefchnaaGreatDoorRows.lean that lists a variable, with what it lists TIED to the program's text (the seventh form; the later family's looks); each row that meets fmt, with fmt's text TOLD by the authors' own Lean function (tested against real Go, not proved from fmt's source: count such statements apart). THE CARD IS WHAT COUNTS. Prove the row's statement (the work); the ties are given (YtnjepdggefchnaaGreatDoorTie.lean); close each card by the builder's one call (the guide's Derived/Test/ToyasCard.lean, 'card_holds'). Laid BY PROGRAM, IN A SANDBOX (cutbox-door.mjs). By AI agents, Wed Nov 11 2026. No macro, syntax, notation, axiom, sorry.
-/
import Derived.Test.YtnjepdggefchnaaGreatDoorRows
import GoSem.ClaimSeven
namespace Go.Proofs.YtnjepdggefchnaaGreatDoor
namespace Rows

/-- THE TIED CARD OF 'laws.FnExactAsks'. -/
def fnExactAsksCard : Claim7 := { stood := { row := fnExactAsksRow, standIns := [], harness := (true, "2a6324076cd98e1f5d7cd579bfcf4e971cedbf6da448f3b5700a75602c6decc2"), looks := true }, kinds := [], alts := [], laidByText := true, laidKinds := [.handle, .sentinel, .sentinel, .sentinel], laidTests := true, laidLooks := .later }
def FnExactAsksCardSaid : Prop := Claim7.holds Tryz.pinned (.plain (OpenSpec.ofChange fnExactAsksSpec)) fnExactAsksCard

/-- THE SECOND FORM's CARD OF 'laws.FnExactAsks'. -/
def fnExactAsksUptoCard : Claim7 := { stood := { row := fnExactAsksUptoRow, standIns := [], harness := (true, "2a6324076cd98e1f5d7cd579bfcf4e971cedbf6da448f3b5700a75602c6decc2"), looks := true }, kinds := [], alts := [], laidByText := true, laidKinds := [.handle, .sentinel, .sentinel, .sentinel], laidTests := true, laidLooks := .later }
def FnExactAsksUptoCardSaid : Prop := Claim7.holds Tryz.pinned (.plain (OpenSpec.upto fnExactAsksSpec)) fnExactAsksUptoCard
end Rows
end Go.Proofs.YtnjepdggefchnaaGreatDoor
