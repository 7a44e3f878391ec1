/-
  DERIVED. GIVEN WITH THE SEED: THE CARDS: each row of YtcjeodgfpnecgaaGreatDoorRows.lean that lists a variable, with what it lists TIED to the program's text (the seventh form; the later family's looks); each row that meets fmt, with fmt's text TOLD by the authors' own Lean function (tested against real Go, not proved from fmt's source: count such statements apart). THE CARD IS WHAT COUNTS. Prove the row's statement (the work); the ties are given (YtcjeodgfpnecgaaGreatDoorTie.lean); close each card by the builder's one call (the guide's Derived/Test/ToyasCard.lean, 'card_holds'). Laid BY PROGRAM, IN A SANDBOX (cutbox-door.mjs). By AI agents, Wed Nov 11 2026. No macro, syntax, notation, axiom, sorry.
-/
import Derived.Test.YtcjeodgfpnecgaaGreatDoorRows
import GoSem.ClaimSeven
namespace Go.Proofs.YtcjeodgfpnecgaaGreatDoor
namespace Rows

/-- THE TIED CARD OF 'laws.FnExactLetter'. -/
def fnExactLetterCard : Claim7 := { stood := { row := fnExactLetterRow, standIns := [], harness := (true, "bc32925e346b6623aff761351c37189fa2690da72780f2471e5b747441ee492c"), looks := false }, kinds := [], alts := [], laidByText := true, laidKinds := [.data, .data, .data, .data, .data], laidTests := true, laidLooks := .later }
def FnExactLetterCardSaid : Prop := Claim7.holds Tryz.pinned (.plain (OpenSpec.ofChange fnExactLetterSpec)) fnExactLetterCard

/-- THE SECOND FORM's CARD OF 'laws.FnExactLetter'. -/
def fnExactLetterUptoCard : Claim7 := { stood := { row := fnExactLetterUptoRow, standIns := [], harness := (true, "bc32925e346b6623aff761351c37189fa2690da72780f2471e5b747441ee492c"), looks := false }, kinds := [], alts := [], laidByText := true, laidKinds := [.data, .data, .data, .data, .data], laidTests := true, laidLooks := .later }
def FnExactLetterUptoCardSaid : Prop := Claim7.holds Tryz.pinned (.plain (OpenSpec.upto fnExactLetterSpec)) fnExactLetterUptoCard
end Rows
end Go.Proofs.YtcjeodgfpnecgaaGreatDoor
