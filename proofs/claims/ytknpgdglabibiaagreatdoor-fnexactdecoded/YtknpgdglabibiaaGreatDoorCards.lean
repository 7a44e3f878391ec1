/-
  DERIVED. GIVEN WITH THE SEED: THE CARDS: each row of YtknpgdglabibiaaGreatDoorRows.lean that lists a variable, with what it lists TIED to the program's text (the seventh form; the later family's looks); each row that meets fmt, with fmt's text TOLD by the authors' own Lean function (tested against real Go, not proved from fmt's source: count such statements apart). THE CARD IS WHAT COUNTS. Prove the row's statement (the work); the ties are given (YtknpgdglabibiaaGreatDoorTie.lean); close each card by the builder's one call (the guide's Derived/Test/ToyasCard.lean, 'card_holds'). Laid BY PROGRAM, IN A SANDBOX (cutbox-door.mjs). By AI agents, Wed Nov 11 2026. No macro, syntax, notation, axiom, sorry.
-/
import Derived.Test.YtknpgdglabibiaaGreatDoorRows
import GoSem.ClaimSeven
namespace Go.Proofs.YtknpgdglabibiaaGreatDoor
namespace Rows

/-- THE TIED CARD OF 'laws.FnExactDecoded'. -/
def fnExactDecodedCard : Claim7 := { stood := { row := fnExactDecodedRow, standIns := [], harness := (true, "398f289c661d77ca29c36ace40c04b082a8d2ac798e0546e39732944735840c1"), looks := false }, kinds := [], alts := [], laidByText := true, laidKinds := [.data, .data, .data, .data, .data], laidTests := true, laidLooks := .later }
def FnExactDecodedCardSaid : Prop := Claim7.holds Tryz.pinned (.plain (OpenSpec.ofChange fnExactDecodedSpec)) fnExactDecodedCard

/-- THE SECOND FORM's CARD OF 'laws.FnExactDecoded'. -/
def fnExactDecodedUptoCard : Claim7 := { stood := { row := fnExactDecodedUptoRow, standIns := [], harness := (true, "398f289c661d77ca29c36ace40c04b082a8d2ac798e0546e39732944735840c1"), looks := false }, kinds := [], alts := [], laidByText := true, laidKinds := [.data, .data, .data, .data, .data], laidTests := true, laidLooks := .later }
def FnExactDecodedUptoCardSaid : Prop := Claim7.holds Tryz.pinned (.plain (OpenSpec.upto fnExactDecodedSpec)) fnExactDecodedUptoCard
end Rows
end Go.Proofs.YtknpgdglabibiaaGreatDoor
