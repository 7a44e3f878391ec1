/-
  DERIVED. GIVEN WITH THE SEED: THE CARDS: each row of YtapmhlhbjpbcoaaGreatDoorRows.lean that lists a variable, with what it lists TIED to the program's text (the seventh form; the later family's looks); each row that meets fmt, with fmt's text TOLD by the authors' own Lean function (tested against real Go, not proved from fmt's source: count such statements apart). THE CARD IS WHAT COUNTS. Prove the row's statement (the work); the ties are given (YtapmhlhbjpbcoaaGreatDoorTie.lean); close each card by the builder's one call (the guide's Derived/Test/ToyasCard.lean, 'card_holds'). Laid BY PROGRAM, IN A SANDBOX (cutbox-door.mjs). By AI agents, Wed Nov 11 2026. No macro, syntax, notation, axiom, sorry.
-/
import Derived.Test.YtapmhlhbjpbcoaaGreatDoorRows
import GoSem.ClaimSeven
namespace Go.Proofs.YtapmhlhbjpbcoaaGreatDoor
namespace Rows

/-- THE TIED CARD OF 'laws.FnExactClaimTree'. -/
def fnExactClaimTreeCard : Claim7 := { stood := { row := fnExactClaimTreeRow, standIns := [], harness := (true, "2df89ac171322a12a5c22eec9749f040321816154e1686a72b66b1c4616fb4e3"), looks := false }, kinds := [], alts := [], laidByText := true, laidKinds := [.data, .data, .data, .data, .data], laidTests := true, laidLooks := .later }
def FnExactClaimTreeCardSaid : Prop := Claim7.holds Tryz.pinned (.plain (OpenSpec.ofChange fnExactClaimTreeSpec)) fnExactClaimTreeCard

/-- THE TIED CARD OF 'laws.FnExactDecoded'. -/
def fnExactDecodedCard : Claim7 := { stood := { row := fnExactDecodedRow, standIns := [], harness := (true, "2df89ac171322a12a5c22eec9749f040321816154e1686a72b66b1c4616fb4e3"), looks := false }, kinds := [], alts := [], laidByText := true, laidKinds := [.data, .data, .data, .data, .data], laidTests := true, laidLooks := .later }
def FnExactDecodedCardSaid : Prop := Claim7.holds Tryz.pinned (.plain (OpenSpec.ofChange fnExactDecodedSpec)) fnExactDecodedCard

/-- THE SECOND FORM's CARD OF 'laws.FnExactClaimTree'. -/
def fnExactClaimTreeUptoCard : Claim7 := { stood := { row := fnExactClaimTreeUptoRow, standIns := [], harness := (true, "2df89ac171322a12a5c22eec9749f040321816154e1686a72b66b1c4616fb4e3"), looks := false }, kinds := [], alts := [], laidByText := true, laidKinds := [.data, .data, .data, .data, .data], laidTests := true, laidLooks := .later }
def FnExactClaimTreeUptoCardSaid : Prop := Claim7.holds Tryz.pinned (.plain (OpenSpec.upto fnExactClaimTreeSpec)) fnExactClaimTreeUptoCard

/-- THE SECOND FORM's CARD OF 'laws.FnExactDecoded'. -/
def fnExactDecodedUptoCard : Claim7 := { stood := { row := fnExactDecodedUptoRow, standIns := [], harness := (true, "2df89ac171322a12a5c22eec9749f040321816154e1686a72b66b1c4616fb4e3"), looks := false }, kinds := [], alts := [], laidByText := true, laidKinds := [.data, .data, .data, .data, .data], laidTests := true, laidLooks := .later }
def FnExactDecodedUptoCardSaid : Prop := Claim7.holds Tryz.pinned (.plain (OpenSpec.upto fnExactDecodedSpec)) fnExactDecodedUptoCard
end Rows
end Go.Proofs.YtapmhlhbjpbcoaaGreatDoor
