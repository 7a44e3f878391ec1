/-
  DERIVED. GIVEN WITH THE SEED: THE CARDS: each row of YtoioiddjbanahaaGreatDoorRows.lean that lists a variable, with what it lists TIED to the program's text (the seventh form; the later family's looks); each row that meets fmt, with fmt's text TOLD by the authors' own Lean function (tested against real Go, not proved from fmt's source: count such statements apart). THE CARD IS WHAT COUNTS. Prove the row's statement (the work); the ties are given (YtoioiddjbanahaaGreatDoorTie.lean); close each card by the builder's one call (the guide's Derived/Test/ToyasCard.lean, 'card_holds'). Laid BY PROGRAM, IN A SANDBOX (cutbox-door.mjs). By AI agents, Wed Nov 11 2026. No macro, syntax, notation, axiom, sorry.
-/
import Derived.Test.YtoioiddjbanahaaGreatDoorRows
import GoSem.ClaimSeven
namespace Go.Proofs.YtoioiddjbanahaaGreatDoor
namespace Rows

/-- THE TIED CARD OF 'laws.FnBroken'. -/
def fnBrokenCard : Claim7 := { stood := { row := fnBrokenRow, standIns := [], harness := (true, "c74e7ff4bfd80a33cde316df741771ee19159b676d57c6301bd8f49f72dbab91"), looks := true }, kinds := [], alts := [], laidByText := true, laidKinds := [.data, .data, .data], laidTests := true, laidLooks := .later }
def FnBrokenCardSaid : Prop := Claim7.holds Tryz.pinned (.plain (OpenSpec.ofChange fnBrokenSpec)) fnBrokenCard

/-- THE TIED CARD OF 'laws.FnExactSealedBy'. -/
def fnExactSealedByCard : Claim7 := { stood := { row := fnExactSealedByRow, standIns := [], harness := (true, "c74e7ff4bfd80a33cde316df741771ee19159b676d57c6301bd8f49f72dbab91"), looks := true }, kinds := [], alts := [], laidByText := true, laidKinds := [.data, .data, .data], laidTests := true, laidLooks := .later }
def FnExactSealedByCardSaid : Prop := Claim7.holds Tryz.pinned (.plain (OpenSpec.ofChange fnExactSealedBySpec)) fnExactSealedByCard

/-- THE SECOND FORM's CARD OF 'laws.FnBroken'. -/
def fnBrokenUptoCard : Claim7 := { stood := { row := fnBrokenUptoRow, standIns := [], harness := (true, "c74e7ff4bfd80a33cde316df741771ee19159b676d57c6301bd8f49f72dbab91"), looks := true }, kinds := [], alts := [], laidByText := true, laidKinds := [.data, .data, .data], laidTests := true, laidLooks := .later }
def FnBrokenUptoCardSaid : Prop := Claim7.holds Tryz.pinned (.plain (OpenSpec.upto fnBrokenSpec)) fnBrokenUptoCard

/-- THE SECOND FORM's CARD OF 'laws.FnExactSealedBy'. -/
def fnExactSealedByUptoCard : Claim7 := { stood := { row := fnExactSealedByUptoRow, standIns := [], harness := (true, "c74e7ff4bfd80a33cde316df741771ee19159b676d57c6301bd8f49f72dbab91"), looks := true }, kinds := [], alts := [], laidByText := true, laidKinds := [.data, .data, .data], laidTests := true, laidLooks := .later }
def FnExactSealedByUptoCardSaid : Prop := Claim7.holds Tryz.pinned (.plain (OpenSpec.upto fnExactSealedBySpec)) fnExactSealedByUptoCard
end Rows
end Go.Proofs.YtoioiddjbanahaaGreatDoor
