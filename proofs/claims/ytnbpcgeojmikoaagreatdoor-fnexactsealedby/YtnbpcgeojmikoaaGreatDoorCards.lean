/-
  DERIVED. GIVEN WITH THE SEED: THE CARDS: each row of YtnbpcgeojmikoaaGreatDoorRows.lean that lists a variable, with what it lists TIED to the program's text (the seventh form; the later family's looks); each row that meets fmt, with fmt's text TOLD by the authors' own Lean function (tested against real Go, not proved from fmt's source: count such statements apart). THE CARD IS WHAT COUNTS. Prove the row's statement (the work); the ties are given (YtnbpcgeojmikoaaGreatDoorTie.lean); close each card by the builder's one call (the guide's Derived/Test/ToyasCard.lean, 'card_holds'). Laid BY PROGRAM, IN A SANDBOX (cutbox-door.mjs). By AI agents, Wed Nov 11 2026. No macro, syntax, notation, axiom, sorry.
-/
import Derived.Test.YtnbpcgeojmikoaaGreatDoorRows
import GoSem.ClaimSeven
namespace Go.Proofs.YtnbpcgeojmikoaaGreatDoor
namespace Rows

/-- THE TIED CARD OF 'laws.FnBroken'. -/
def fnBrokenCard : Claim7 := { stood := { row := fnBrokenRow, standIns := [], harness := (true, "ac3f3811855ed2c2c862079f8d63aa5f621affd63aab66138b8121410b7e1a81"), looks := true }, kinds := [], alts := [], laidByText := true, laidKinds := [.data, .data, .data], laidTests := true, laidLooks := .later }
def FnBrokenCardSaid : Prop := Claim7.holds Tryz.pinned (.plain (OpenSpec.ofChange fnBrokenSpec)) fnBrokenCard

/-- THE TIED CARD OF 'laws.FnExactSealedBy'. -/
def fnExactSealedByCard : Claim7 := { stood := { row := fnExactSealedByRow, standIns := [], harness := (true, "ac3f3811855ed2c2c862079f8d63aa5f621affd63aab66138b8121410b7e1a81"), looks := true }, kinds := [], alts := [], laidByText := true, laidKinds := [.data, .data, .data], laidTests := true, laidLooks := .later }
def FnExactSealedByCardSaid : Prop := Claim7.holds Tryz.pinned (.plain (OpenSpec.ofChange fnExactSealedBySpec)) fnExactSealedByCard

/-- THE TIED CARD OF 'laws.FnExactSealing'. -/
def fnExactSealingCard : Claim7 := { stood := { row := fnExactSealingRow, standIns := [], harness := (true, "ac3f3811855ed2c2c862079f8d63aa5f621affd63aab66138b8121410b7e1a81"), looks := true }, kinds := [], alts := [], laidByText := true, laidKinds := [.data, .data, .data], laidTests := true, laidLooks := .later }
def FnExactSealingCardSaid : Prop := Claim7.holds Tryz.pinned (.plain (OpenSpec.ofChange fnExactSealingSpec)) fnExactSealingCard

/-- THE SECOND FORM's CARD OF 'laws.FnBroken'. -/
def fnBrokenUptoCard : Claim7 := { stood := { row := fnBrokenUptoRow, standIns := [], harness := (true, "ac3f3811855ed2c2c862079f8d63aa5f621affd63aab66138b8121410b7e1a81"), looks := true }, kinds := [], alts := [], laidByText := true, laidKinds := [.data, .data, .data], laidTests := true, laidLooks := .later }
def FnBrokenUptoCardSaid : Prop := Claim7.holds Tryz.pinned (.plain (OpenSpec.upto fnBrokenSpec)) fnBrokenUptoCard

/-- THE SECOND FORM's CARD OF 'laws.FnExactSealedBy'. -/
def fnExactSealedByUptoCard : Claim7 := { stood := { row := fnExactSealedByUptoRow, standIns := [], harness := (true, "ac3f3811855ed2c2c862079f8d63aa5f621affd63aab66138b8121410b7e1a81"), looks := true }, kinds := [], alts := [], laidByText := true, laidKinds := [.data, .data, .data], laidTests := true, laidLooks := .later }
def FnExactSealedByUptoCardSaid : Prop := Claim7.holds Tryz.pinned (.plain (OpenSpec.upto fnExactSealedBySpec)) fnExactSealedByUptoCard

/-- THE SECOND FORM's CARD OF 'laws.FnExactSealing'. -/
def fnExactSealingUptoCard : Claim7 := { stood := { row := fnExactSealingUptoRow, standIns := [], harness := (true, "ac3f3811855ed2c2c862079f8d63aa5f621affd63aab66138b8121410b7e1a81"), looks := true }, kinds := [], alts := [], laidByText := true, laidKinds := [.data, .data, .data], laidTests := true, laidLooks := .later }
def FnExactSealingUptoCardSaid : Prop := Claim7.holds Tryz.pinned (.plain (OpenSpec.upto fnExactSealingSpec)) fnExactSealingUptoCard
end Rows
end Go.Proofs.YtnbpcgeojmikoaaGreatDoor
