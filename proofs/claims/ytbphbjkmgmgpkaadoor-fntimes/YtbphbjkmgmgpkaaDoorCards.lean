/-
  DERIVED. GIVEN WITH THE SEED: THE CARDS: each row of YtbphbjkmgmgpkaaDoorRows.lean that lists a variable, with what it lists TIED to the program's text (the seventh form; the later family's looks); each row that meets fmt, with fmt's text TOLD by the authors' own Lean function (tested against real Go, not proved from fmt's source: count such statements apart). THE CARD IS WHAT COUNTS. Prove the row's statement (the work); the ties are given (YtbphbjkmgmgpkaaDoorTie.lean); close each card by the builder's one call (the guide's Derived/Test/ToyasCard.lean, 'card_holds'). Laid BY PROGRAM, IN A SANDBOX (cutbox-door.mjs). By AI agents, Wed Nov 11 2026. No macro, syntax, notation, axiom, sorry.
-/
import Derived.Test.YtbphbjkmgmgpkaaDoorRows
import GoSem.ClaimSeven
namespace Go.Proofs.YtbphbjkmgmgpkaaDoor
namespace Rows

/-- THE TIED CARD OF 'laws.FnTimes'. -/
def fnTimesCard : Claim7 := { stood := { row := fnTimesRow, standIns := [], harness := (true, "f940f360cbbd389bd09a0abd1d9e4d149ed1283b535f95a6892019f2c02b557e"), looks := false }, kinds := [], alts := [], laidByText := true, laidKinds := [.data, .data, .data, .data, .data], laidTests := true, laidLooks := .later }
def FnTimesCardSaid : Prop := Claim7.holds Tryd.pinned (.plain (OpenSpec.ofChange fnTimesSpec)) fnTimesCard

/-- THE TIED CARD OF 'laws.FnExactDaysIn'. -/
def fnExactDaysInCard : Claim7 := { stood := { row := fnExactDaysInRow, standIns := [], harness := (true, "f940f360cbbd389bd09a0abd1d9e4d149ed1283b535f95a6892019f2c02b557e"), looks := false }, kinds := [], alts := [], laidByText := true, laidKinds := [.data, .data], laidTests := true, laidLooks := .later }
def FnExactDaysInCardSaid : Prop := Claim7.holds Tryd.pinned (.plain (OpenSpec.ofChange fnExactDaysInSpec)) fnExactDaysInCard

/-- THE TIED CARD OF 'laws.FnExactTimeText'. -/
def fnExactTimeTextCard : Claim7 := { stood := { row := fnExactTimeTextRow, standIns := [], harness := (true, "f940f360cbbd389bd09a0abd1d9e4d149ed1283b535f95a6892019f2c02b557e"), looks := false }, kinds := [], alts := [], laidByText := true, laidKinds := [.data, .data, .data, .data, .data], laidTests := true, laidLooks := .later }
def FnExactTimeTextCardSaid : Prop := Claim7.holds Tryd.pinned (.plain (OpenSpec.ofChange fnExactTimeTextSpec)) fnExactTimeTextCard

/-- THE TIED CARD OF 'laws.FnExactTimeOf'. -/
def fnExactTimeOfCard : Claim7 := { stood := { row := fnExactTimeOfRow, standIns := [], harness := (true, "f940f360cbbd389bd09a0abd1d9e4d149ed1283b535f95a6892019f2c02b557e"), looks := false }, kinds := [], alts := [], laidByText := true, laidKinds := [.data, .data, .data, .data, .data], laidTests := true, laidLooks := .later }
def FnExactTimeOfCardSaid : Prop := Claim7.holds Tryd.pinned (.plain (OpenSpec.ofChange fnExactTimeOfSpec)) fnExactTimeOfCard

/-- THE SECOND FORM's CARD OF 'laws.FnTimes'. -/
def fnTimesUptoCard : Claim7 := { stood := { row := fnTimesUptoRow, standIns := [], harness := (true, "f940f360cbbd389bd09a0abd1d9e4d149ed1283b535f95a6892019f2c02b557e"), looks := false }, kinds := [], alts := [], laidByText := true, laidKinds := [.data, .data, .data, .data, .data], laidTests := true, laidLooks := .later }
def FnTimesUptoCardSaid : Prop := Claim7.holds Tryd.pinned (.plain (OpenSpec.upto fnTimesSpec)) fnTimesUptoCard

/-- THE SECOND FORM's CARD OF 'laws.FnExactDaysIn'. -/
def fnExactDaysInUptoCard : Claim7 := { stood := { row := fnExactDaysInUptoRow, standIns := [], harness := (true, "f940f360cbbd389bd09a0abd1d9e4d149ed1283b535f95a6892019f2c02b557e"), looks := false }, kinds := [], alts := [], laidByText := true, laidKinds := [.data, .data], laidTests := true, laidLooks := .later }
def FnExactDaysInUptoCardSaid : Prop := Claim7.holds Tryd.pinned (.plain (OpenSpec.upto fnExactDaysInSpec)) fnExactDaysInUptoCard

/-- THE SECOND FORM's CARD OF 'laws.FnExactTimeText'. -/
def fnExactTimeTextUptoCard : Claim7 := { stood := { row := fnExactTimeTextUptoRow, standIns := [], harness := (true, "f940f360cbbd389bd09a0abd1d9e4d149ed1283b535f95a6892019f2c02b557e"), looks := false }, kinds := [], alts := [], laidByText := true, laidKinds := [.data, .data, .data, .data, .data], laidTests := true, laidLooks := .later }
def FnExactTimeTextUptoCardSaid : Prop := Claim7.holds Tryd.pinned (.plain (OpenSpec.upto fnExactTimeTextSpec)) fnExactTimeTextUptoCard

/-- THE SECOND FORM's CARD OF 'laws.FnExactTimeOf'. -/
def fnExactTimeOfUptoCard : Claim7 := { stood := { row := fnExactTimeOfUptoRow, standIns := [], harness := (true, "f940f360cbbd389bd09a0abd1d9e4d149ed1283b535f95a6892019f2c02b557e"), looks := false }, kinds := [], alts := [], laidByText := true, laidKinds := [.data, .data, .data, .data, .data], laidTests := true, laidLooks := .later }
def FnExactTimeOfUptoCardSaid : Prop := Claim7.holds Tryd.pinned (.plain (OpenSpec.upto fnExactTimeOfSpec)) fnExactTimeOfUptoCard
end Rows
end Go.Proofs.YtbphbjkmgmgpkaaDoor
