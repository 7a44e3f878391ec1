/-
  DERIVED. GIVEN WITH THE SEED: THE CARDS: each row of YtgnphekelklchaaDoorRows.lean that lists a variable, with what it lists TIED to the program's text (the seventh form; the later family's looks); each row that meets fmt, with fmt's text TOLD by the authors' own Lean function (tested against real Go, not proved from fmt's source: count such statements apart). THE CARD IS WHAT COUNTS. Prove the row's statement (the work); the ties are given (YtgnphekelklchaaDoorTie.lean); close each card by the builder's one call (the guide's Derived/Test/ToyasCard.lean, 'card_holds'). Laid BY PROGRAM, IN A SANDBOX (cutbox-door.mjs). By AI agents, Wed Nov 11 2026. No macro, syntax, notation, axiom, sorry.
-/
import Derived.Test.YtgnphekelklchaaDoorRows
import GoSem.ClaimSeven
namespace Go.Proofs.YtgnphekelklchaaDoor
namespace Rows

/-- THE TIED CARD OF 'laws.FnLetters'. -/
def fnLettersCard : Claim7 := { stood := { row := fnLettersRow, standIns := [], harness := (true, "7e523459238a0c0a964aef39fcb9a89f1126a8a16c7862b81b1b2278c04a14e7"), looks := false }, kinds := [], alts := [], laidByText := true, laidKinds := [.data, .pinned], laidTests := true, laidLooks := .later }
def FnLettersCardSaid : Prop := Claim7.holds Tryd.pinned (.plain (OpenSpec.ofChange fnLettersSpec)) fnLettersCard

/-- THE TIED CARD OF 'laws.FnExactFromLetters'. -/
def fnExactFromLettersCard : Claim7 := { stood := { row := fnExactFromLettersRow, standIns := [], harness := (true, "7e523459238a0c0a964aef39fcb9a89f1126a8a16c7862b81b1b2278c04a14e7"), looks := false }, kinds := [], alts := [], laidByText := true, laidKinds := [.data, .pinned], laidTests := true, laidLooks := .later }
def FnExactFromLettersCardSaid : Prop := Claim7.holds Tryd.pinned (.plain (OpenSpec.ofChange fnExactFromLettersSpec)) fnExactFromLettersCard

/-- THE SECOND FORM's CARD OF 'laws.FnLetters'. -/
def fnLettersUptoCard : Claim7 := { stood := { row := fnLettersUptoRow, standIns := [], harness := (true, "7e523459238a0c0a964aef39fcb9a89f1126a8a16c7862b81b1b2278c04a14e7"), looks := false }, kinds := [], alts := [], laidByText := true, laidKinds := [.data, .pinned], laidTests := true, laidLooks := .later }
def FnLettersUptoCardSaid : Prop := Claim7.holds Tryd.pinned (.plain (OpenSpec.upto fnLettersSpec)) fnLettersUptoCard

/-- THE SECOND FORM's CARD OF 'laws.FnExactFromLetters'. -/
def fnExactFromLettersUptoCard : Claim7 := { stood := { row := fnExactFromLettersUptoRow, standIns := [], harness := (true, "7e523459238a0c0a964aef39fcb9a89f1126a8a16c7862b81b1b2278c04a14e7"), looks := false }, kinds := [], alts := [], laidByText := true, laidKinds := [.data, .pinned], laidTests := true, laidLooks := .later }
def FnExactFromLettersUptoCardSaid : Prop := Claim7.holds Tryd.pinned (.plain (OpenSpec.upto fnExactFromLettersSpec)) fnExactFromLettersUptoCard
end Rows
end Go.Proofs.YtgnphekelklchaaDoor
