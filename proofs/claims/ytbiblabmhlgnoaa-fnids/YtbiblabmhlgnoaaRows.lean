/-
  No cell of these rows narrows 'for every input' (looked for: loops, veiled, ifaces, maps, wideKeys, modest, calm, conditions, laid).
  DERIVED. THE GIVEN ROWS OF THIS SEAT. 5 by the template 'for every input the law returns true; each argument reads behind the call as it read before'; 0 by the template 'total and deterministic' (their statements: YtbiblabmhlgnoaaTotals.lean).
  GIVEN WITH THE SEED: the statements are not yours to turn. If you find one false, say at which input.
  Laid BY PROGRAM, IN A SANDBOX (cutbox-rows.mjs): the forced cells as the released guide's own fill.sh prints them over the translation a75f1d148477050e… (all of the seat's roots in one cut). By AI agents, Wed Nov 11 2026. No macro, syntax, notation, axiom, sorry.
-/
import Derived.Test.YtbiblabmhlgnoaaChecked
import GoSem.Claim
import GoSem.ClaimJoined
import GoSem.ClaimMapViews
import Derived.JoinedTies
import Derived.KernelRfl
namespace Go.Proofs.Ytbiblabmhlgnoaa
/- THE CELL 'sum', in the pinned program and in every row, IS THE sha256 OF THE DUMP (.gsa) THAT YtbiblabmhlgnoaaProg.lean LOADS. Nothing in Lean hashes anything: it is a label: what it is worth is what the hold of that sum in a sandbox is worth. -/
noncomputable def Try.pinned : Pinned := { name := "ytbiblabmhlgnoaa", sum := "a75f1d148477050e57a72d9e44d4b56c568b93598c5eeec49cfa758596a794cc", checked := Try.checked }
namespace Rows
def none {H : Type} : Left H := { results := [], args := [] }

/-- 'laws.FnIds': WHATEVER THE INPUT: true; the input reads as it did. -/
def fnIdsSpec : ChangeSpec := { name := "fnIds", fn := fun _ => fun
  | [d] => { results := [.lit (.bool true)], args := [d] }
  | _ => none }
def fnIdsRow : OpenClaim := { program := "ytbiblabmhlgnoaa", sum := "a75f1d148477050e57a72d9e44d4b56c568b93598c5eeec49cfa758596a794cc", func := "loop.example/g00379/laws.FnIds", spec := "fnIds", unfollowed := true, recurses := true, apart := false }
def FnIdsSaid : Prop := fnIdsRow.holds Try.pinned (OpenSpec.ofChange fnIdsSpec)

/-- ITS FALSE NEIGHBOUR: 'it returns false'. Refute it at one input. -/
def fnIdsWrong : ChangeSpec := { name := "fnIds", fn := fun _ => fun
  | [d] => { results := [.lit (.bool false)], args := [d] }
  | _ => none }
def FnIdsWrongFalsely : Prop := fnIdsRow.holds Try.pinned (OpenSpec.ofChange fnIdsWrong)

/-- 'laws.FnExactIdsOk': WHATEVER THE INPUT: true; the input reads as it did. -/
def fnExactIdsOkSpec : ChangeSpec := { name := "fnExactIdsOk", fn := fun _ => fun
  | [d] => { results := [.lit (.bool true)], args := [d] }
  | _ => none }
def fnExactIdsOkRow : OpenClaim := { program := "ytbiblabmhlgnoaa", sum := "a75f1d148477050e57a72d9e44d4b56c568b93598c5eeec49cfa758596a794cc", func := "loop.example/g00379/laws.FnExactIdsOk", spec := "fnExactIdsOk", unfollowed := true, recurses := true, apart := false }
def FnExactIdsOkSaid : Prop := fnExactIdsOkRow.holds Try.pinned (OpenSpec.ofChange fnExactIdsOkSpec)

/-- ITS FALSE NEIGHBOUR: 'it returns false'. Refute it at one input. -/
def fnExactIdsOkWrong : ChangeSpec := { name := "fnExactIdsOk", fn := fun _ => fun
  | [d] => { results := [.lit (.bool false)], args := [d] }
  | _ => none }
def FnExactIdsOkWrongFalsely : Prop := fnExactIdsOkRow.holds Try.pinned (OpenSpec.ofChange fnExactIdsOkWrong)

/-- 'laws.FnExactFindId': WHATEVER THE INPUT: true; the input reads as it did. -/
def fnExactFindIdSpec : ChangeSpec := { name := "fnExactFindId", fn := fun _ => fun
  | [d1, d2] => { results := [.lit (.bool true)], args := [d1, d2] }
  | _ => none }
def fnExactFindIdRow : OpenClaim := { program := "ytbiblabmhlgnoaa", sum := "a75f1d148477050e57a72d9e44d4b56c568b93598c5eeec49cfa758596a794cc", func := "loop.example/g00379/laws.FnExactFindId", spec := "fnExactFindId", unfollowed := true, recurses := true, apart := false }
def FnExactFindIdSaid : Prop := fnExactFindIdRow.holds Try.pinned (OpenSpec.ofChange fnExactFindIdSpec)

/-- ITS FALSE NEIGHBOUR: 'it returns false'. Refute it at one input. -/
def fnExactFindIdWrong : ChangeSpec := { name := "fnExactFindId", fn := fun _ => fun
  | [d1, d2] => { results := [.lit (.bool false)], args := [d1, d2] }
  | _ => none }
def FnExactFindIdWrongFalsely : Prop := fnExactFindIdRow.holds Try.pinned (OpenSpec.ofChange fnExactFindIdWrong)

/-- 'laws.FnExactIdOf': WHATEVER THE INPUT: true; the input reads as it did. -/
def fnExactIdOfSpec : ChangeSpec := { name := "fnExactIdOf", fn := fun _ => fun
  | [d1, d2] => { results := [.lit (.bool true)], args := [d1, d2] }
  | _ => none }
def fnExactIdOfRow : OpenClaim := { program := "ytbiblabmhlgnoaa", sum := "a75f1d148477050e57a72d9e44d4b56c568b93598c5eeec49cfa758596a794cc", func := "loop.example/g00379/laws.FnExactIdOf", spec := "fnExactIdOf", unfollowed := true, recurses := true, apart := false }
def FnExactIdOfSaid : Prop := fnExactIdOfRow.holds Try.pinned (OpenSpec.ofChange fnExactIdOfSpec)

/-- ITS FALSE NEIGHBOUR: 'it returns false'. Refute it at one input. -/
def fnExactIdOfWrong : ChangeSpec := { name := "fnExactIdOf", fn := fun _ => fun
  | [d1, d2] => { results := [.lit (.bool false)], args := [d1, d2] }
  | _ => none }
def FnExactIdOfWrongFalsely : Prop := fnExactIdOfRow.holds Try.pinned (OpenSpec.ofChange fnExactIdOfWrong)

/-- 'laws.FnExactAllKnown': WHATEVER THE INPUT: true; the input reads as it did. -/
def fnExactAllKnownSpec : ChangeSpec := { name := "fnExactAllKnown", fn := fun _ => fun
  | [d1, d2, d3] => { results := [.lit (.bool true)], args := [d1, d2, d3] }
  | _ => none }
def fnExactAllKnownRow : OpenClaim := { program := "ytbiblabmhlgnoaa", sum := "a75f1d148477050e57a72d9e44d4b56c568b93598c5eeec49cfa758596a794cc", func := "loop.example/g00379/laws.FnExactAllKnown", spec := "fnExactAllKnown", unfollowed := true, recurses := true, apart := false }
def FnExactAllKnownSaid : Prop := fnExactAllKnownRow.holds Try.pinned (OpenSpec.ofChange fnExactAllKnownSpec)

/-- ITS FALSE NEIGHBOUR: 'it returns false'. Refute it at one input. -/
def fnExactAllKnownWrong : ChangeSpec := { name := "fnExactAllKnown", fn := fun _ => fun
  | [d1, d2, d3] => { results := [.lit (.bool false)], args := [d1, d2, d3] }
  | _ => none }
def FnExactAllKnownWrongFalsely : Prop := fnExactAllKnownRow.holds Try.pinned (OpenSpec.ofChange fnExactAllKnownWrong)

/- THE SECOND FORM. 'bulk': how many values and letters a reading holds, each counted each time it is reached (what is shared counts as often as it is met; a slice's spare places count too). A statement '..UptoSaid' is the law's where the arguments, and the package variables that the reading takes, are together of bulk at most 1048576: NARROWER than '..Said'. Prove '..Said' where nothing that the law and all that it calls make is longer than what came in: it says more and counts as full. Else prove '..UptoSaid'. A law counts once. -/
mutual
def uptoBulk {H : Type} : DataW H → Nat
  | .lit (.string bytes) => bytes.length + 1
  | .lit _ => 1
  | .nil => 1
  | .ptr d => uptoBulk d + 1
  | .slice elems spare => uptoBulkAll elems + uptoBulkAll spare + 1
  | .agg parts => uptoBulkAll parts + 1
  | .iface _ d => uptoBulk d + 1
  | .map entries => uptoBulkEntries entries + 1
  | .held _ => 1
def uptoBulkAll {H : Type} : List (DataW H) → Nat
  | [] => 0
  | d :: r => uptoBulk d + uptoBulkAll r
def uptoBulkEntries {H : Type} : List (Lit × DataW H) → Nat
  | [] => 0
  | x :: r => uptoBulkEntry x + uptoBulkEntries r
def uptoBulkEntry {H : Type} : Lit × DataW H → Nat
  | (.string bytes, d) => bytes.length + uptoBulk d + 1
  | (_, d) => uptoBulk d + 1
 end
def uptoSmall : (H : Type) → List (DataW H) → Bool := fun _ ds => decide (uptoBulkAll ds ≤ 1048576)
def OpenSpec.upto (s : _root_.Go.ChangeSpec) : _root_.Go.OpenSpec := { _root_.Go.OpenSpec.ofChange s with cond := some uptoSmall }

/-- 'laws.FnIds', WHERE WHAT IT READS IS OF BULK AT MOST 1048576: true; the input reads as it did. -/
def fnIdsUptoRow : OpenClaim := { program := "ytbiblabmhlgnoaa", sum := "a75f1d148477050e57a72d9e44d4b56c568b93598c5eeec49cfa758596a794cc", func := "loop.example/g00379/laws.FnIds", spec := "fnIds", unfollowed := true, recurses := true, apart := false, narrowed := true }
def FnIdsUptoSaid : Prop := fnIdsUptoRow.holds Try.pinned (OpenSpec.upto fnIdsSpec)

/-- 'laws.FnExactIdsOk', WHERE WHAT IT READS IS OF BULK AT MOST 1048576: true; the input reads as it did. -/
def fnExactIdsOkUptoRow : OpenClaim := { program := "ytbiblabmhlgnoaa", sum := "a75f1d148477050e57a72d9e44d4b56c568b93598c5eeec49cfa758596a794cc", func := "loop.example/g00379/laws.FnExactIdsOk", spec := "fnExactIdsOk", unfollowed := true, recurses := true, apart := false, narrowed := true }
def FnExactIdsOkUptoSaid : Prop := fnExactIdsOkUptoRow.holds Try.pinned (OpenSpec.upto fnExactIdsOkSpec)

/-- 'laws.FnExactFindId', WHERE WHAT IT READS IS OF BULK AT MOST 1048576: true; the input reads as it did. -/
def fnExactFindIdUptoRow : OpenClaim := { program := "ytbiblabmhlgnoaa", sum := "a75f1d148477050e57a72d9e44d4b56c568b93598c5eeec49cfa758596a794cc", func := "loop.example/g00379/laws.FnExactFindId", spec := "fnExactFindId", unfollowed := true, recurses := true, apart := false, narrowed := true }
def FnExactFindIdUptoSaid : Prop := fnExactFindIdUptoRow.holds Try.pinned (OpenSpec.upto fnExactFindIdSpec)

/-- 'laws.FnExactIdOf', WHERE WHAT IT READS IS OF BULK AT MOST 1048576: true; the input reads as it did. -/
def fnExactIdOfUptoRow : OpenClaim := { program := "ytbiblabmhlgnoaa", sum := "a75f1d148477050e57a72d9e44d4b56c568b93598c5eeec49cfa758596a794cc", func := "loop.example/g00379/laws.FnExactIdOf", spec := "fnExactIdOf", unfollowed := true, recurses := true, apart := false, narrowed := true }
def FnExactIdOfUptoSaid : Prop := fnExactIdOfUptoRow.holds Try.pinned (OpenSpec.upto fnExactIdOfSpec)

/-- 'laws.FnExactAllKnown', WHERE WHAT IT READS IS OF BULK AT MOST 1048576: true; the input reads as it did. -/
def fnExactAllKnownUptoRow : OpenClaim := { program := "ytbiblabmhlgnoaa", sum := "a75f1d148477050e57a72d9e44d4b56c568b93598c5eeec49cfa758596a794cc", func := "loop.example/g00379/laws.FnExactAllKnown", spec := "fnExactAllKnown", unfollowed := true, recurses := true, apart := false, narrowed := true }
def FnExactAllKnownUptoSaid : Prop := fnExactAllKnownUptoRow.holds Try.pinned (OpenSpec.upto fnExactAllKnownSpec)

end Rows
end Go.Proofs.Ytbiblabmhlgnoaa
