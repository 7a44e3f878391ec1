/-
  No cell of these rows narrows 'for every input' (looked for: loops, veiled, ifaces, maps, wideKeys, modest, calm, conditions, laid).
  DERIVED. THE GIVEN ROWS OF THIS SEAT. 6 by the template 'for every input the law returns true; each argument reads behind the call as it read before'; 0 by the template 'total and deterministic' (their statements: YtmghipjpgoghlaaGreatTotals.lean).
  GIVEN WITH THE SEED: the statements are not yours to turn. If you find one false, say at which input.
  Laid BY PROGRAM, IN A SANDBOX (cutbox-rows.mjs): the forced cells as the released guide's own fill.sh prints them over the translation 13d49aa707b3eace… (all of the seat's roots in one cut). By AI agents, Wed Nov 11 2026. No macro, syntax, notation, axiom, sorry.
-/
import Derived.Test.YtmghipjpgoghlaaGreatChecked
import GoSem.Claim
import GoSem.ClaimJoined
import GoSem.ClaimMapViews
import Derived.JoinedTies
import Derived.KernelRfl
namespace Go.Proofs.YtmghipjpgoghlaaGreat
/- THE CELL 'sum', in the pinned program and in every row, IS THE sha256 OF THE DUMP (.gsa) THAT YtmghipjpgoghlaaGreatProg.lean LOADS. Nothing in Lean hashes anything: it is a label: what it is worth is what the hold of that sum in a sandbox is worth. -/
noncomputable def Tryz.pinned : Pinned := { name := "ytmghipjpgoghlaagreat", sum := "13d49aa707b3eace75f9b0bd164a10598447b111144953f98a3ea620da306ff9", checked := Tryz.checked }
namespace Rows
def none {H : Type} : Left H := { results := [], args := [] }

/-- 'laws.FnCanon': WHATEVER THE INPUT: true; the input reads as it did. -/
def fnCanonSpec : ChangeSpec := { name := "fnCanon", fn := fun _ => fun
  | [d] => { results := [.lit (.bool true)], args := [d] }
  | _ => none }
def fnCanonRow : OpenClaim := { program := "ytmghipjpgoghlaagreat", sum := "13d49aa707b3eace75f9b0bd164a10598447b111144953f98a3ea620da306ff9", func := "loop.example/g00379/laws.FnCanon", spec := "fnCanon", inPlace := ["internal/abi.NoEscape"], unfollowed := true, recurses := true, apart := false }
def FnCanonSaid : Prop := fnCanonRow.holds Tryz.pinned (OpenSpec.ofChange fnCanonSpec)

/-- ITS FALSE NEIGHBOUR: 'it returns false'. Refute it at one input. -/
def fnCanonWrong : ChangeSpec := { name := "fnCanon", fn := fun _ => fun
  | [d] => { results := [.lit (.bool false)], args := [d] }
  | _ => none }
def FnCanonWrongFalsely : Prop := fnCanonRow.holds Tryz.pinned (OpenSpec.ofChange fnCanonWrong)

/-- 'laws.FnOrderless': WHATEVER THE INPUT: true; the input reads as it did. -/
def fnOrderlessSpec : ChangeSpec := { name := "fnOrderless", fn := fun _ => fun
  | [d] => { results := [.lit (.bool true)], args := [d] }
  | _ => none }
def fnOrderlessRow : OpenClaim := { program := "ytmghipjpgoghlaagreat", sum := "13d49aa707b3eace75f9b0bd164a10598447b111144953f98a3ea620da306ff9", func := "loop.example/g00379/laws.FnOrderless", spec := "fnOrderless", inPlace := ["internal/abi.NoEscape"], unfollowed := true, recurses := true, apart := false }
def FnOrderlessSaid : Prop := fnOrderlessRow.holds Tryz.pinned (OpenSpec.ofChange fnOrderlessSpec)

/-- ITS FALSE NEIGHBOUR: 'it returns false'. Refute it at one input. -/
def fnOrderlessWrong : ChangeSpec := { name := "fnOrderless", fn := fun _ => fun
  | [d] => { results := [.lit (.bool false)], args := [d] }
  | _ => none }
def FnOrderlessWrongFalsely : Prop := fnOrderlessRow.holds Tryz.pinned (OpenSpec.ofChange fnOrderlessWrong)

/-- 'laws.FnElsewhere': WHATEVER THE INPUT: true; the input reads as it did. -/
def fnElsewhereSpec : ChangeSpec := { name := "fnElsewhere", fn := fun _ => fun
  | [d] => { results := [.lit (.bool true)], args := [d] }
  | _ => none }
def fnElsewhereRow : OpenClaim := { program := "ytmghipjpgoghlaagreat", sum := "13d49aa707b3eace75f9b0bd164a10598447b111144953f98a3ea620da306ff9", func := "loop.example/g00379/laws.FnElsewhere", spec := "fnElsewhere", inPlace := ["internal/abi.NoEscape"], unfollowed := true, recurses := true, apart := false }
def FnElsewhereSaid : Prop := fnElsewhereRow.holds Tryz.pinned (OpenSpec.ofChange fnElsewhereSpec)

/-- ITS FALSE NEIGHBOUR: 'it returns false'. Refute it at one input. -/
def fnElsewhereWrong : ChangeSpec := { name := "fnElsewhere", fn := fun _ => fun
  | [d] => { results := [.lit (.bool false)], args := [d] }
  | _ => none }
def FnElsewhereWrongFalsely : Prop := fnElsewhereRow.holds Tryz.pinned (OpenSpec.ofChange fnElsewhereWrong)

/-- 'laws.FnExactCanon': WHATEVER THE INPUT: true; the input reads as it did. -/
def fnExactCanonSpec : ChangeSpec := { name := "fnExactCanon", fn := fun _ => fun
  | [d1, d2, d3] => { results := [.lit (.bool true)], args := [d1, d2, d3] }
  | _ => none }
def fnExactCanonRow : OpenClaim := { program := "ytmghipjpgoghlaagreat", sum := "13d49aa707b3eace75f9b0bd164a10598447b111144953f98a3ea620da306ff9", func := "loop.example/g00379/laws.FnExactCanon", spec := "fnExactCanon", inPlace := ["internal/abi.NoEscape"], unfollowed := true, recurses := true, apart := false }
def FnExactCanonSaid : Prop := fnExactCanonRow.holds Tryz.pinned (OpenSpec.ofChange fnExactCanonSpec)

/-- ITS FALSE NEIGHBOUR: 'it returns false'. Refute it at one input. -/
def fnExactCanonWrong : ChangeSpec := { name := "fnExactCanon", fn := fun _ => fun
  | [d1, d2, d3] => { results := [.lit (.bool false)], args := [d1, d2, d3] }
  | _ => none }
def FnExactCanonWrongFalsely : Prop := fnExactCanonRow.holds Tryz.pinned (OpenSpec.ofChange fnExactCanonWrong)

/-- 'laws.FnExactCanonAll': WHATEVER THE INPUT: true; the input reads as it did. -/
def fnExactCanonAllSpec : ChangeSpec := { name := "fnExactCanonAll", fn := fun _ => fun
  | [d] => { results := [.lit (.bool true)], args := [d] }
  | _ => none }
def fnExactCanonAllRow : OpenClaim := { program := "ytmghipjpgoghlaagreat", sum := "13d49aa707b3eace75f9b0bd164a10598447b111144953f98a3ea620da306ff9", func := "loop.example/g00379/laws.FnExactCanonAll", spec := "fnExactCanonAll", inPlace := ["internal/abi.NoEscape"], unfollowed := true, recurses := true, apart := false }
def FnExactCanonAllSaid : Prop := fnExactCanonAllRow.holds Tryz.pinned (OpenSpec.ofChange fnExactCanonAllSpec)

/-- ITS FALSE NEIGHBOUR: 'it returns false'. Refute it at one input. -/
def fnExactCanonAllWrong : ChangeSpec := { name := "fnExactCanonAll", fn := fun _ => fun
  | [d] => { results := [.lit (.bool false)], args := [d] }
  | _ => none }
def FnExactCanonAllWrongFalsely : Prop := fnExactCanonAllRow.holds Tryz.pinned (OpenSpec.ofChange fnExactCanonAllWrong)

/-- 'laws.FnExactSameCanon': WHATEVER THE INPUT: true; the input reads as it did. -/
def fnExactSameCanonSpec : ChangeSpec := { name := "fnExactSameCanon", fn := fun _ => fun
  | [d1, d2] => { results := [.lit (.bool true)], args := [d1, d2] }
  | _ => none }
def fnExactSameCanonRow : OpenClaim := { program := "ytmghipjpgoghlaagreat", sum := "13d49aa707b3eace75f9b0bd164a10598447b111144953f98a3ea620da306ff9", func := "loop.example/g00379/laws.FnExactSameCanon", spec := "fnExactSameCanon", inPlace := ["internal/abi.NoEscape"], unfollowed := true, recurses := true, apart := false }
def FnExactSameCanonSaid : Prop := fnExactSameCanonRow.holds Tryz.pinned (OpenSpec.ofChange fnExactSameCanonSpec)

/-- ITS FALSE NEIGHBOUR: 'it returns false'. Refute it at one input. -/
def fnExactSameCanonWrong : ChangeSpec := { name := "fnExactSameCanon", fn := fun _ => fun
  | [d1, d2] => { results := [.lit (.bool false)], args := [d1, d2] }
  | _ => none }
def FnExactSameCanonWrongFalsely : Prop := fnExactSameCanonRow.holds Tryz.pinned (OpenSpec.ofChange fnExactSameCanonWrong)

/- THE SECOND FORM. 'bulk': how many values and letters a reading holds, each counted each time it is reached (what is shared counts as often as it is met; a slice's spare places count too). A statement '..UptoSaid' is the law's where the arguments, and the package variables that the reading takes, are together of bulk at most 1048576: NARROWER than '..Said'. Prove '..Said' where nothing that the law and all that it calls make is longer than what came in: it says more and counts as full. Else prove '..UptoSaid'. A law counts once. -/
mutual
def uptoBulk {H : Type} : DataW H → Nat
  | .lit (.string bytes) => bytes.length + 1
  | .lit _ => 1
  | .nil => 1
  | .ptr d => uptoBulk d + 1
  | .slice elems spare => uptoBulkAll elems + uptoBulkAll spare + 1
  | .agg parts => uptoBulkAll parts + 1
  | .iface _ d => uptoBulk d + 1
  | .map entries => uptoBulkEntries entries + 1
  | .held _ => 1
def uptoBulkAll {H : Type} : List (DataW H) → Nat
  | [] => 0
  | d :: r => uptoBulk d + uptoBulkAll r
def uptoBulkEntries {H : Type} : List (Lit × DataW H) → Nat
  | [] => 0
  | x :: r => uptoBulkEntry x + uptoBulkEntries r
def uptoBulkEntry {H : Type} : Lit × DataW H → Nat
  | (.string bytes, d) => bytes.length + uptoBulk d + 1
  | (_, d) => uptoBulk d + 1
 end
def uptoSmall : (H : Type) → List (DataW H) → Bool := fun _ ds => decide (uptoBulkAll ds ≤ 1048576)
def OpenSpec.upto (s : _root_.Go.ChangeSpec) : _root_.Go.OpenSpec := { _root_.Go.OpenSpec.ofChange s with cond := some uptoSmall }

/-- 'laws.FnCanon', WHERE WHAT IT READS IS OF BULK AT MOST 1048576: true; the input reads as it did. -/
def fnCanonUptoRow : OpenClaim := { program := "ytmghipjpgoghlaagreat", sum := "13d49aa707b3eace75f9b0bd164a10598447b111144953f98a3ea620da306ff9", func := "loop.example/g00379/laws.FnCanon", spec := "fnCanon", inPlace := ["internal/abi.NoEscape"], unfollowed := true, recurses := true, apart := false, narrowed := true }
def FnCanonUptoSaid : Prop := fnCanonUptoRow.holds Tryz.pinned (OpenSpec.upto fnCanonSpec)

/-- 'laws.FnOrderless', WHERE WHAT IT READS IS OF BULK AT MOST 1048576: true; the input reads as it did. -/
def fnOrderlessUptoRow : OpenClaim := { program := "ytmghipjpgoghlaagreat", sum := "13d49aa707b3eace75f9b0bd164a10598447b111144953f98a3ea620da306ff9", func := "loop.example/g00379/laws.FnOrderless", spec := "fnOrderless", inPlace := ["internal/abi.NoEscape"], unfollowed := true, recurses := true, apart := false, narrowed := true }
def FnOrderlessUptoSaid : Prop := fnOrderlessUptoRow.holds Tryz.pinned (OpenSpec.upto fnOrderlessSpec)

/-- 'laws.FnElsewhere', WHERE WHAT IT READS IS OF BULK AT MOST 1048576: true; the input reads as it did. -/
def fnElsewhereUptoRow : OpenClaim := { program := "ytmghipjpgoghlaagreat", sum := "13d49aa707b3eace75f9b0bd164a10598447b111144953f98a3ea620da306ff9", func := "loop.example/g00379/laws.FnElsewhere", spec := "fnElsewhere", inPlace := ["internal/abi.NoEscape"], unfollowed := true, recurses := true, apart := false, narrowed := true }
def FnElsewhereUptoSaid : Prop := fnElsewhereUptoRow.holds Tryz.pinned (OpenSpec.upto fnElsewhereSpec)

/-- 'laws.FnExactCanon', WHERE WHAT IT READS IS OF BULK AT MOST 1048576: true; the input reads as it did. -/
def fnExactCanonUptoRow : OpenClaim := { program := "ytmghipjpgoghlaagreat", sum := "13d49aa707b3eace75f9b0bd164a10598447b111144953f98a3ea620da306ff9", func := "loop.example/g00379/laws.FnExactCanon", spec := "fnExactCanon", inPlace := ["internal/abi.NoEscape"], unfollowed := true, recurses := true, apart := false, narrowed := true }
def FnExactCanonUptoSaid : Prop := fnExactCanonUptoRow.holds Tryz.pinned (OpenSpec.upto fnExactCanonSpec)

/-- 'laws.FnExactCanonAll', WHERE WHAT IT READS IS OF BULK AT MOST 1048576: true; the input reads as it did. -/
def fnExactCanonAllUptoRow : OpenClaim := { program := "ytmghipjpgoghlaagreat", sum := "13d49aa707b3eace75f9b0bd164a10598447b111144953f98a3ea620da306ff9", func := "loop.example/g00379/laws.FnExactCanonAll", spec := "fnExactCanonAll", inPlace := ["internal/abi.NoEscape"], unfollowed := true, recurses := true, apart := false, narrowed := true }
def FnExactCanonAllUptoSaid : Prop := fnExactCanonAllUptoRow.holds Tryz.pinned (OpenSpec.upto fnExactCanonAllSpec)

/-- 'laws.FnExactSameCanon', WHERE WHAT IT READS IS OF BULK AT MOST 1048576: true; the input reads as it did. -/
def fnExactSameCanonUptoRow : OpenClaim := { program := "ytmghipjpgoghlaagreat", sum := "13d49aa707b3eace75f9b0bd164a10598447b111144953f98a3ea620da306ff9", func := "loop.example/g00379/laws.FnExactSameCanon", spec := "fnExactSameCanon", inPlace := ["internal/abi.NoEscape"], unfollowed := true, recurses := true, apart := false, narrowed := true }
def FnExactSameCanonUptoSaid : Prop := fnExactSameCanonUptoRow.holds Tryz.pinned (OpenSpec.upto fnExactSameCanonSpec)

end Rows
end Go.Proofs.YtmghipjpgoghlaaGreat
