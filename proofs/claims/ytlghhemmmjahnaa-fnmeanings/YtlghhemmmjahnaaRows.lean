/-
  No cell of these rows narrows 'for every input' (looked for: loops, veiled, ifaces, maps, wideKeys, modest, calm, conditions, laid).
  DERIVED. THE GIVEN ROWS OF THIS SEAT. 4 by the template 'for every input the law returns true; each argument reads behind the call as it read before'; 0 by the template 'total and deterministic' (their statements: YtlghhemmmjahnaaTotals.lean).
  GIVEN WITH THE SEED: the statements are not yours to turn. If you find one false, say at which input.
  Laid BY PROGRAM, IN A SANDBOX (cutbox-rows.mjs): the forced cells as the released guide's own fill.sh prints them over the translation a4db8b54dffc57e1… (all of the seat's roots in one cut). By AI agents, Wed Nov 11 2026. No macro, syntax, notation, axiom, sorry.
-/
import Derived.Test.YtlghhemmmjahnaaChecked
import GoSem.Claim
import GoSem.ClaimJoined
import GoSem.ClaimMapViews
import Derived.JoinedTies
import Derived.KernelRfl
namespace Go.Proofs.Ytlghhemmmjahnaa
/- THE CELL 'sum', in the pinned program and in every row, IS THE sha256 OF THE DUMP (.gsa) THAT YtlghhemmmjahnaaProg.lean LOADS. Nothing in Lean hashes anything: it is a label: what it is worth is what the hold of that sum in a sandbox is worth. -/
noncomputable def Try.pinned : Pinned := { name := "ytlghhemmmjahnaa", sum := "a4db8b54dffc57e179a4e1a2b3aba0784f685f29a79b71906948ae8edfecbd74", checked := Try.checked }
namespace Rows
def none {H : Type} : Left H := { results := [], args := [] }

/-- 'laws.FnMeanings': WHATEVER THE INPUT: true; the input reads as it did. -/
def fnMeaningsSpec : ChangeSpec := { name := "fnMeanings", fn := fun _ => fun
  | [d] => { results := [.lit (.bool true)], args := [d] }
  | _ => none }
def fnMeaningsRow : OpenClaim := { program := "ytlghhemmmjahnaa", sum := "a4db8b54dffc57e179a4e1a2b3aba0784f685f29a79b71906948ae8edfecbd74", func := "loop.example/g00379/laws.FnMeanings", spec := "fnMeanings", unfollowed := true, recurses := true, apart := false }
def FnMeaningsSaid : Prop := fnMeaningsRow.holds Try.pinned (OpenSpec.ofChange fnMeaningsSpec)

/-- ITS FALSE NEIGHBOUR: 'it returns false'. Refute it at one input. -/
def fnMeaningsWrong : ChangeSpec := { name := "fnMeanings", fn := fun _ => fun
  | [d] => { results := [.lit (.bool false)], args := [d] }
  | _ => none }
def FnMeaningsWrongFalsely : Prop := fnMeaningsRow.holds Try.pinned (OpenSpec.ofChange fnMeaningsWrong)

/-- 'laws.FnExactMeaning': WHATEVER THE INPUT: true; the input reads as it did. -/
def fnExactMeaningSpec : ChangeSpec := { name := "fnExactMeaning", fn := fun _ => fun
  | [d1, d2, d3] => { results := [.lit (.bool true)], args := [d1, d2, d3] }
  | _ => none }
def fnExactMeaningRow : OpenClaim := { program := "ytlghhemmmjahnaa", sum := "a4db8b54dffc57e179a4e1a2b3aba0784f685f29a79b71906948ae8edfecbd74", func := "loop.example/g00379/laws.FnExactMeaning", spec := "fnExactMeaning", unfollowed := true, recurses := true, apart := false }
def FnExactMeaningSaid : Prop := fnExactMeaningRow.holds Try.pinned (OpenSpec.ofChange fnExactMeaningSpec)

/-- ITS FALSE NEIGHBOUR: 'it returns false'. Refute it at one input. -/
def fnExactMeaningWrong : ChangeSpec := { name := "fnExactMeaning", fn := fun _ => fun
  | [d1, d2, d3] => { results := [.lit (.bool false)], args := [d1, d2, d3] }
  | _ => none }
def FnExactMeaningWrongFalsely : Prop := fnExactMeaningRow.holds Try.pinned (OpenSpec.ofChange fnExactMeaningWrong)

/-- 'laws.FnExactKnown': WHATEVER THE INPUT: true; the input reads as it did. -/
def fnExactKnownSpec : ChangeSpec := { name := "fnExactKnown", fn := fun _ => fun
  | [d1, d2, d3, d4] => { results := [.lit (.bool true)], args := [d1, d2, d3, d4] }
  | _ => none }
def fnExactKnownRow : OpenClaim := { program := "ytlghhemmmjahnaa", sum := "a4db8b54dffc57e179a4e1a2b3aba0784f685f29a79b71906948ae8edfecbd74", func := "loop.example/g00379/laws.FnExactKnown", spec := "fnExactKnown", unfollowed := true, recurses := true, apart := false }
def FnExactKnownSaid : Prop := fnExactKnownRow.holds Try.pinned (OpenSpec.ofChange fnExactKnownSpec)

/-- ITS FALSE NEIGHBOUR: 'it returns false'. Refute it at one input. -/
def fnExactKnownWrong : ChangeSpec := { name := "fnExactKnown", fn := fun _ => fun
  | [d1, d2, d3, d4] => { results := [.lit (.bool false)], args := [d1, d2, d3, d4] }
  | _ => none }
def FnExactKnownWrongFalsely : Prop := fnExactKnownRow.holds Try.pinned (OpenSpec.ofChange fnExactKnownWrong)

/-- 'laws.FnExactNamesOk': WHATEVER THE INPUT: true; the input reads as it did. -/
def fnExactNamesOkSpec : ChangeSpec := { name := "fnExactNamesOk", fn := fun _ => fun
  | [d] => { results := [.lit (.bool true)], args := [d] }
  | _ => none }
def fnExactNamesOkRow : OpenClaim := { program := "ytlghhemmmjahnaa", sum := "a4db8b54dffc57e179a4e1a2b3aba0784f685f29a79b71906948ae8edfecbd74", func := "loop.example/g00379/laws.FnExactNamesOk", spec := "fnExactNamesOk", unfollowed := true, recurses := true, apart := false }
def FnExactNamesOkSaid : Prop := fnExactNamesOkRow.holds Try.pinned (OpenSpec.ofChange fnExactNamesOkSpec)

/-- ITS FALSE NEIGHBOUR: 'it returns false'. Refute it at one input. -/
def fnExactNamesOkWrong : ChangeSpec := { name := "fnExactNamesOk", fn := fun _ => fun
  | [d] => { results := [.lit (.bool false)], args := [d] }
  | _ => none }
def FnExactNamesOkWrongFalsely : Prop := fnExactNamesOkRow.holds Try.pinned (OpenSpec.ofChange fnExactNamesOkWrong)

/- THE SECOND FORM. 'bulk': how many values and letters a reading holds, each counted each time it is reached (what is shared counts as often as it is met; a slice's spare places count too). A statement '..UptoSaid' is the law's where the arguments, and the package variables that the reading takes, are together of bulk at most 1048576: NARROWER than '..Said'. Prove '..Said' where nothing that the law and all that it calls make is longer than what came in: it says more and counts as full. Else prove '..UptoSaid'. A law counts once. -/
mutual
def uptoBulk {H : Type} : DataW H → Nat
  | .lit (.string bytes) => bytes.length + 1
  | .lit _ => 1
  | .nil => 1
  | .ptr d => uptoBulk d + 1
  | .slice elems spare => uptoBulkAll elems + uptoBulkAll spare + 1
  | .agg parts => uptoBulkAll parts + 1
  | .iface _ d => uptoBulk d + 1
  | .map entries => uptoBulkEntries entries + 1
  | .held _ => 1
def uptoBulkAll {H : Type} : List (DataW H) → Nat
  | [] => 0
  | d :: r => uptoBulk d + uptoBulkAll r
def uptoBulkEntries {H : Type} : List (Lit × DataW H) → Nat
  | [] => 0
  | x :: r => uptoBulkEntry x + uptoBulkEntries r
def uptoBulkEntry {H : Type} : Lit × DataW H → Nat
  | (.string bytes, d) => bytes.length + uptoBulk d + 1
  | (_, d) => uptoBulk d + 1
 end
def uptoSmall : (H : Type) → List (DataW H) → Bool := fun _ ds => decide (uptoBulkAll ds ≤ 1048576)
def OpenSpec.upto (s : _root_.Go.ChangeSpec) : _root_.Go.OpenSpec := { _root_.Go.OpenSpec.ofChange s with cond := some uptoSmall }

/-- 'laws.FnMeanings', WHERE WHAT IT READS IS OF BULK AT MOST 1048576: true; the input reads as it did. -/
def fnMeaningsUptoRow : OpenClaim := { program := "ytlghhemmmjahnaa", sum := "a4db8b54dffc57e179a4e1a2b3aba0784f685f29a79b71906948ae8edfecbd74", func := "loop.example/g00379/laws.FnMeanings", spec := "fnMeanings", unfollowed := true, recurses := true, apart := false, narrowed := true }
def FnMeaningsUptoSaid : Prop := fnMeaningsUptoRow.holds Try.pinned (OpenSpec.upto fnMeaningsSpec)

/-- 'laws.FnExactMeaning', WHERE WHAT IT READS IS OF BULK AT MOST 1048576: true; the input reads as it did. -/
def fnExactMeaningUptoRow : OpenClaim := { program := "ytlghhemmmjahnaa", sum := "a4db8b54dffc57e179a4e1a2b3aba0784f685f29a79b71906948ae8edfecbd74", func := "loop.example/g00379/laws.FnExactMeaning", spec := "fnExactMeaning", unfollowed := true, recurses := true, apart := false, narrowed := true }
def FnExactMeaningUptoSaid : Prop := fnExactMeaningUptoRow.holds Try.pinned (OpenSpec.upto fnExactMeaningSpec)

/-- 'laws.FnExactKnown', WHERE WHAT IT READS IS OF BULK AT MOST 1048576: true; the input reads as it did. -/
def fnExactKnownUptoRow : OpenClaim := { program := "ytlghhemmmjahnaa", sum := "a4db8b54dffc57e179a4e1a2b3aba0784f685f29a79b71906948ae8edfecbd74", func := "loop.example/g00379/laws.FnExactKnown", spec := "fnExactKnown", unfollowed := true, recurses := true, apart := false, narrowed := true }
def FnExactKnownUptoSaid : Prop := fnExactKnownUptoRow.holds Try.pinned (OpenSpec.upto fnExactKnownSpec)

/-- 'laws.FnExactNamesOk', WHERE WHAT IT READS IS OF BULK AT MOST 1048576: true; the input reads as it did. -/
def fnExactNamesOkUptoRow : OpenClaim := { program := "ytlghhemmmjahnaa", sum := "a4db8b54dffc57e179a4e1a2b3aba0784f685f29a79b71906948ae8edfecbd74", func := "loop.example/g00379/laws.FnExactNamesOk", spec := "fnExactNamesOk", unfollowed := true, recurses := true, apart := false, narrowed := true }
def FnExactNamesOkUptoSaid : Prop := fnExactNamesOkUptoRow.holds Try.pinned (OpenSpec.upto fnExactNamesOkSpec)

end Rows
end Go.Proofs.Ytlghhemmmjahnaa
