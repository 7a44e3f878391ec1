/-
  NARROWER THAN 'FOR EVERY INPUT', by the rows' own cells (each row's printed sentence says how): FnAsked: ifaces, laid · FnExactTicked: ifaces, laid.
  DERIVED. THE GIVEN ROWS OF THIS SEAT. 2 by the template 'for every input the law returns true; each argument reads behind the call as it read before'; 0 by the template 'total and deterministic' (their statements: YtgdfeicojgnoaaaGreatDoorTotals.lean).
  GIVEN WITH THE SEED: the statements are not yours to turn. If you find one false, say at which input.
  Laid BY PROGRAM, IN A SANDBOX (cutbox-rows.mjs): the forced cells as the released guide's own fill.sh prints them over the translation 20ecaa117ff0e292… (all of the seat's roots in one cut). By AI agents, Wed Nov 11 2026. No macro, syntax, notation, axiom, sorry.
-/
import Derived.Test.YtgdfeicojgnoaaaGreatDoorChecked
import GoSem.Claim
import GoSem.ClaimJoined
import GoSem.ClaimMapViews
import Derived.JoinedTies
import Derived.KernelRfl
namespace Go.Proofs.YtgdfeicojgnoaaaGreatDoor
/- THE CELL 'sum', in the pinned program and in every row, IS THE sha256 OF THE DUMP (.gsa) THAT YtgdfeicojgnoaaaGreatDoorProg.lean LOADS. Nothing in Lean hashes anything: it is a label: what it is worth is what the hold of that sum in a sandbox is worth. -/
noncomputable def Tryz.pinned : Pinned := { name := "ytgdfeicojgnoaaagreatdoor", sum := "20ecaa117ff0e292a194a2e489d342878c8d172f85832c1b50a48c7b280822eb", checked := Tryz.checked }
namespace Rows
def none {H : Type} : Left H := { results := [], args := [] }

/- WHAT THE LISTED PACKAGE-LEVEL VARIABLES READ AS WHEN THE CALL BEGINS. Each datum BY PROGRAM (the guide's laid-datum.mjs) off the statement by which the dump's own 'gosem.cut.vars' lays the variable. In a bare row this is a premise. The card (YtgdfeicojgnoaaaGreatDoorCards.lean) ties it to the program's text. -/
def laid_errors_errorType {H : Type} : DataW H := .iface "internal/reflectlite.rtype" (.agg [.ptr (.lit (.string [101, 114, 114, 111, 114]))])
def laid_loop_example_g00379_impl_errNotRight {H : Type} : DataW H := .iface "*errors.errorString" (.ptr (.agg [.lit (.string [119, 104, 97, 116, 32, 119, 97, 115, 32, 103, 105, 118, 101, 110, 32, 105, 115, 32, 110, 111, 116, 32, 114, 105, 103, 104, 116])]))
def laid_loop_example_g00379_impl_errThere {H : Type} : DataW H := .iface "*errors.errorString" (.ptr (.agg [.lit (.string [116, 104, 101, 114, 101, 32, 105, 115, 32, 111, 110, 101, 32, 111, 102, 32, 116, 104, 105, 115, 32, 73, 100, 32, 97, 108, 114, 101, 97, 100, 121])]))
def laid_loop_example_g00379_impl_errNotSo {H : Type} : DataW H := .iface "*errors.errorString" (.ptr (.agg [.lit (.string [105, 116, 32, 105, 115, 32, 110, 111, 116, 32, 97, 115, 32, 105, 116, 32, 115, 104, 111, 117, 108, 100, 32, 98, 101])]))

/-- 'laws.FnAsked': WHATEVER THE INPUT: true; the input reads as it did. -/
def fnAskedSpec : ChangeSpec := { name := "fnAsked", vars := ["loop.example/g00379/impl.errNotRight", "loop.example/g00379/impl.errNotSo", "loop.example/g00379/impl.errThere"], fn := fun _ => fun
  | [d, g1, g2, g3] => { results := [.lit (.bool true)], args := [d], vars := [g1, g2, g3] }
  | _ => none }
def fnAskedRow : OpenClaim := { program := "ytgdfeicojgnoaaagreatdoor", sum := "20ecaa117ff0e292a194a2e489d342878c8d172f85832c1b50a48c7b280822eb", func := "loop.example/g00379/laws.FnAsked", spec := "fnAsked", inPlace := ["internal/bytealg.abigen_runtime_cmpstring", "internal/reflectlite.TypeOf", "slices.overlaps[loop.example/g00379/impl.Row]", "internal/reflectlite.ValueOf", "(internal/reflectlite.Value).Type", "(internal/reflectlite.Value).IsNil", "(internal/reflectlite.Value).Elem", "(internal/reflectlite.Value).Set"], unfollowed := true, recurses := true, named := ["loop.example/g00379/impl.errNotRight", "loop.example/g00379/impl.errNotSo", "loop.example/g00379/impl.errThere", "errors.errorType"], ifaces := true, apart := false, laid := [("errors.errorType", laid_errors_errorType), ("loop.example/g00379/impl.errNotRight", laid_loop_example_g00379_impl_errNotRight), ("loop.example/g00379/impl.errThere", laid_loop_example_g00379_impl_errThere), ("loop.example/g00379/impl.errNotSo", laid_loop_example_g00379_impl_errNotSo)] }
def FnAskedSaid : Prop := fnAskedRow.holds Tryz.pinned (OpenSpec.ofChange fnAskedSpec)

/-- ITS FALSE NEIGHBOUR: 'it returns false'. Refute it at one input. -/
def fnAskedWrong : ChangeSpec := { name := "fnAsked", vars := ["loop.example/g00379/impl.errNotRight", "loop.example/g00379/impl.errNotSo", "loop.example/g00379/impl.errThere"], fn := fun _ => fun
  | [d, g1, g2, g3] => { results := [.lit (.bool false)], args := [d], vars := [g1, g2, g3] }
  | _ => none }
def FnAskedWrongFalsely : Prop := fnAskedRow.holds Tryz.pinned (OpenSpec.ofChange fnAskedWrong)

/-- 'laws.FnExactTicked': WHATEVER THE INPUT: true; the input reads as it did. -/
def fnExactTickedSpec : ChangeSpec := { name := "fnExactTicked", vars := ["loop.example/g00379/impl.errNotRight", "loop.example/g00379/impl.errNotSo"], fn := fun _ => fun
  | [d1, d2, g1, g2] => { results := [.lit (.bool true)], args := [d1, d2], vars := [g1, g2] }
  | _ => none }
def fnExactTickedRow : OpenClaim := { program := "ytgdfeicojgnoaaagreatdoor", sum := "20ecaa117ff0e292a194a2e489d342878c8d172f85832c1b50a48c7b280822eb", func := "loop.example/g00379/laws.FnExactTicked", spec := "fnExactTicked", inPlace := ["internal/bytealg.abigen_runtime_cmpstring", "internal/reflectlite.TypeOf"], unfollowed := true, recurses := true, named := ["loop.example/g00379/impl.errNotRight", "loop.example/g00379/impl.errNotSo"], ifaces := true, apart := false, laid := [("loop.example/g00379/impl.errNotRight", laid_loop_example_g00379_impl_errNotRight), ("loop.example/g00379/impl.errNotSo", laid_loop_example_g00379_impl_errNotSo)] }
def FnExactTickedSaid : Prop := fnExactTickedRow.holds Tryz.pinned (OpenSpec.ofChange fnExactTickedSpec)

/-- ITS FALSE NEIGHBOUR: 'it returns false'. Refute it at one input. -/
def fnExactTickedWrong : ChangeSpec := { name := "fnExactTicked", vars := ["loop.example/g00379/impl.errNotRight", "loop.example/g00379/impl.errNotSo"], fn := fun _ => fun
  | [d1, d2, g1, g2] => { results := [.lit (.bool false)], args := [d1, d2], vars := [g1, g2] }
  | _ => none }
def FnExactTickedWrongFalsely : Prop := fnExactTickedRow.holds Tryz.pinned (OpenSpec.ofChange fnExactTickedWrong)

/- THE SECOND FORM. 'bulk': how many values and letters a reading holds, each counted each time it is reached (what is shared counts as often as it is met; a slice's spare places count too). A statement '..UptoSaid' is the law's where the arguments, and the package variables that the reading takes, are together of bulk at most 1048576: NARROWER than '..Said'. Prove '..Said' where nothing that the law and all that it calls make is longer than what came in: it says more and counts as full. Else prove '..UptoSaid'. A law counts once. -/
mutual
def uptoBulk {H : Type} : DataW H → Nat
  | .lit (.string bytes) => bytes.length + 1
  | .lit _ => 1
  | .nil => 1
  | .ptr d => uptoBulk d + 1
  | .slice elems spare => uptoBulkAll elems + uptoBulkAll spare + 1
  | .agg parts => uptoBulkAll parts + 1
  | .iface _ d => uptoBulk d + 1
  | .map entries => uptoBulkEntries entries + 1
  | .held _ => 1
def uptoBulkAll {H : Type} : List (DataW H) → Nat
  | [] => 0
  | d :: r => uptoBulk d + uptoBulkAll r
def uptoBulkEntries {H : Type} : List (Lit × DataW H) → Nat
  | [] => 0
  | x :: r => uptoBulkEntry x + uptoBulkEntries r
def uptoBulkEntry {H : Type} : Lit × DataW H → Nat
  | (.string bytes, d) => bytes.length + uptoBulk d + 1
  | (_, d) => uptoBulk d + 1
 end
def uptoSmall : (H : Type) → List (DataW H) → Bool := fun _ ds => decide (uptoBulkAll ds ≤ 1048576)
def OpenSpec.upto (s : _root_.Go.ChangeSpec) : _root_.Go.OpenSpec := { _root_.Go.OpenSpec.ofChange s with cond := some uptoSmall }

/-- 'laws.FnAsked', WHERE WHAT IT READS IS OF BULK AT MOST 1048576: true; the input reads as it did. -/
def fnAskedUptoRow : OpenClaim := { program := "ytgdfeicojgnoaaagreatdoor", sum := "20ecaa117ff0e292a194a2e489d342878c8d172f85832c1b50a48c7b280822eb", func := "loop.example/g00379/laws.FnAsked", spec := "fnAsked", inPlace := ["internal/bytealg.abigen_runtime_cmpstring", "internal/reflectlite.TypeOf", "slices.overlaps[loop.example/g00379/impl.Row]", "internal/reflectlite.ValueOf", "(internal/reflectlite.Value).Type", "(internal/reflectlite.Value).IsNil", "(internal/reflectlite.Value).Elem", "(internal/reflectlite.Value).Set"], unfollowed := true, recurses := true, named := ["loop.example/g00379/impl.errNotRight", "loop.example/g00379/impl.errNotSo", "loop.example/g00379/impl.errThere", "errors.errorType"], ifaces := true, apart := false, laid := [("errors.errorType", laid_errors_errorType), ("loop.example/g00379/impl.errNotRight", laid_loop_example_g00379_impl_errNotRight), ("loop.example/g00379/impl.errThere", laid_loop_example_g00379_impl_errThere), ("loop.example/g00379/impl.errNotSo", laid_loop_example_g00379_impl_errNotSo)], narrowed := true }
def FnAskedUptoSaid : Prop := fnAskedUptoRow.holds Tryz.pinned (OpenSpec.upto fnAskedSpec)

/-- 'laws.FnExactTicked', WHERE WHAT IT READS IS OF BULK AT MOST 1048576: true; the input reads as it did. -/
def fnExactTickedUptoRow : OpenClaim := { program := "ytgdfeicojgnoaaagreatdoor", sum := "20ecaa117ff0e292a194a2e489d342878c8d172f85832c1b50a48c7b280822eb", func := "loop.example/g00379/laws.FnExactTicked", spec := "fnExactTicked", inPlace := ["internal/bytealg.abigen_runtime_cmpstring", "internal/reflectlite.TypeOf"], unfollowed := true, recurses := true, named := ["loop.example/g00379/impl.errNotRight", "loop.example/g00379/impl.errNotSo"], ifaces := true, apart := false, laid := [("loop.example/g00379/impl.errNotRight", laid_loop_example_g00379_impl_errNotRight), ("loop.example/g00379/impl.errNotSo", laid_loop_example_g00379_impl_errNotSo)], narrowed := true }
def FnExactTickedUptoSaid : Prop := fnExactTickedUptoRow.holds Tryz.pinned (OpenSpec.upto fnExactTickedSpec)

end Rows
end Go.Proofs.YtgdfeicojgnoaaaGreatDoor
