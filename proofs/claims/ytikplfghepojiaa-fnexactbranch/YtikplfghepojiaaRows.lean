/-
  No cell of these rows narrows 'for every input' (looked for: loops, veiled, ifaces, maps, wideKeys, modest, calm, conditions, laid).
  DERIVED. THE GIVEN ROWS OF THIS SEAT. 6 by the template 'for every input the law returns true; each argument reads behind the call as it read before'; 0 by the template 'total and deterministic' (their statements: YtikplfghepojiaaTotals.lean).
  GIVEN WITH THE SEED: the statements are not yours to turn. If you find one false, say at which input.
  Laid BY PROGRAM, IN A SANDBOX (cutbox-rows.mjs): the forced cells as the released guide's own fill.sh prints them over the translation c0f11abe09018ffd… (all of the seat's roots in one cut). By AI agents, Wed Nov 11 2026. No macro, syntax, notation, axiom, sorry.
-/
import Derived.Test.YtikplfghepojiaaChecked
import GoSem.Claim
import GoSem.ClaimJoined
import GoSem.ClaimMapViews
import Derived.JoinedTies
import Derived.KernelRfl
namespace Go.Proofs.Ytikplfghepojiaa
/- THE CELL 'sum', in the pinned program and in every row, IS THE sha256 OF THE DUMP (.gsa) THAT YtikplfghepojiaaProg.lean LOADS. Nothing in Lean hashes anything: it is a label: what it is worth is what the hold of that sum in a sandbox is worth. -/
noncomputable def Try.pinned : Pinned := { name := "ytikplfghepojiaa", sum := "c0f11abe09018ffd872a2ed064aa39187ef9fc79dbff27b4ce294f386b1abd47", checked := Try.checked }
namespace Rows
def none {H : Type} : Left H := { results := [], args := [] }

/-- 'laws.FnBranches': WHATEVER THE INPUT: true; the input reads as it did. -/
def fnBranchesSpec : ChangeSpec := { name := "fnBranches", fn := fun _ => fun
  | [d] => { results := [.lit (.bool true)], args := [d] }
  | _ => none }
def fnBranchesRow : OpenClaim := { program := "ytikplfghepojiaa", sum := "c0f11abe09018ffd872a2ed064aa39187ef9fc79dbff27b4ce294f386b1abd47", func := "loop.example/g00379/laws.FnBranches", spec := "fnBranches", unfollowed := true, recurses := true, apart := false }
def FnBranchesSaid : Prop := fnBranchesRow.holds Try.pinned (OpenSpec.ofChange fnBranchesSpec)

/-- ITS FALSE NEIGHBOUR: 'it returns false'. Refute it at one input. -/
def fnBranchesWrong : ChangeSpec := { name := "fnBranches", fn := fun _ => fun
  | [d] => { results := [.lit (.bool false)], args := [d] }
  | _ => none }
def FnBranchesWrongFalsely : Prop := fnBranchesRow.holds Try.pinned (OpenSpec.ofChange fnBranchesWrong)

/-- 'laws.FnGrafts': WHATEVER THE INPUT: true; the input reads as it did. -/
def fnGraftsSpec : ChangeSpec := { name := "fnGrafts", fn := fun _ => fun
  | [d] => { results := [.lit (.bool true)], args := [d] }
  | _ => none }
def fnGraftsRow : OpenClaim := { program := "ytikplfghepojiaa", sum := "c0f11abe09018ffd872a2ed064aa39187ef9fc79dbff27b4ce294f386b1abd47", func := "loop.example/g00379/laws.FnGrafts", spec := "fnGrafts", unfollowed := true, recurses := true, apart := false }
def FnGraftsSaid : Prop := fnGraftsRow.holds Try.pinned (OpenSpec.ofChange fnGraftsSpec)

/-- ITS FALSE NEIGHBOUR: 'it returns false'. Refute it at one input. -/
def fnGraftsWrong : ChangeSpec := { name := "fnGrafts", fn := fun _ => fun
  | [d] => { results := [.lit (.bool false)], args := [d] }
  | _ => none }
def FnGraftsWrongFalsely : Prop := fnGraftsRow.holds Try.pinned (OpenSpec.ofChange fnGraftsWrong)

/-- 'laws.FnExactBranch': WHATEVER THE INPUT: true; the input reads as it did. -/
def fnExactBranchSpec : ChangeSpec := { name := "fnExactBranch", fn := fun _ => fun
  | [d1, d2] => { results := [.lit (.bool true)], args := [d1, d2] }
  | _ => none }
def fnExactBranchRow : OpenClaim := { program := "ytikplfghepojiaa", sum := "c0f11abe09018ffd872a2ed064aa39187ef9fc79dbff27b4ce294f386b1abd47", func := "loop.example/g00379/laws.FnExactBranch", spec := "fnExactBranch", unfollowed := true, recurses := true, apart := false }
def FnExactBranchSaid : Prop := fnExactBranchRow.holds Try.pinned (OpenSpec.ofChange fnExactBranchSpec)

/-- ITS FALSE NEIGHBOUR: 'it returns false'. Refute it at one input. -/
def fnExactBranchWrong : ChangeSpec := { name := "fnExactBranch", fn := fun _ => fun
  | [d1, d2] => { results := [.lit (.bool false)], args := [d1, d2] }
  | _ => none }
def FnExactBranchWrongFalsely : Prop := fnExactBranchRow.holds Try.pinned (OpenSpec.ofChange fnExactBranchWrong)

/-- 'laws.FnExactPruned': WHATEVER THE INPUT: true; the input reads as it did. -/
def fnExactPrunedSpec : ChangeSpec := { name := "fnExactPruned", fn := fun _ => fun
  | [d1, d2] => { results := [.lit (.bool true)], args := [d1, d2] }
  | _ => none }
def fnExactPrunedRow : OpenClaim := { program := "ytikplfghepojiaa", sum := "c0f11abe09018ffd872a2ed064aa39187ef9fc79dbff27b4ce294f386b1abd47", func := "loop.example/g00379/laws.FnExactPruned", spec := "fnExactPruned", unfollowed := true, recurses := true, apart := false }
def FnExactPrunedSaid : Prop := fnExactPrunedRow.holds Try.pinned (OpenSpec.ofChange fnExactPrunedSpec)

/-- ITS FALSE NEIGHBOUR: 'it returns false'. Refute it at one input. -/
def fnExactPrunedWrong : ChangeSpec := { name := "fnExactPruned", fn := fun _ => fun
  | [d1, d2] => { results := [.lit (.bool false)], args := [d1, d2] }
  | _ => none }
def FnExactPrunedWrongFalsely : Prop := fnExactPrunedRow.holds Try.pinned (OpenSpec.ofChange fnExactPrunedWrong)

/-- 'laws.FnExactGrafted': WHATEVER THE INPUT: true; the input reads as it did. -/
def fnExactGraftedSpec : ChangeSpec := { name := "fnExactGrafted", fn := fun _ => fun
  | [d1, d2, d3] => { results := [.lit (.bool true)], args := [d1, d2, d3] }
  | _ => none }
def fnExactGraftedRow : OpenClaim := { program := "ytikplfghepojiaa", sum := "c0f11abe09018ffd872a2ed064aa39187ef9fc79dbff27b4ce294f386b1abd47", func := "loop.example/g00379/laws.FnExactGrafted", spec := "fnExactGrafted", unfollowed := true, recurses := true, apart := false }
def FnExactGraftedSaid : Prop := fnExactGraftedRow.holds Try.pinned (OpenSpec.ofChange fnExactGraftedSpec)

/-- ITS FALSE NEIGHBOUR: 'it returns false'. Refute it at one input. -/
def fnExactGraftedWrong : ChangeSpec := { name := "fnExactGrafted", fn := fun _ => fun
  | [d1, d2, d3] => { results := [.lit (.bool false)], args := [d1, d2, d3] }
  | _ => none }
def FnExactGraftedWrongFalsely : Prop := fnExactGraftedRow.holds Try.pinned (OpenSpec.ofChange fnExactGraftedWrong)

/-- 'laws.FnExactWrapped': WHATEVER THE INPUT: true; the input reads as it did. -/
def fnExactWrappedSpec : ChangeSpec := { name := "fnExactWrapped", fn := fun _ => fun
  | [d1, d2, d3] => { results := [.lit (.bool true)], args := [d1, d2, d3] }
  | _ => none }
def fnExactWrappedRow : OpenClaim := { program := "ytikplfghepojiaa", sum := "c0f11abe09018ffd872a2ed064aa39187ef9fc79dbff27b4ce294f386b1abd47", func := "loop.example/g00379/laws.FnExactWrapped", spec := "fnExactWrapped", unfollowed := true, recurses := true, apart := false }
def FnExactWrappedSaid : Prop := fnExactWrappedRow.holds Try.pinned (OpenSpec.ofChange fnExactWrappedSpec)

/-- ITS FALSE NEIGHBOUR: 'it returns false'. Refute it at one input. -/
def fnExactWrappedWrong : ChangeSpec := { name := "fnExactWrapped", fn := fun _ => fun
  | [d1, d2, d3] => { results := [.lit (.bool false)], args := [d1, d2, d3] }
  | _ => none }
def FnExactWrappedWrongFalsely : Prop := fnExactWrappedRow.holds Try.pinned (OpenSpec.ofChange fnExactWrappedWrong)

/- THE SECOND FORM. 'bulk': how many values and letters a reading holds, each counted each time it is reached (what is shared counts as often as it is met; a slice's spare places count too). A statement '..UptoSaid' is the law's where the arguments, and the package variables that the reading takes, are together of bulk at most 1048576: NARROWER than '..Said'. Prove '..Said' where nothing that the law and all that it calls make is longer than what came in: it says more and counts as full. Else prove '..UptoSaid'. A law counts once. -/
mutual
def uptoBulk {H : Type} : DataW H → Nat
  | .lit (.string bytes) => bytes.length + 1
  | .lit _ => 1
  | .nil => 1
  | .ptr d => uptoBulk d + 1
  | .slice elems spare => uptoBulkAll elems + uptoBulkAll spare + 1
  | .agg parts => uptoBulkAll parts + 1
  | .iface _ d => uptoBulk d + 1
  | .map entries => uptoBulkEntries entries + 1
  | .held _ => 1
def uptoBulkAll {H : Type} : List (DataW H) → Nat
  | [] => 0
  | d :: r => uptoBulk d + uptoBulkAll r
def uptoBulkEntries {H : Type} : List (Lit × DataW H) → Nat
  | [] => 0
  | x :: r => uptoBulkEntry x + uptoBulkEntries r
def uptoBulkEntry {H : Type} : Lit × DataW H → Nat
  | (.string bytes, d) => bytes.length + uptoBulk d + 1
  | (_, d) => uptoBulk d + 1
 end
def uptoSmall : (H : Type) → List (DataW H) → Bool := fun _ ds => decide (uptoBulkAll ds ≤ 1048576)
def OpenSpec.upto (s : _root_.Go.ChangeSpec) : _root_.Go.OpenSpec := { _root_.Go.OpenSpec.ofChange s with cond := some uptoSmall }

/-- 'laws.FnBranches', WHERE WHAT IT READS IS OF BULK AT MOST 1048576: true; the input reads as it did. -/
def fnBranchesUptoRow : OpenClaim := { program := "ytikplfghepojiaa", sum := "c0f11abe09018ffd872a2ed064aa39187ef9fc79dbff27b4ce294f386b1abd47", func := "loop.example/g00379/laws.FnBranches", spec := "fnBranches", unfollowed := true, recurses := true, apart := false, narrowed := true }
def FnBranchesUptoSaid : Prop := fnBranchesUptoRow.holds Try.pinned (OpenSpec.upto fnBranchesSpec)

/-- 'laws.FnGrafts', WHERE WHAT IT READS IS OF BULK AT MOST 1048576: true; the input reads as it did. -/
def fnGraftsUptoRow : OpenClaim := { program := "ytikplfghepojiaa", sum := "c0f11abe09018ffd872a2ed064aa39187ef9fc79dbff27b4ce294f386b1abd47", func := "loop.example/g00379/laws.FnGrafts", spec := "fnGrafts", unfollowed := true, recurses := true, apart := false, narrowed := true }
def FnGraftsUptoSaid : Prop := fnGraftsUptoRow.holds Try.pinned (OpenSpec.upto fnGraftsSpec)

/-- 'laws.FnExactBranch', WHERE WHAT IT READS IS OF BULK AT MOST 1048576: true; the input reads as it did. -/
def fnExactBranchUptoRow : OpenClaim := { program := "ytikplfghepojiaa", sum := "c0f11abe09018ffd872a2ed064aa39187ef9fc79dbff27b4ce294f386b1abd47", func := "loop.example/g00379/laws.FnExactBranch", spec := "fnExactBranch", unfollowed := true, recurses := true, apart := false, narrowed := true }
def FnExactBranchUptoSaid : Prop := fnExactBranchUptoRow.holds Try.pinned (OpenSpec.upto fnExactBranchSpec)

/-- 'laws.FnExactPruned', WHERE WHAT IT READS IS OF BULK AT MOST 1048576: true; the input reads as it did. -/
def fnExactPrunedUptoRow : OpenClaim := { program := "ytikplfghepojiaa", sum := "c0f11abe09018ffd872a2ed064aa39187ef9fc79dbff27b4ce294f386b1abd47", func := "loop.example/g00379/laws.FnExactPruned", spec := "fnExactPruned", unfollowed := true, recurses := true, apart := false, narrowed := true }
def FnExactPrunedUptoSaid : Prop := fnExactPrunedUptoRow.holds Try.pinned (OpenSpec.upto fnExactPrunedSpec)

/-- 'laws.FnExactGrafted', WHERE WHAT IT READS IS OF BULK AT MOST 1048576: true; the input reads as it did. -/
def fnExactGraftedUptoRow : OpenClaim := { program := "ytikplfghepojiaa", sum := "c0f11abe09018ffd872a2ed064aa39187ef9fc79dbff27b4ce294f386b1abd47", func := "loop.example/g00379/laws.FnExactGrafted", spec := "fnExactGrafted", unfollowed := true, recurses := true, apart := false, narrowed := true }
def FnExactGraftedUptoSaid : Prop := fnExactGraftedUptoRow.holds Try.pinned (OpenSpec.upto fnExactGraftedSpec)

/-- 'laws.FnExactWrapped', WHERE WHAT IT READS IS OF BULK AT MOST 1048576: true; the input reads as it did. -/
def fnExactWrappedUptoRow : OpenClaim := { program := "ytikplfghepojiaa", sum := "c0f11abe09018ffd872a2ed064aa39187ef9fc79dbff27b4ce294f386b1abd47", func := "loop.example/g00379/laws.FnExactWrapped", spec := "fnExactWrapped", unfollowed := true, recurses := true, apart := false, narrowed := true }
def FnExactWrappedUptoSaid : Prop := fnExactWrappedUptoRow.holds Try.pinned (OpenSpec.upto fnExactWrappedSpec)

end Rows
end Go.Proofs.Ytikplfghepojiaa
