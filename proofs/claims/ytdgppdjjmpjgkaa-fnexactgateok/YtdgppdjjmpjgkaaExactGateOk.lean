/- FnExactGateOk is proved for every gate: the law answers true, so GateOk answers as the specification does and leaves its argument as it was (of a gate of more than 1048576 bytes the law itself says true at once); no condition beside the row's own. -/
import Derived.Test.YtdgppdjjmpjgkaaRows
import Derived.Test.YtdgppdjjmpjgkaaAWOk
import Derived.WalkKit
import Derived.ProofKit
import Derived.OpenShut
import Derived.ShutString
import Derived.ChangeOld
import Derived.Below
import Derived.Carry
namespace Go.Proofs.Ytdgppdjjmpjgkaa.fnExactGateOk
open Go.ChangeShapes Go.WideShapes Go.ChangeAt Go.RowKit
open Go.ChangeMaps (open_string shut_string)
set_option linter.unusedVariables false

theorem own : ownKnob Try.prog.godebug = none := by kernel_rfl
theorem laidOut : laidOutB Try.prog = true := by kernel_rfl

set_option maxHeartbeats 2000000 in
theorem walk (g0 : Gt) (ah0 : Option Addr) (ch0 : Nat) (aa0 : Option Addr) (ca0 : Nat) (ar0 : Option Addr) (cr0 : Nat) (w : World) (wr0 : GtRow w g0 ah0 aa0 ar0) (wz0 : GtSz maxLen g0) (wf0 : GtWf g0) :
    Calls Try.prog 3 #[gtV g0 ah0 ch0 aa0 ca0 ar0 cr0] w fun e w' => e = .returned (.bool true) ∧ Below w.heap.size w w' := by
  exact walk_gateOk g0 ah0 ch0 aa0 ca0 ar0 cr0 w wr0 wz0

set_option maxRecDepth 100000 in
theorem lifted (os : Os) (started : os.Started) (H : Type) (enc : TypeId × Value → H) :
    ReturnsInHanded {} Try.checked os 3 .any (Rows.fnExactGateOkSpec.pre6 enc Try.prog Try.f3 Rows.fnExactGateOkRow.domain false) (Rows.fnExactGateOkSpec.post enc Try.prog Try.f3 false true false false) := by
  refine returnsInHanded_of_change (C := Try.checked) own started (by kernel_rfl) Try.func3
    (ChangeSpec.witness6 (enc := enc) (C := Try.checked) false ⟨#[], #[.agg #[.string ⟨#[]⟩, .slice none 0 0, .int .i64 0, .int .i64 0, .int .i64 0, .slice none 0 0, .int .i64 0, .slice none 0 0]], []⟩ 8 (by kernel_rfl) (by kernel_rfl) (by kernel_rfl) (by kernel_rfl)) ?_
  intro W base args ds gs before hval0 hW hcnd _
  have hval : ∀ (j : Nat) t v, Try.f3.params[j]? = some t → args[j]? = some v → Value.okWide Try.prog W .any base t v := hval0
  have hW' := hW
  obtain ⟨p, q, hA0, hV, rfl, hfz, hnd⟩ := hW
  have hA : DataW.TrodAll enc Try.prog W 0 (fun _ => true) true Try.f3.params.toList args.toList ds p := hA0
  rw [Try.params3] at hA hval
  obtain ⟨v0, vs0, d0, ds0, p0, q0, hargs, rfl, rfl, h0, r0⟩ := trodAll_cons hA
  obtain ⟨rfl, rfl, rfl⟩ := trodAll_nil r0
  obtain rfl : args = #[v0] := by cases args; simp_all
  obtain ⟨rfl, rfl⟩ := trodVars_none hV
  simp only [List.append_nil] at hW'
  have hlt : ∀ x ∈ p0, x.block < W.heap.size := fun x hx => by simpa using hW'.lt x (by simpa using hx)
  obtain ⟨g0, ah0, ch0, aa0, ca0, ar0, cr0, rfl, wr0, wz0, wf0⟩ := gate_of (hval 0 27 v0 rfl rfl) h0 (fun x hx => hlt x (by simp [hx]))
  clear hA0 hval0
  refine (walk g0 ah0 ch0 aa0 ca0 ar0 cr0 W wr0 wz0 wf0).mono fun e W' ⟨he, bel⟩ => ?_
  subst he
  exact ⟨_, rfl, _, _, _, [], _, [], hW', trodAll_mk1 (shut_bool Try.underlying4 _), (trodAll_cons_mk (Below.trod laidOut (by kernel_rfl) (of_decide_eq_true (by kernel_rfl)) h0 bel (fun x hx => hlt x (by simp [hx]))) trodAll_mk0), rfl, bel.frame _, fun h => by cases h⟩

theorem over : Rows.fnExactGateOkRow.holds Try.pinned (OpenSpec.ofChange Rows.fnExactGateOkSpec) :=
  OpenClaim.holds_of_wide 3 Try.f3 rfl rfl rfl rfl rfl rfl rfl ⟨rfl, rfl, rfl, rfl, rfl⟩ rfl rfl rfl rfl rfl (by kernel_rfl) Try.func3 (by kernel_rfl)
    (of_decide_eq_true (by kernel_rfl)) (by unfold Func.isWrapper; first | (rw [if_pos (by decide +kernel)]; kernel_rfl) | (rw [if_neg (by decide +kernel)]; exact ⟨rfl, rfl⟩))
    (fun os started H enc _ => lifted os started H enc)

theorem proved : Rows.FnExactGateOkSaid := over
end Go.Proofs.Ytdgppdjjmpjgkaa.fnExactGateOk

namespace Go.Proofs.Ytdgppdjjmpjgkaa
theorem fnExactGateOk_holds : Rows.FnExactGateOkSaid := fnExactGateOk.proved
#print axioms fnExactGateOk_holds
end Go.Proofs.Ytdgppdjjmpjgkaa
