/- FnExactKeyOk is proved for every key of three int64: the law answers true, so KeyOk answers as the specification does, and leaves its argument as it was; no condition beside the row's own. -/
import Derived.Test.YtfglgadmcgkjkabRows
import Derived.Test.YtfglgadmcgkjkabKSpec
import Derived.Test.YtfglgadmcgkjkabKTo
import Derived.Test.YtfglgadmcgkjkabKOpen
import Derived.WalkKit
import Derived.ProofKit
import Derived.OpenShut
import Derived.ShutString
import Derived.ChangeOld
import Derived.Below
import Derived.Carry
namespace Go.Proofs.Ytfglgadmcgkjkab.fnExactKeyOk
open Go.ChangeShapes Go.WideShapes Go.ChangeAt Go.RowKit
open Go.ChangeMaps (open_string shut_string)
set_option linter.unusedVariables false

theorem own : ownKnob Try.prog.godebug = none := by kernel_rfl
theorem laidOut : laidOutB Try.prog = true := by kernel_rfl

theorem walk (n0 e0 d0 : Int) (w : World) (wn0 : (Lit.int .i64 n0).wf = true) (we0 : (Lit.int .i64 e0).wf = true) (wd0 : (Lit.int .i64 d0).wf = true) :
    Calls Try.prog 3 #[.agg #[.int .i64 n0, .int .i64 e0, .int .i64 d0]] w fun e w' => e = .returned (.bool true) ∧ Below w.heap.size w w' := by
  have CT := fun w => cToKey n0 e0 d0 w
  have CS := fun w => cKeyOkS n0 e0 d0 w
  have CI := fun w => cKeyOkI n0 e0 d0 w
  generalize okB n0 e0 d0 = B at *
  have hB : (B != B) = false := by cases B <;> rfl
  clear wn0 we0 wd0
  go_enter Try.func3, Try.ntmps3
  go_wp2_with fail
  refine (CT _).mono ?_
  rintro e w1 ⟨rfl, hb⟩
  obtain ⟨hc, hf⟩ := bcell hb
  have HB : Hid (Below w.heap.size w w1) := ((Below.refl _ _).alloc (Nat.le_refl _) _).trans (hb.mono (by simp))
  have hz0 : w.heap.size < w1.heap.size := by have := hb.size; simp at this; omega
  go_wp2_with fail
  refine (CS _).mono ?_
  rintro e w2 ⟨rfl, hb2⟩
  obtain ⟨hc2, hf2⟩ := bcell hb2
  have HB2 : Hid (Below w.heap.size w w2) := bb HB.out hb2
  go_wp2_with fail
  refine (CT _).mono ?_
  rintro e w3 ⟨rfl, hb3⟩
  have HB3 : Hid (Below w.heap.size w w3) := bb HB2.out hb3
  go_wp2_with fail
  refine (CI _).mono ?_
  rintro e w4 ⟨rfl, hb4⟩
  have HB4 : Hid (Below w.heap.size w w4) := bb HB3.out hb4
  go_wp2_with fail
  go_ret
  exact ⟨rfl, HB4.out⟩

set_option maxRecDepth 100000 in
theorem lifted (os : Os) (started : os.Started) (H : Type) (enc : TypeId × Value → H) :
    ReturnsInHanded {} Try.checked os 3 .any (Rows.fnExactKeyOkSpec.pre6 enc Try.prog Try.f3 Rows.fnExactKeyOkRow.domain false) (Rows.fnExactKeyOkSpec.post enc Try.prog Try.f3 false true false false) := by
  refine returnsInHanded_of_change (C := Try.checked) own started (by kernel_rfl) Try.func3
    (ChangeSpec.witness6 (enc := enc) (C := Try.checked) false ⟨#[], #[.agg #[.int .i64 0, .int .i64 0, .int .i64 0]], []⟩ 8 (by kernel_rfl) (by kernel_rfl) (by kernel_rfl) (by kernel_rfl)) ?_
  intro W base args ds gs before hval0 hW hcnd _
  have hval : ∀ (j : Nat) t v, Try.f3.params[j]? = some t → args[j]? = some v → Value.okWide Try.prog W .any base t v := hval0
  have hW' := hW
  obtain ⟨p, q, hA0, hV, rfl, hfz, hnd⟩ := hW
  have hA : DataW.TrodAll enc Try.prog W 0 (fun _ => true) true Try.f3.params.toList args.toList ds p := hA0
  rw [Try.params3] at hA hval
  obtain ⟨v0, vs0, d0, ds0, p0, q0, hargs, rfl, rfl, h0, r0⟩ := trodAll_cons hA
  obtain ⟨rfl, rfl, rfl⟩ := trodAll_nil r0
  obtain rfl : args = #[v0] := by cases args; simp_all
  obtain ⟨rfl, rfl⟩ := trodVars_none hV
  obtain ⟨n0, e0, d0, rfl, wn0, we0, wd0⟩ := key_of (hval 0 23 v0 rfl rfl) h0
  clear hA0 hval0
  simp only [List.append_nil] at hW'
  have hlt : ∀ x ∈ p0, x.block < W.heap.size := fun x hx => by simpa using hW'.lt x (by simpa using hx)
  refine (walk n0 e0 d0 W wn0 we0 wd0).mono fun e W' ⟨he, bel⟩ => ?_
  subst he
  exact ⟨_, rfl, _, _, _, [], _, [], hW', trodAll_mk1 (shut_bool Try.underlying4 _), (trodAll_cons_mk (Below.trod laidOut (by kernel_rfl) (of_decide_eq_true (by kernel_rfl)) h0 bel (fun x hx => hlt x (by simp [hx]))) trodAll_mk0), rfl, bel.frame _, fun h => by cases h⟩

theorem over : Rows.fnExactKeyOkRow.holds Try.pinned (OpenSpec.ofChange Rows.fnExactKeyOkSpec) :=
  OpenClaim.holds_of_wide 3 Try.f3 rfl rfl rfl rfl rfl rfl rfl ⟨rfl, rfl, rfl, rfl, rfl⟩ rfl rfl rfl rfl rfl (by kernel_rfl) Try.func3 (by kernel_rfl)
    (of_decide_eq_true (by kernel_rfl)) (by unfold Func.isWrapper; first | (rw [if_pos (by decide +kernel)]; kernel_rfl) | (rw [if_neg (by decide +kernel)]; exact ⟨rfl, rfl⟩))
    (fun os started H enc _ => lifted os started H enc)

theorem proved : Rows.FnExactKeyOkSaid := over
end Go.Proofs.Ytfglgadmcgkjkab.fnExactKeyOk

namespace Go.Proofs.Ytfglgadmcgkjkab
theorem fnExactKeyOk_holds : Rows.FnExactKeyOkSaid := fnExactKeyOk.proved
#print axioms fnExactKeyOk_holds
end Go.Proofs.Ytfglgadmcgkjkab
