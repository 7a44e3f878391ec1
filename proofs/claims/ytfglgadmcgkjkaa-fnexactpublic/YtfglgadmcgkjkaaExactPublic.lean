/- FnExactPublic is proved for every key of three int64: the law answers true, so Public answers as the specification does, field by field, and leaves its argument as it was; no condition beside the row's own. -/
import Derived.Test.YtfglgadmcgkjkaaRows
import Derived.Test.YtfglgadmcgkjkaaKKeyS
import Derived.Test.YtfglgadmcgkjkaaKOpen
import Derived.WalkKit
import Derived.ProofKit
import Derived.OpenShut
import Derived.ShutString
import Derived.ChangeOld
import Derived.Below
import Derived.Carry
namespace Go.Proofs.Ytfglgadmcgkjkaa.fnExactPublic
open Go.ChangeShapes Go.WideShapes Go.ChangeAt Go.RowKit
open Go.ChangeMaps (open_string shut_string)
set_option linter.unusedVariables false

theorem own : ownKnob Try.prog.godebug = none := by kernel_rfl
theorem laidOut : laidOutB Try.prog = true := by kernel_rfl

theorem walk (n0 e0 d0 : Int) (w : World) (wn0 : (Lit.int .i64 n0).wf = true) (we0 : (Lit.int .i64 e0).wf = true) (wd0 : (Lit.int .i64 d0).wf = true) :
    Calls Try.prog 6 #[.agg #[.int .i64 n0, .int .i64 e0, .int .i64 d0]] w fun e w' => e = .returned (.bool true) ∧ Below w.heap.size w w' := by
  have CT := fun w => cToKey n0 e0 d0 w
  have CS := fun w => cPublicS n0 e0 d0 w
  have CI := fun w => cPublicI n0 e0 d0 w
  have CE := fun w => cEqKey (pubN n0 e0) (pubE n0 e0) 0 w
  generalize pubN n0 e0 = x at *
  generalize pubE n0 e0 = y at *
  clear wn0 we0 wd0
  go_enter Try.func6, Try.ntmps6
  go_wp2_with fail
  refine (CT _).mono ?_
  rintro e w1 ⟨rfl, hb⟩
  obtain ⟨hc, hf⟩ := bcell hb
  have HB : Hid (Below w.heap.size w w1) := ((Below.refl _ _).alloc (Nat.le_refl _) _).trans (hb.mono (by simp))
  have hz0 : w.heap.size < w1.heap.size := by have := hb.size; simp at this; omega
  go_wp2_with fail
  refine (CS _).mono ?_
  rintro e w2 ⟨rfl, hb2⟩
  obtain ⟨hc2, hf2⟩ := bcell hb2
  have HB2 : Hid (Below w.heap.size w w2) := bb HB.out hb2
  have hy0 : w.heap.size < w2.heap.size := by have := hb2.size; omega
  go_wp2_with fail
  refine (CT _).mono ?_
  rintro e w3 ⟨rfl, hb3⟩
  obtain ⟨hc3, hf3⟩ := bcell hb3
  have HB3 : Hid (Below w.heap.size w w3) := bb (HB2.out.alloc HB2.out.size _) hb3
  have hx0 : w2.heap.size < w3.heap.size := by have := hb3.size; simp at this; omega
  go_wp2_with fail
  refine (CI _).mono ?_
  rintro e w4 ⟨rfl, hb4⟩
  obtain ⟨hc4, hf4⟩ := bcell hb4
  have HB4 : Hid (Below w.heap.size w w4) := bb HB3.out hb4
  have hu0 : w2.heap.size < w4.heap.size := by have := hb4.size; omega
  go_wp2_with fail
  refine (CE _).mono ?_
  rintro e w5 ⟨rfl, hb5⟩
  have HB5 : Hid (Below w.heap.size w w5) := bb (HB4.out.alloc HB4.out.size _) hb5
  go_wp2_with fail
  go_ret
  exact ⟨rfl, HB5.out⟩

set_option maxRecDepth 100000 in
theorem lifted (os : Os) (started : os.Started) (H : Type) (enc : TypeId × Value → H) :
    ReturnsInHanded {} Try.checked os 6 .any (Rows.fnExactPublicSpec.pre6 enc Try.prog Try.f6 Rows.fnExactPublicRow.domain false) (Rows.fnExactPublicSpec.post enc Try.prog Try.f6 false true false false) := by
  refine returnsInHanded_of_change (C := Try.checked) own started (by kernel_rfl) Try.func6
    (ChangeSpec.witness6 (enc := enc) (C := Try.checked) false ⟨#[], #[.agg #[.int .i64 0, .int .i64 0, .int .i64 0]], []⟩ 8 (by kernel_rfl) (by kernel_rfl) (by kernel_rfl) (by kernel_rfl)) ?_
  intro W base args ds gs before hval0 hW hcnd _
  have hval : ∀ (j : Nat) t v, Try.f6.params[j]? = some t → args[j]? = some v → Value.okWide Try.prog W .any base t v := hval0
  have hW' := hW
  obtain ⟨p, q, hA0, hV, rfl, hfz, hnd⟩ := hW
  have hA : DataW.TrodAll enc Try.prog W 0 (fun _ => true) true Try.f6.params.toList args.toList ds p := hA0
  rw [Try.params6] at hA hval
  obtain ⟨v0, vs0, d0, ds0, p0, q0, hargs, rfl, rfl, h0, r0⟩ := trodAll_cons hA
  obtain ⟨rfl, rfl, rfl⟩ := trodAll_nil r0
  obtain rfl : args = #[v0] := by cases args; simp_all
  obtain ⟨rfl, rfl⟩ := trodVars_none hV
  obtain ⟨n0, e0, d0, rfl, wn0, we0, wd0⟩ := key_of (hval 0 41 v0 rfl rfl) h0
  clear hA0 hval0
  simp only [List.append_nil] at hW'
  have hlt : ∀ x ∈ p0, x.block < W.heap.size := fun x hx => by simpa using hW'.lt x (by simpa using hx)
  refine (walk n0 e0 d0 W wn0 we0 wd0).mono fun e W' ⟨he, bel⟩ => ?_
  subst he
  exact ⟨_, rfl, _, _, _, [], _, [], hW', trodAll_mk1 (shut_bool Try.underlying4 _), (trodAll_cons_mk (Below.trod laidOut (by kernel_rfl) (of_decide_eq_true (by kernel_rfl)) h0 bel (fun x hx => hlt x (by simp [hx]))) trodAll_mk0), rfl, bel.frame _, fun h => by cases h⟩

theorem over : Rows.fnExactPublicRow.holds Try.pinned (OpenSpec.ofChange Rows.fnExactPublicSpec) :=
  OpenClaim.holds_of_wide 6 Try.f6 rfl rfl rfl rfl rfl rfl rfl ⟨rfl, rfl, rfl, rfl, rfl⟩ rfl rfl rfl rfl rfl (by kernel_rfl) Try.func6 (by kernel_rfl)
    (of_decide_eq_true (by kernel_rfl)) (by unfold Func.isWrapper; first | (rw [if_pos (by decide +kernel)]; kernel_rfl) | (rw [if_neg (by decide +kernel)]; exact ⟨rfl, rfl⟩))
    (fun os started H enc _ => lifted os started H enc)

theorem proved : Rows.FnExactPublicSaid := over
end Go.Proofs.Ytfglgadmcgkjkaa.fnExactPublic

namespace Go.Proofs.Ytfglgadmcgkjkaa
theorem fnExactPublic_holds : Rows.FnExactPublicSaid := fnExactPublic.proved
#print axioms fnExactPublic_holds
end Go.Proofs.Ytfglgadmcgkjkaa
