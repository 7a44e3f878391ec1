/- FnExactClaimOk is proved for every claim: the law answers true, so ClaimOk answers as the specification does and leaves its argument as it was (of a claim of more than 1048576 bytes the law itself says true at once); no condition beside the row's own. -/
import Derived.Test.YtemapjlogfffpaaRows
import Derived.Test.YtemapjlogfffpaaM10
import Derived.Test.YtemapjlogfffpaaM13
import Derived.WalkKit
import Derived.ProofKit
import Derived.OpenShut
import Derived.ShutString
import Derived.ChangeOld
import Derived.Below
import Derived.Carry
namespace Go.Proofs.Ytemapjlogfffpaa.fnExactClaimOk
open Go.ChangeShapes Go.WideShapes Go.ChangeAt Go.RowKit
open Go.ChangeMaps (open_string shut_string)
set_option linter.unusedVariables false

theorem own : ownKnob Try.prog.godebug = none := by kernel_rfl
theorem laidOut : laidOutB Try.prog = true := by kernel_rfl

set_option maxHeartbeats 2000000 in
theorem walk (c0 : Cm) (a0 : Option Addr) (cap0 : Nat) (w : World) (wr0 : AtRow w a0 c0.facts) (wz0 : CmSz maxLen c0) (wf0 : (Lit.int .i64 c0.frm).wf = true) (wt0 : (Lit.int .i64 c0.til).wf = true) :
    Calls Try.prog 3 #[cmV c0 a0 cap0] w fun e w' => e = .returned (.bool true) ∧ Below w.heap.size w w' := by
  have C0 := hid (fun wx (h : Below w.heap.size w wx) => cSzClaim c0 a0 cap0 wx (wr0.below h) wz0)
  have HX := hid (ClBox.new w c0 (.slice a0 c0.facts.length cap0) 24)
  have HB0 := hid ((Below.refl w.heap.size w).alloc (Nat.le_refl _) (.cells #[.string c0.id, .string c0.iss, .string c0.sub, .int .i64 c0.frm, .int .i64 c0.til, .string c0.whom, .string c0.ans, .slice a0 c0.facts.length cap0] 24))
  have HR := hid wr0
  clear wr0 wz0
  unfold cmV at C0 ⊢
  obtain ⟨w0, hw0⟩ : ∃ w0, w.alloc (.cells #[.string c0.id, .string c0.iss, .string c0.sub, .int .i64 c0.frm, .int .i64 c0.til, .string c0.whom, .string c0.ans, .slice a0 c0.facts.length cap0] 24) = w0 := ⟨_, rfl⟩
  rw [hw0] at HX HB0
  obtain ⟨B, hB⟩ : ∃ B, w.heap.size = B := ⟨_, rfl⟩
  rw [hB] at HX
  obtain ⟨f0, f1, f2, f3, f4, f5, f6, f7⟩ := And.intro HX.out.c0 (And.intro HX.out.c1 (And.intro HX.out.c2 (And.intro HX.out.c3 (And.intro HX.out.c4 (And.intro HX.out.c5 (And.intro HX.out.c6 HX.out.c7))))))
  go_enter Try.func3, Try.ntmps3
  go_wp2_with fail
  refine (C0.out _ HB0.out).mono ?_
  rintro e w1 ⟨r, rfl, hr, hb1⟩
  have HB1 := hid (bb HB0.out hb1)
  have HX1 := hid (HX.out.below hb1)
  clear hb1 C0 hw0 f0 f1 f2 f3 f4 f5 f6 f7 HX HB0
  rcases hr with rfl | ⟨h0, hz⟩
  · go_wp2_with fail
    go_ret
    exact ⟨rfl, hB ▸ HB1.out⟩
  have hd2 : decide (r < 0) = false := by simp; omega
  have CT := hid (fun (wx : World) (h : AtRow wx a0 c0.facts) => cToClaim c0 a0 cap0 wx h hz.2.2.2.2.2.1)
  have CS := hid (fun (g : Nat) (wx : World) (h : AtRow wx (some ⟨g, 0, none⟩) c0.facts) => cClaimOkS c0 (some ⟨g, 0, none⟩) c0.facts.length wx h hz)
  have CI := hid (fun (g : Nat) (wx : World) (h : AtRow wx (some ⟨g, 0, none⟩) c0.facts) => cClaimOkI c0 (some ⟨g, 0, none⟩) c0.facts.length wx h hz)
  have CE := hid (fun (g g2 : Nat) (wx : World) (h : AtRow wx (some ⟨g, 0, none⟩) c0.facts) (h2 : AtRow wx (some ⟨g2, 0, none⟩) c0.facts) => cEqClaim c0 (some ⟨g, 0, none⟩) (some ⟨g2, 0, none⟩) c0.facts.length c0.facts.length wx h h2 hz.2.2.2.2.2.2 hz.2.2.2.2.2.1)
  have HR1 := hid (HR.out.below HB1.out)
  generalize claimB c0 = K at *
  have hKK : (K != K) = false := by cases K <;> rfl
  clear hz HR
  unfold cmV at CT CS CI CE
  obtain ⟨f0, f1, f2, f3, f4, f5, f6, f7⟩ := And.intro HX1.out.c0 (And.intro HX1.out.c1 (And.intro HX1.out.c2 (And.intro HX1.out.c3 (And.intro HX1.out.c4 (And.intro HX1.out.c5 (And.intro HX1.out.c6 HX1.out.c7))))))
  go_wp2_with fail
  refine (CT.out _ HR1.out).mono ?_
  rintro e w2 ⟨g, _, rfl, s2, hb2⟩
  have HB2 := hid (bb HB1.out hb2)
  have HX2 := hid (HX1.out.below hb2)
  have HR2 := hid (HR1.out.below hb2)
  clear hb2 HB1 HX1 HR1 f0 f1 f2 f3 f4 f5 f6 f7
  go_wp2_with fail
  refine (CS.out g _ s2).mono ?_
  rintro e w3 ⟨rfl, hb3⟩
  have HB3 := hid (bb HB2.out hb3)
  have HX3 := hid (HX2.out.below hb3)
  have HR3 := hid (HR2.out.below hb3)
  clear hb3 HB2 HX2 HR2 s2 CS
  obtain ⟨f0, f1, f2, f3, f4, f5, f6, f7⟩ := And.intro HX3.out.c0 (And.intro HX3.out.c1 (And.intro HX3.out.c2 (And.intro HX3.out.c3 (And.intro HX3.out.c4 (And.intro HX3.out.c5 (And.intro HX3.out.c6 HX3.out.c7))))))
  go_wp2_with fail
  refine (CT.out _ HR3.out).mono ?_
  rintro e w4 ⟨g2, _, rfl, s4, hb4⟩
  have HB4 := hid (bb HB3.out hb4)
  have HX4 := hid (HX3.out.below hb4)
  have HR4 := hid (HR3.out.below hb4)
  clear hb4 HB3 HX3 HR3 f0 f1 f2 f3 f4 f5 f6 f7
  have HY := hid (ClBox.new w4 c0 (.slice (some ⟨g2, 0, none⟩) c0.facts.length c0.facts.length) 29)
  have HZ := hid ((Below.refl w4.heap.size w4).alloc (Nat.le_refl _) (.cells #[.string c0.id, .string c0.iss, .string c0.sub, .int .i64 c0.frm, .int .i64 c0.til, .string c0.whom, .string c0.ans, .slice (some ⟨g2, 0, none⟩) c0.facts.length c0.facts.length] 29))
  obtain ⟨w5, hw5⟩ : ∃ w5, w4.alloc (.cells #[.string c0.id, .string c0.iss, .string c0.sub, .int .i64 c0.frm, .int .i64 c0.til, .string c0.whom, .string c0.ans, .slice (some ⟨g2, 0, none⟩) c0.facts.length c0.facts.length] 29) = w5 := ⟨_, rfl⟩
  rw [hw5] at HY HZ
  have HB5 := hid (bb HB4.out HZ.out)
  have HX5 := hid (HX4.out.below HZ.out)
  have HR5 := hid (HR4.out.below HZ.out)
  have S5 := hid (s4.below HZ.out)
  clear HZ HB4 HX4 HR4 s4
  obtain ⟨B2, hB2⟩ : ∃ B, w4.heap.size = B := ⟨_, rfl⟩
  rw [hB2] at HY
  obtain ⟨y0, y1, y2, y3, y4, y5, y6, y7⟩ := And.intro HY.out.c0 (And.intro HY.out.c1 (And.intro HY.out.c2 (And.intro HY.out.c3 (And.intro HY.out.c4 (And.intro HY.out.c5 (And.intro HY.out.c6 HY.out.c7))))))
  go_wp2_with fail
  refine (CI.out g2 _ S5.out).mono ?_
  rintro e w6 ⟨rfl, hb6⟩
  have HB6 := hid (bb HB5.out hb6)
  have HX6 := hid (HX5.out.below hb6)
  have HR6 := hid (HR5.out.below hb6)
  have HY6 := hid (HY.out.below hb6)
  have S6 := hid (S5.out.below hb6)
  clear hb6 HB5 HX5 HR5 HY S5 CI hw5 hB2 y0 y1 y2 y3 y4 y5 y6 y7
  obtain ⟨f0, f1, f2, f3, f4, f5, f6, f7⟩ := And.intro HX6.out.c0 (And.intro HX6.out.c1 (And.intro HX6.out.c2 (And.intro HX6.out.c3 (And.intro HX6.out.c4 (And.intro HX6.out.c5 (And.intro HX6.out.c6 HX6.out.c7))))))
  obtain ⟨y0, y1, y2, y3, y4, y5, y6, y7⟩ := And.intro HY6.out.c0 (And.intro HY6.out.c1 (And.intro HY6.out.c2 (And.intro HY6.out.c3 (And.intro HY6.out.c4 (And.intro HY6.out.c5 (And.intro HY6.out.c6 HY6.out.c7))))))
  go_wp2_with fail
  go_region_with (first
    | (go_at_call 6; refine (CT.out _ (HR6.out.below (below_drewN (Below.refl _ _) 1))).mono ?_; rintro e w7 ⟨g7, _, rfl, s7, hb7⟩; have HB7 := hid (bb HB6.out (show Below w6.heap.size w6 w7 from (below_drewN (Below.refl _ _) 1).trans hb7)); have S7 := hid (S6.out.below (show Below w6.heap.size w6 w7 from (below_drewN (Below.refl _ _) 1).trans hb7)); have HY7 := hid (HY6.out.below (show Below w6.heap.size w6 w7 from (below_drewN (Below.refl _ _) 1).trans hb7)); obtain ⟨q0, q1, q2, q3, q4, q5, q6, q7⟩ := And.intro HY7.out.c0 (And.intro HY7.out.c1 (And.intro HY7.out.c2 (And.intro HY7.out.c3 (And.intro HY7.out.c4 (And.intro HY7.out.c5 (And.intro HY7.out.c6 HY7.out.c7)))))))
    | (go_at_call 8; refine (CE.out g2 g7 _ S7.out s7).mono ?_; rintro e w8 ⟨rfl, hb8⟩; have HB8 := hid (bb HB7.out hb8)))
  all_goals
    go_wp2_with fail
    go_ret
    exact ⟨rfl, hB ▸ HB8.out⟩

set_option maxRecDepth 100000 in
theorem lifted (os : Os) (started : os.Started) (H : Type) (enc : TypeId × Value → H) :
    ReturnsInHanded {} Try.checked os 3 .any (Rows.fnExactClaimOkSpec.pre6 enc Try.prog Try.f3 Rows.fnExactClaimOkRow.domain false) (Rows.fnExactClaimOkSpec.post enc Try.prog Try.f3 false true false false) := by
  refine returnsInHanded_of_change (C := Try.checked) own started (by kernel_rfl) Try.func3
    (ChangeSpec.witness6 (enc := enc) (C := Try.checked) false ⟨#[], #[.agg #[.string ⟨#[]⟩, .string ⟨#[]⟩, .string ⟨#[]⟩, .int .i64 0, .int .i64 0, .string ⟨#[]⟩, .string ⟨#[]⟩, .slice none 0 0]], []⟩ 8 (by kernel_rfl) (by kernel_rfl) (by kernel_rfl) (by kernel_rfl)) ?_
  intro W base args ds gs before hval0 hW hcnd _
  have hval : ∀ (j : Nat) t v, Try.f3.params[j]? = some t → args[j]? = some v → Value.okWide Try.prog W .any base t v := hval0
  have hW' := hW
  obtain ⟨p, q, hA0, hV, rfl, hfz, hnd⟩ := hW
  have hA : DataW.TrodAll enc Try.prog W 0 (fun _ => true) true Try.f3.params.toList args.toList ds p := hA0
  rw [Try.params3] at hA hval
  obtain ⟨v0, vs0, d0, ds0, p0, q0, hargs, rfl, rfl, h0, r0⟩ := trodAll_cons hA
  obtain ⟨rfl, rfl, rfl⟩ := trodAll_nil r0
  obtain rfl : args = #[v0] := by cases args; simp_all
  obtain ⟨rfl, rfl⟩ := trodVars_none hV
  simp only [List.append_nil] at hW'
  have hlt : ∀ x ∈ p0, x.block < W.heap.size := fun x hx => by simpa using hW'.lt x (by simpa using hx)
  obtain ⟨c0, a0, cap0, rfl, wr0, wz0, wf0, wt0⟩ := claim_of (hval 0 24 v0 rfl rfl) h0 (fun x hx => hlt x (by simp [hx]))
  clear hA0 hval0
  refine (walk c0 a0 cap0 W wr0 wz0 wf0 wt0).mono fun e W' ⟨he, bel⟩ => ?_
  subst he
  exact ⟨_, rfl, _, _, _, [], _, [], hW', trodAll_mk1 (shut_bool Try.underlying4 _), (trodAll_cons_mk (Below.trod laidOut (by kernel_rfl) (of_decide_eq_true (by kernel_rfl)) h0 bel (fun x hx => hlt x (by simp [hx]))) trodAll_mk0), rfl, bel.frame _, fun h => by cases h⟩

theorem over : Rows.fnExactClaimOkRow.holds Try.pinned (OpenSpec.ofChange Rows.fnExactClaimOkSpec) :=
  OpenClaim.holds_of_wide 3 Try.f3 rfl rfl rfl rfl rfl rfl rfl ⟨rfl, rfl, rfl, rfl, rfl⟩ rfl rfl rfl rfl rfl (by kernel_rfl) Try.func3 (by kernel_rfl)
    (of_decide_eq_true (by kernel_rfl)) (by unfold Func.isWrapper; first | (rw [if_pos (by decide +kernel)]; kernel_rfl) | (rw [if_neg (by decide +kernel)]; exact ⟨rfl, rfl⟩))
    (fun os started H enc _ => lifted os started H enc)

theorem proved : Rows.FnExactClaimOkSaid := over
end Go.Proofs.Ytemapjlogfffpaa.fnExactClaimOk

namespace Go.Proofs.Ytemapjlogfffpaa
theorem fnExactClaimOk_holds : Rows.FnExactClaimOkSaid := fnExactClaimOk.proved
#print axioms fnExactClaimOk_holds
end Go.Proofs.Ytemapjlogfffpaa
