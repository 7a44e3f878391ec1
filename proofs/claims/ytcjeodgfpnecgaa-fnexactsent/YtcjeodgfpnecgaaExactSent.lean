/- FnExactSent is proved for every slice of nodes: the law answers true, so Sent answers as the specification does and leaves its argument as it was (of nodes of more than 1048576 bytes together the law itself says true at once); no condition beside the row's own. -/
import Derived.Test.YtcjeodgfpnecgaaRows
import Derived.Test.YtcjeodgfpnecgaaM5
import Derived.Test.YtcjeodgfpnecgaaM6
import Derived.Test.YtcjeodgfpnecgaaM36
import Derived.WalkKit
import Derived.ProofKit
import Derived.OpenShut
import Derived.ShutString
import Derived.ChangeOld
import Derived.Below
import Derived.Carry
namespace Go.Proofs.Ytcjeodgfpnecgaa.fnExactSent
open Go.ChangeShapes Go.WideShapes Go.ChangeAt Go.RowKit
open Go.ChangeMaps (open_string shut_string)
set_option linter.unusedVariables false

theorem own : ownKnob Try.prog.godebug = none := by kernel_rfl
theorem laidOut : laidOutB Try.prog = true := by kernel_rfl

set_option maxHeartbeats 2000000 in
theorem walk (a0 : Option Addr) (cap0 : Nat) (l0 : List Tk) (w : World) (wr0 : TkRow w a0 l0) (wn0 : l0.length ≤ maxLen) (wz0 : TksSz maxLen l0) (wk0 : ∀ t ∈ l0, (Lit.int .i64 t.kind).wf = true) :
    Calls Try.prog 3 #[.slice a0 l0.length cap0] w fun e w' => e = .returned (.bool true) ∧ Below w.heap.size w w' := by
  have C0 := hid (Nd.cSzNodeS a0 cap0 l0 w wr0 wz0 wn0)
  have HR := hid wr0
  clear wr0 wz0 wn0 wk0
  obtain ⟨n, hnn⟩ : ∃ n, l0.length = n := ⟨_, rfl⟩
  have HN := hid hnn
  rw [hnn] at C0 ⊢
  clear hnn
  go_enter Try.func3, Try.ntmps3
  go_wp2_with fail
  refine C0.out.mono ?_
  rintro e w1 ⟨r, rfl, hr, hb1⟩
  have HB1 := hid hb1
  have HR1 := hid (HR.out.below hb1)
  clear hb1 C0 HR
  rcases hr with rfl | ⟨h0, hn, hz, _⟩
  · go_wp2_with fail
    go_ret
    exact ⟨rfl, HB1.out⟩
  · have hd2 : decide (r < 0) = false := by simp; omega
    have CT := hid (fun (wx : World) (h : TkRow wx a0 l0) => Nd.cToNodeSL a0 cap0 l0 wx h hz (by rw [HN.out]; exact hn))
    have CS := hid (fun (g : Nat) (wx : World) (h : TkRow wx (some ⟨g, 0, none⟩) l0) => cSentS (some ⟨g, 0, none⟩) l0.length l0 wx h (by rw [HN.out]; exact hn) hz)
    have CI := hid (fun (g : Nat) (wx : World) (h : TkRow wx (some ⟨g, 0, none⟩) l0) => cSentI (some ⟨g, 0, none⟩) l0.length l0 wx h (by rw [HN.out]; exact hn) hz)
    have CE := hid (fun (g g2 : Nat) (wx : World) (h : TkRow wx (some ⟨g, 0, none⟩) l0) (h2 : TkRow wx (some ⟨g2, 0, none⟩) l0) => Nd.cEqNodeS (some ⟨g, 0, none⟩) (some ⟨g2, 0, none⟩) l0.length l0.length l0 wx h h2 hz (by rw [HN.out]; exact hn))
    rw [HN.out] at CT CS CI CE
    obtain ⟨V, hV⟩ : ∃ V, sentN l0 = V := ⟨_, rfl⟩
    rw [hV] at CS CI
    have hVV : (V.toList == V.toList) = true := by simp
    clear hV hz
    go_wp2_with fail
    refine (CT.out _ HR1.out).mono ?_
    rintro e w2 ⟨G, cur, rfl, hh, _, hl, hb2⟩
    rw [← HN.out] at hl
    have S2 := hid (hl.tkRow hh)
    have HB2 := hid (bb HB1.out hb2)
    have HR2 := hid (HR1.out.below hb2)
    clear hb2 hh hl HB1 HR1
    go_wp2_with fail
    refine (CS.out _ _ S2.out).mono ?_
    rintro e w3 ⟨rfl, hb3⟩
    have HB3 := hid (bb HB2.out hb3)
    have HR3 := hid (HR2.out.below hb3)
    clear hb3 HB2 HR2 S2 CS
    go_wp2_with fail
    refine (CT.out _ HR3.out).mono ?_
    rintro e w4 ⟨G4, cur4, rfl, hh, _, hl, hb4⟩
    rw [← HN.out] at hl
    have S4 := hid (hl.tkRow hh)
    have HB4 := hid (bb HB3.out hb4)
    have HR4 := hid (HR3.out.below hb4)
    clear hb4 hh hl HB3 HR3
    go_wp2_with fail
    refine (CI.out _ _ S4.out).mono ?_
    rintro e w5 ⟨rfl, hb5⟩
    have HB5 := hid (bb HB4.out hb5)
    have HR5 := hid (HR4.out.below hb5)
    have S5 := hid (S4.out.below hb5)
    clear hb5 HB4 HR4 S4 CI
    go_wp2_with fail
    refine (CT.out _ HR5.out).mono ?_
    rintro e w6 ⟨G6, cur6, rfl, hh, _, hl, hb6⟩
    rw [← HN.out] at hl
    have S6 := hid (hl.tkRow hh)
    have HB6 := hid (bb HB5.out hb6)
    have S56 := hid (S5.out.below hb6)
    clear hb6 hh hl HB5 HR5 S5
    go_wp2_with fail
    refine (CE.out _ _ _ S56.out S6.out).mono ?_
    rintro e w7 ⟨rfl, hb7⟩
    have HB7 := hid (bb HB6.out hb7)
    clear hb7
    go_wp2_with fail
    go_ret
    exact ⟨rfl, HB7.out⟩

set_option maxRecDepth 100000 in
theorem lifted (os : Os) (started : os.Started) (H : Type) (enc : TypeId × Value → H) :
    ReturnsInHanded {} Try.checked os 3 .any (Rows.fnExactSentSpec.pre6 enc Try.prog Try.f3 Rows.fnExactSentRow.domain false) (Rows.fnExactSentSpec.post enc Try.prog Try.f3 false true false false) := by
  refine returnsInHanded_of_change (C := Try.checked) own started (by kernel_rfl) Try.func3
    (ChangeSpec.witness6 (enc := enc) (C := Try.checked) false ⟨#[], #[.slice none 0 0], []⟩ 8 (by kernel_rfl) (by kernel_rfl) (by kernel_rfl) (by kernel_rfl)) ?_
  intro W base args ds gs before hval0 hW hcnd _
  have hval : ∀ (j : Nat) t v, Try.f3.params[j]? = some t → args[j]? = some v → Value.okWide Try.prog W .any base t v := hval0
  have hW' := hW
  obtain ⟨p, q, hA0, hV, rfl, hfz, hnd⟩ := hW
  have hA : DataW.TrodAll enc Try.prog W 0 (fun _ => true) true Try.f3.params.toList args.toList ds p := hA0
  rw [Try.params3] at hA hval
  obtain ⟨v0, vs0, d0, ds0, p0, q0, hargs, rfl, rfl, h0, r0⟩ := trodAll_cons hA
  obtain ⟨rfl, rfl, rfl⟩ := trodAll_nil r0
  obtain rfl : args = #[v0] := by cases args; simp_all
  obtain ⟨rfl, rfl⟩ := trodVars_none hV
  simp only [List.append_nil] at hW'
  have hlt : ∀ x ∈ p0, x.block < W.heap.size := fun x hx => by simpa using hW'.lt x (by simpa using hx)
  obtain ⟨a0, cap0, l0, rfl, wn0, wr0, wz0, wk0⟩ := Nd.rows_arg h0 (okWide_slice Try.underlying22 (hval 0 22 v0 rfl rfl)) (fun x hx => hlt x (by simp [hx]))
  clear hA0 hval0
  refine (walk a0 cap0 l0 W wr0 wn0 wz0 wk0).mono fun e W' ⟨he, bel⟩ => ?_
  subst he
  exact ⟨_, rfl, _, _, _, [], _, [], hW', trodAll_mk1 (shut_bool Try.underlying4 _), (trodAll_cons_mk (Below.trod laidOut (by kernel_rfl) (of_decide_eq_true (by kernel_rfl)) h0 bel (fun x hx => hlt x (by simp [hx]))) trodAll_mk0), rfl, bel.frame _, fun h => by cases h⟩

theorem over : Rows.fnExactSentRow.holds Try.pinned (OpenSpec.ofChange Rows.fnExactSentSpec) :=
  OpenClaim.holds_of_wide 3 Try.f3 rfl rfl rfl rfl rfl rfl rfl ⟨rfl, rfl, rfl, rfl, rfl⟩ rfl rfl rfl rfl rfl (by kernel_rfl) Try.func3 (by kernel_rfl)
    (of_decide_eq_true (by kernel_rfl)) (by unfold Func.isWrapper; first | (rw [if_pos (by decide +kernel)]; kernel_rfl) | (rw [if_neg (by decide +kernel)]; exact ⟨rfl, rfl⟩))
    (fun os started H enc _ => lifted os started H enc)

theorem proved : Rows.FnExactSentSaid := over
end Go.Proofs.Ytcjeodgfpnecgaa.fnExactSent

namespace Go.Proofs.Ytcjeodgfpnecgaa
theorem fnExactSent_holds : Rows.FnExactSentSaid := fnExactSent.proved
#print axioms fnExactSent_holds
end Go.Proofs.Ytcjeodgfpnecgaa
