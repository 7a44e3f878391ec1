/- FnExactShowToken is proved for every token: the law answers true, so ShowToken answers as the specification does and leaves its argument as it was (of a token of more than 1048576 bytes the law itself says true at once); no condition beside the row's own. -/
import Derived.Test.YtcciaepiimgdgaaRows
import Derived.Test.YtcciaepiimgdgaaNShow
import Derived.Test.YtcciaepiimgdgaaNOpenT
import Derived.Test.YtcciaepiimgdgaaNImplS
import Derived.WalkKit
import Derived.ProofKit
import Derived.OpenShut
import Derived.ShutString
import Derived.ChangeOld
import Derived.Below
import Derived.Carry
namespace Go.Proofs.Ytcciaepiimgdgaa.fnExactShowToken
open Go.ChangeShapes Go.WideShapes Go.ChangeAt Go.RowKit
open Go.ChangeMaps (open_string shut_string)
set_option linter.unusedVariables false

theorem own : ownKnob Try.prog.godebug = none := by kernel_rfl
theorem laidOut : laidOutB Try.prog = true := by kernel_rfl

set_option maxHeartbeats 2000000 in
theorem walk (t0 : Tk) (a0 : Option Addr) (cap0 : Nat) (w : World) (wr0 : AtRow w a0 t0.attrs) (wz0 : TkSz maxLen t0) (wk0 : (Lit.int .i64 t0.kind).wf = true) :
    Calls Try.prog 6 #[tkV t0 a0 cap0] w fun e w' => e = .returned (.bool true) ∧ Below w.heap.size w w' := by
  have C0 := fun w h => cSzToken t0 a0 cap0 w h wz0
  have HB0 := hid ((Below.refl w.heap.size w).alloc (Nat.le_refl _) (.cells #[.int .i64 t0.kind, .string t0.name, .slice a0 t0.attrs.length cap0, .string t0.text] 43))
  have HR := hid (wr0.below HB0.out)
  have M0 := hid (heap_alloc_new w (.cells #[.int .i64 t0.kind, .string t0.name, .slice a0 t0.attrs.length cap0, .string t0.text] 43))
  clear wr0 wz0 wk0
  go_enter Try.func6, Try.ntmps6
  go_wp2_with fail
  refine (C0 _ HR.out).mono ?_
  rintro e w1 ⟨r, rfl, hr, hb1⟩
  have HB1 := hid (bb HB0.out hb1)
  have HR1 := hid (HR.out.below hb1)
  have M1 := hid (blk_below M0.out hb1)
  clear hb1 C0 HB0 HR M0
  rcases hr with rfl | ⟨h0, hz⟩
  · go_wp2_with fail
    go_ret
    exact ⟨rfl, HB1.out⟩
  · have hd2 : decide (r < 0) = false := by simp; omega
    have CT := fun w h => cToToken t0 a0 cap0 w h hz.2.1
    have CS := fun g w h => cShowTokenS t0 (some ⟨g, 0, none⟩) t0.attrs.length w h hz
    have CI := fun g w h => cShowTokenI t0 (some ⟨g, 0, none⟩) t0.attrs.length w h hz
    have CE := fun g g2 w h h2 => cEqToken t0 (some ⟨g, 0, none⟩) (some ⟨g2, 0, none⟩) t0.attrs.length t0.attrs.length w h h2 hz
    obtain ⟨V, hV⟩ : ∃ V, shownT t0 = V := ⟨_, rfl⟩
    rw [hV] at CS CI
    have hVV : (V.toList != V.toList) = false := by simp
    have hVV2 : (V.toList == V.toList) = true := by simp
    clear hV hz
    obtain ⟨⟨x0, x1, x2, x3⟩, _⟩ := box4 M1.out
    go_wp2_with fail
    refine (CT _ HR1.out).mono ?_
    rintro e w2 ⟨g, _, rfl, s2, hb2⟩
    have HB2 := hid (bb HB1.out hb2)
    have HR2 := hid (HR1.out.below hb2)
    have M2 := hid (blk_below M1.out hb2)
    clear hb2 HB1 HR1 M1 x0 x1 x2 x3
    go_wp2_with fail
    refine (CS g _ s2).mono ?_
    rintro e w3 ⟨rfl, hb3⟩
    have HB3 := hid (bb HB2.out hb3)
    have HR3 := hid (HR2.out.below hb3)
    have M3 := hid (blk_below M2.out hb3)
    clear hb3 HB2 HR2 M2 s2 CS
    obtain ⟨⟨x0, x1, x2, x3⟩, _⟩ := box4 M3.out
    go_wp2_with fail
    refine (CT _ HR3.out).mono ?_
    rintro e w4 ⟨g4, _, rfl, s4, hb4⟩
    have HA4 := hid (heap_alloc_new w4 (.cells #[.int .i64 t0.kind, .string t0.name, .slice (some ⟨g4, 0, none⟩) t0.attrs.length t0.attrs.length, .string t0.text] 30))
    have HL4 := hid ((Below.refl w4.heap.size w4).alloc (Nat.le_refl _) (.cells #[.int .i64 t0.kind, .string t0.name, .slice (some ⟨g4, 0, none⟩) t0.attrs.length t0.attrs.length, .string t0.text] 30))
    have HB4 := hid (bb (bb HB3.out hb4) HL4.out)
    have HR4 := hid ((HR3.out.below hb4).below HL4.out)
    have S4 := hid (s4.below HL4.out)
    have M4 := hid (blk_alloc (blk_below M3.out hb4) (.cells #[.int .i64 t0.kind, .string t0.name, .slice (some ⟨g4, 0, none⟩) t0.attrs.length t0.attrs.length, .string t0.text] 30))
    clear hb4 HB3 HR3 M3 s4 x0 x1 x2 x3 HL4
    go_wp2_with fail
    refine (CI g4 _ S4.out).mono ?_
    rintro e w5 ⟨rfl, hb5⟩
    have HB5 := hid (bb HB4.out hb5)
    have HR5 := hid (HR4.out.below hb5)
    have S5 := hid (S4.out.below hb5)
    have M5 := hid (blk_below M4.out hb5)
    have A5 := hid (blk_below HA4.out hb5)
    clear hb5 HB4 HR4 M4 S4 HA4 CI
    obtain ⟨⟨x0, x1, x2, x3⟩, _⟩ := box4 M5.out
    obtain ⟨⟨y0, y1, y2, y3⟩, _⟩ := box4 A5.out
    go_wp2_with fail
    go_region_with (first
      | (go_at_call 25; refine (CT _ (HR5.out.below (below_drewN (Below.refl _ _) 1))).mono ?_; rintro e w6 ⟨g6, _, rfl, s6, hb6⟩; have HB6 := hid (bb HB5.out (show Below w5.heap.size w5 w6 from (below_drewN (Below.refl _ _) 1).trans hb6)); have S6 := hid (S5.out.below (show Below w5.heap.size w5 w6 from (below_drewN (Below.refl _ _) 1).trans hb6)); obtain ⟨⟨z0, z1, z2, z3⟩, _⟩ := box4 (blk_below A5.out (show Below w5.heap.size w5 w6 from (below_drewN (Below.refl _ _) 1).trans hb6)))
      | (go_at_call 26; refine (CE g4 g6 _ S6.out s6).mono ?_; rintro e w7 ⟨rfl, hb7⟩; have HB7 := hid (bb HB6.out hb7)))
    all_goals
      go_wp2_with fail
      go_ret
      exact ⟨rfl, HB7.out⟩

set_option maxRecDepth 100000 in
theorem lifted (os : Os) (started : os.Started) (H : Type) (enc : TypeId × Value → H) :
    ReturnsInHanded {} Try.checked os 6 .any (Rows.fnExactShowTokenSpec.pre6 enc Try.prog Try.f6 Rows.fnExactShowTokenRow.domain false) (Rows.fnExactShowTokenSpec.post enc Try.prog Try.f6 false true false false) := by
  refine returnsInHanded_of_change (C := Try.checked) own started (by kernel_rfl) Try.func6
    (ChangeSpec.witness6 (enc := enc) (C := Try.checked) false ⟨#[], #[.agg #[.int .i64 0, .string ⟨#[]⟩, .slice none 0 0, .string ⟨#[]⟩]], []⟩ 8 (by kernel_rfl) (by kernel_rfl) (by kernel_rfl) (by kernel_rfl)) ?_
  intro W base args ds gs before hval0 hW hcnd _
  have hval : ∀ (j : Nat) t v, Try.f6.params[j]? = some t → args[j]? = some v → Value.okWide Try.prog W .any base t v := hval0
  have hW' := hW
  obtain ⟨p, q, hA0, hV, rfl, hfz, hnd⟩ := hW
  have hA : DataW.TrodAll enc Try.prog W 0 (fun _ => true) true Try.f6.params.toList args.toList ds p := hA0
  rw [Try.params6] at hA hval
  obtain ⟨v0, vs0, d0, ds0, p0, q0, hargs, rfl, rfl, h0, r0⟩ := trodAll_cons hA
  obtain ⟨rfl, rfl, rfl⟩ := trodAll_nil r0
  obtain rfl : args = #[v0] := by cases args; simp_all
  obtain ⟨rfl, rfl⟩ := trodVars_none hV
  simp only [List.append_nil] at hW'
  have hlt : ∀ x ∈ p0, x.block < W.heap.size := fun x hx => by simpa using hW'.lt x (by simpa using hx)
  obtain ⟨t0, a0, cap0, rfl, wr0, wz0, wk0⟩ := token_of (hval 0 43 v0 rfl rfl) h0 (fun x hx => hlt x (by simp [hx]))
  clear hA0 hval0
  refine (walk t0 a0 cap0 W wr0 wz0 wk0).mono fun e W' ⟨he, bel⟩ => ?_
  subst he
  exact ⟨_, rfl, _, _, _, [], _, [], hW', trodAll_mk1 (shut_bool Try.underlying4 _), (trodAll_cons_mk (Below.trod laidOut (by kernel_rfl) (of_decide_eq_true (by kernel_rfl)) h0 bel (fun x hx => hlt x (by simp [hx]))) trodAll_mk0), rfl, bel.frame _, fun h => by cases h⟩

theorem over : Rows.fnExactShowTokenRow.holds Try.pinned (OpenSpec.ofChange Rows.fnExactShowTokenSpec) :=
  OpenClaim.holds_of_wide 6 Try.f6 rfl rfl rfl rfl rfl rfl rfl ⟨rfl, rfl, rfl, rfl, rfl⟩ rfl rfl rfl rfl rfl (by kernel_rfl) Try.func6 (by kernel_rfl)
    (of_decide_eq_true (by kernel_rfl)) (by unfold Func.isWrapper; first | (rw [if_pos (by decide +kernel)]; kernel_rfl) | (rw [if_neg (by decide +kernel)]; exact ⟨rfl, rfl⟩))
    (fun os started H enc _ => lifted os started H enc)

theorem proved : Rows.FnExactShowTokenSaid := over
end Go.Proofs.Ytcciaepiimgdgaa.fnExactShowToken

namespace Go.Proofs.Ytcciaepiimgdgaa
theorem fnExactShowToken_holds : Rows.FnExactShowTokenSaid := fnExactShowToken.proved
#print axioms fnExactShowToken_holds
end Go.Proofs.Ytcciaepiimgdgaa
