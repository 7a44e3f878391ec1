/- FnExactValueIn is proved for every slice of attrs, a nil one too, and every name: the law answers true, so ValueIn answers as the specification does and leaves its arguments as they were (where list or name are together of more than 1048576 bytes the law itself says true at once); no condition beside the row's own. -/
import Derived.Test.YtcciaepiimgdgaaRows
import Derived.Test.YtcciaepiimgdgaaNArg
import Derived.Test.YtcciaepiimgdgaaNOpen
import Derived.Test.YtcciaepiimgdgaaNImpl
import Derived.WalkKit
import Derived.ProofKit
import Derived.OpenShut
import Derived.ShutString
import Derived.ChangeOld
import Derived.Below
import Derived.Carry
namespace Go.Proofs.Ytcciaepiimgdgaa.fnExactValueIn
open Go.ChangeShapes Go.WideShapes Go.ChangeAt Go.RowKit
open Go.ChangeMaps (open_string shut_string)
set_option linter.unusedVariables false

theorem own : ownKnob Try.prog.godebug = none := by kernel_rfl
theorem laidOut : laidOutB Try.prog = true := by kernel_rfl

set_option maxHeartbeats 2000000 in
theorem walk (a0 : Option Addr) (cap0 : Nat) (l0 : List At) (s1 : ByteArray) (w : World) (wr0 : AtRow w a0 l0) (wn0 : l0.length ≤ maxLen) (wz0 : AtSz maxLen l0) (ws1 : s1.size ≤ maxLen) :
    Calls Try.prog 7 #[.slice a0 l0.length cap0, .string s1] w fun e w' => e = .returned (.bool true) ∧ Below w.heap.size w w' := by
  by_cases hs : s1.size ≤ 1048576
  · have hd : decide ((1048576 : Int) < (s1.size : Int)) = false := by simp; omega
    have C0 := fun w h => cSzAttrS a0 cap0 l0 1048576 w h wz0 wn0 (Nat.le_refl _)
    have HR := hid wr0
    clear wz0 wn0 wr0
    go_enter Try.func7, Try.ntmps7
    go_wp2_with fail
    refine (C0 _ HR.out).mono ?_
    rintro e w1 ⟨r, rfl, hr, hb1⟩
    have HB1 := hid hb1
    clear hb1 C0
    rcases hr with rfl | ⟨h0, _, hn, hz⟩
    · go_wp2_with fail
      go_ret
      exact ⟨rfl, HB1.out⟩
    · have hd2 : decide (r < 0) = false := by simp; omega
      have CT := fun w h => cToAttrS a0 cap0 l0 w h hn
      have CS := fun g w h => cValueInS (some ⟨g, 0, none⟩) l0.length l0 s1 w h hz hn hs
      have CI := fun g w h => cValueInI (some ⟨g, 0, none⟩) l0.length l0 s1 w h hz hn hs
      have CE := fun g g2 w h h2 => cEqAttrS (some ⟨g, 0, none⟩) (some ⟨g2, 0, none⟩) l0.length l0.length l0 w h h2 hz hn
      obtain ⟨V, hV⟩ : ∃ V, (valF l0 s1).getD ByteArray.empty = V := ⟨_, rfl⟩
      obtain ⟨B, hB⟩ : ∃ B, (valF l0 s1).isSome = B := ⟨_, rfl⟩
      rw [hV, hB] at CS CI
      have hBB : (B != B) = false := by cases B <;> rfl
      have hVV : (V.toList != V.toList) = false := by simp
      have hVV2 : (V.toList == V.toList) = true := by simp
      clear hV hB hn hz
      obtain ⟨n, hn⟩ : ∃ n, l0.length = n := ⟨_, rfl⟩
      rw [hn] at CT CS CI CE ⊢
      clear hn
      go_wp2_with fail
      refine (CT _ (HR.out.below HB1.out)).mono ?_
      rintro e w2 ⟨g, _, rfl, s2, hb2⟩
      have HB2 := hid (bb HB1.out hb2)
      clear hb2 HB1
      go_wp2_with fail
      refine (CS g _ s2).mono ?_
      rintro e w3 ⟨rfl, rfl⟩
      clear s2 CS
      go_wp2_with fail
      refine (CT _ (HR.out.below HB2.out)).mono ?_
      rintro e w4 ⟨g2, _, rfl, s4, hb4⟩
      have HB4 := hid (bb HB2.out hb4)
      clear hb4 HB2
      go_wp2_with fail
      refine (CI g2 _ s4).mono ?_
      rintro e w5 ⟨rfl, hb5⟩
      have HB5 := hid (bb HB4.out hb5)
      have S5 := hid (s4.below hb5)
      clear hb5 HB4 s4 CI
      go_wp2_with fail
      refine (CT _ (HR.out.below HB5.out)).mono ?_
      rintro e w6 ⟨g3, _, rfl, s6, hb6⟩
      have HB6 := hid (bb HB5.out hb6)
      have S6 := hid (S5.out.below hb6)
      clear hb6 HB5 S5 CT
      go_wp2_with fail
      refine (CE g2 g3 _ S6.out s6).mono ?_
      rintro e w7 ⟨rfl, hb7⟩
      have HB7 := hid (bb HB6.out hb7)
      clear hb7 HB6 s6 S6 CE
      go_wp2_with fail
      go_ret
      exact ⟨rfl, HB7.out⟩
  · have hd : decide ((1048576 : Int) < (s1.size : Int)) = true := by simp; omega
    clear wz0 wn0 wr0
    unfold maxLen at ws1
    go_enter Try.func7, Try.ntmps7
    go_wp2_with fail
    go_ret
    exact ⟨rfl, Below.refl _ _⟩

set_option maxRecDepth 100000 in
theorem lifted (os : Os) (started : os.Started) (H : Type) (enc : TypeId × Value → H) :
    ReturnsInHanded {} Try.checked os 7 .any (Rows.fnExactValueInSpec.pre6 enc Try.prog Try.f7 Rows.fnExactValueInRow.domain false) (Rows.fnExactValueInSpec.post enc Try.prog Try.f7 false true false false) := by
  refine returnsInHanded_of_change (C := Try.checked) own started (by kernel_rfl) Try.func7
    (ChangeSpec.witness6 (enc := enc) (C := Try.checked) false ⟨#[], #[.slice none 0 0, .string ⟨#[]⟩], []⟩ 8 (by kernel_rfl) (by kernel_rfl) (by kernel_rfl) (by kernel_rfl)) ?_
  intro W base args ds gs before hval0 hW hcnd _
  have hval : ∀ (j : Nat) t v, Try.f7.params[j]? = some t → args[j]? = some v → Value.okWide Try.prog W .any base t v := hval0
  have hW' := hW
  obtain ⟨p, q, hA0, hV, rfl, hfz, hnd⟩ := hW
  have hA : DataW.TrodAll enc Try.prog W 0 (fun _ => true) true Try.f7.params.toList args.toList ds p := hA0
  rw [Try.params7] at hA hval
  obtain ⟨v0, vs0, d0, ds0, p0, q0, hargs, rfl, rfl, h0, r0⟩ := trodAll_cons hA
  obtain ⟨v1, vs1, d1, ds1, p1, q1, rfl, rfl, rfl, h1, r1⟩ := trodAll_cons r0
  obtain ⟨rfl, rfl, rfl⟩ := trodAll_nil r1
  obtain rfl : args = #[v0, v1] := by cases args; simp_all
  obtain ⟨rfl, rfl⟩ := trodVars_none hV
  simp only [List.append_nil] at hW'
  have hlt : ∀ x ∈ p0 ++ p1, x.block < W.heap.size := fun x hx => by simpa using hW'.lt x (by simpa using hx)
  obtain ⟨a0, cap0, l0, rfl, wn0, wr0, wz0⟩ := attrs_arg h0 (okWide_slice Try.underlying41 (hval 0 41 v0 rfl rfl)) (fun x hx => hlt x (by simp [hx]))
  obtain ⟨s1, rfl, _, _, ws1⟩ := open_string Try.underlying9 (hval 1 9 v1 rfl rfl) h1
  clear hA0 hval0
  refine (walk a0 cap0 l0 s1 W wr0 wn0 wz0 ws1).mono fun e W' ⟨he, bel⟩ => ?_
  subst he
  exact ⟨_, rfl, _, _, _, [], _, [], hW', trodAll_mk1 (shut_bool Try.underlying4 _), (trodAll_cons_mk (Below.trod laidOut (by kernel_rfl) (of_decide_eq_true (by kernel_rfl)) h0 bel (fun x hx => hlt x (by simp [hx]))) (trodAll_cons_mk (Below.trod laidOut (by kernel_rfl) (of_decide_eq_true (by kernel_rfl)) h1 bel (fun x hx => hlt x (by simp [hx]))) trodAll_mk0)), rfl, bel.frame _, fun h => by cases h⟩

theorem over : Rows.fnExactValueInRow.holds Try.pinned (OpenSpec.ofChange Rows.fnExactValueInSpec) :=
  OpenClaim.holds_of_wide 7 Try.f7 rfl rfl rfl rfl rfl rfl rfl ⟨rfl, rfl, rfl, rfl, rfl⟩ rfl rfl rfl rfl rfl (by kernel_rfl) Try.func7 (by kernel_rfl)
    (of_decide_eq_true (by kernel_rfl)) (by unfold Func.isWrapper; first | (rw [if_pos (by decide +kernel)]; kernel_rfl) | (rw [if_neg (by decide +kernel)]; exact ⟨rfl, rfl⟩))
    (fun os started H enc _ => lifted os started H enc)

theorem proved : Rows.FnExactValueInSaid := over
end Go.Proofs.Ytcciaepiimgdgaa.fnExactValueIn

namespace Go.Proofs.Ytcciaepiimgdgaa
theorem fnExactValueIn_holds : Rows.FnExactValueInSaid := fnExactValueIn.proved
#print axioms fnExactValueIn_holds
end Go.Proofs.Ytcciaepiimgdgaa
