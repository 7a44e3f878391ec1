/- FnExactSameCanon is proved for every two slices of nodes: the law answers true, so SameCanon answers as the specification does and leaves its arguments as they were (of nodes of more than 1048576 bytes together the law itself says true at once); no condition beside the rows' own. -/
import Derived.Test.YtmghipjpgoghlaaGreatRows
import Derived.Test.YtmghipjpgoghlaaGreatM4
import Derived.Test.YtmghipjpgoghlaaGreatM18
import Derived.Test.YtmghipjpgoghlaaGreatM29
import Derived.WalkKit
import Derived.ProofKit
import Derived.OpenShut
import Derived.ShutString
import Derived.ChangeOld
import Derived.Below
import Derived.Carry
namespace Go.Proofs.YtmghipjpgoghlaaGreat.fnExactSameCanon
open Go.ChangeShapes Go.WideShapes Go.ChangeAt Go.RowKit
open Go.ChangeMaps (open_string shut_string)
set_option linter.unusedVariables false

theorem own : ownKnob Tryz.prog.godebug = none := by kernel_rfl
theorem laidOut : laidOutB Tryz.prog = true := by kernel_rfl

set_option maxHeartbeats 2000000 in
theorem walk (a0 : Option Addr) (cap0 : Nat) (l0 : List Tk) (a1 : Option Addr) (cap1 : Nat) (l1 : List Tk) (w : World) (wr0 : TkRow w a0 l0) (wn0 : l0.length ≤ maxLen) (wz0 : TksSz maxLen l0) (wk0 : ∀ t ∈ l0, (Lit.int .i64 t.kind).wf = true) (wr1 : TkRow w a1 l1) (wn1 : l1.length ≤ maxLen) (wz1 : TksSz maxLen l1) (wk1 : ∀ t ∈ l1, (Lit.int .i64 t.kind).wf = true) :
    Calls Tryz.prog 8 #[.slice a0 l0.length cap0, .slice a1 l1.length cap1] w fun e w' => e = .returned (.bool true) ∧ Below w.heap.size w w' := by
  have C0 := hid (Nd.cSzNodeG a0 cap0 l0 1048576 w wr0 wz0 wn0 (Nat.le_refl _))
  have C2 := hid (fun (Z : Nat) (hZ : Z ≤ 1048576) wx (h : TkRow wx a1 l1) => Nd.cSzNodeG a1 cap1 l1 Z wx h wz1 wn1 hZ)
  have HR := hid wr0
  have HRx := hid wr1
  clear wr0 wz0 wn0 wk0 wr1 wz1 wn1 wk1
  obtain ⟨n, hnn⟩ : ∃ n, l0.length = n := ⟨_, rfl⟩
  have HN := hid hnn
  obtain ⟨n2, hnn2⟩ : ∃ n2, l1.length = n2 := ⟨_, rfl⟩
  have HN2 := hid hnn2
  rw [hnn] at C0 ⊢
  rw [hnn2] at C2 ⊢
  clear hnn hnn2
  go_enter Tryz.func8, Tryz.ntmps8
  go_wp2_with fail
  refine C0.out.mono ?_
  rintro e w0 ⟨r, rfl, hr, hb0⟩
  have HB0 := hid hb0
  have HR0 := hid (HR.out.below hb0)
  have HRx0 := hid (HRx.out.below hb0)
  clear hb0 C0 HR HRx
  rcases hr with rfl | ⟨h0, h00, hn, hz, hsum⟩
  · go_wp2_with fail
    go_ret
    exact ⟨rfl, HB0.out⟩
  obtain ⟨Z, rfl⟩ : ∃ Z : Nat, r = (Z : Int) := ⟨r.toNat, by omega⟩
  have hd1 : decide ((Z : Int) < 0) = false := by simp
  go_wp2_with fail
  refine (C2.out Z (by omega) _ HRx0.out).mono ?_
  rintro e w1 ⟨r, rfl, hr, hb1⟩
  have HB1 := hid (bb HB0.out hb1)
  have HR1 := hid (HR0.out.below hb1)
  have HRx1 := hid (HRx0.out.below hb1)
  clear hb1 C2 HR0 HRx0 HB0
  rcases hr with rfl | ⟨h0, h01, hn2, hz2, hsum2⟩
  · go_wp2_with fail
    go_ret
    exact ⟨rfl, HB1.out⟩
  have hd2 : decide (r < 0) = false := by simp; omega
  have CTx := hid (fun (wx : World) (h : TkRow wx a1 l1) => Nd.cToNodeSL a1 cap1 l1 wx h hz2 (by rw [HN2.out]; exact hn2))
  have CEx := hid (fun (g g2 : Nat) (wx : World) (h : TkRow wx (some ⟨g, 0, none⟩) l1) (h2 : TkRow wx (some ⟨g2, 0, none⟩) l1) => Nd.cEqNodeS (some ⟨g, 0, none⟩) (some ⟨g2, 0, none⟩) l1.length l1.length l1 wx h h2 hz2 (by rw [HN2.out]; exact hn2))
  have CT := hid (fun (wx : World) (h : TkRow wx a0 l0) => Nd.cToNodeSL a0 cap0 l0 wx h hz (by rw [HN.out]; exact hn))
  have CS := hid (fun (g g2 : Nat) (wx : World) (h : TkRow wx (some ⟨g, 0, none⟩) l0) (h2 : TkRow wx (some ⟨g2, 0, none⟩) l1) => cSameCanonS (some ⟨g, 0, none⟩) (some ⟨g2, 0, none⟩) l0.length l1.length l0 l1 wx h h2 (by rw [HN.out]; exact hn) (by rw [HN2.out]; exact hn2) hz hz2)
  have CI := hid (fun (g g2 : Nat) (wx : World) (h : TkRow wx (some ⟨g, 0, none⟩) l0) (h2 : TkRow wx (some ⟨g2, 0, none⟩) l1) => cSameCanonI (some ⟨g, 0, none⟩) (some ⟨g2, 0, none⟩) l0.length l1.length l0 l1 wx h h2 (Nat.le_refl _) (Nat.le_refl _) (by rw [HN.out]; exact hn) (by rw [HN2.out]; exact hn2) hz hz2)
  have CE := hid (fun (g g2 : Nat) (wx : World) (h : TkRow wx (some ⟨g, 0, none⟩) l0) (h2 : TkRow wx (some ⟨g2, 0, none⟩) l0) => Nd.cEqNodeS (some ⟨g, 0, none⟩) (some ⟨g2, 0, none⟩) l0.length l0.length l0 wx h h2 hz (by rw [HN.out]; exact hn))
  rw [HN.out] at CT CS CI CE
  rw [HN2.out] at CTx CS CI CEx
  obtain ⟨V, hV⟩ : ∃ V, sameC l0 l1 = V := ⟨_, rfl⟩
  rw [hV] at CS CI
  have hVV : (V != V) = false := by cases V <;> rfl
  clear hV hz hz2 hsum hsum2
  go_wp2_with fail
  refine (CT.out _ HR1.out).mono ?_
  rintro e w2 ⟨G, cur, rfl, hh, _, hl, hb2⟩
  rw [← HN.out] at hl
  have S2 := hid (hl.tkRow hh)
  have HB2 := hid (bb HB1.out hb2)
  have HR2 := hid (HR1.out.below hb2)
  have HRx2 := hid (HRx1.out.below hb2)
  clear hb2 hh hl HB1 HR1 HRx1
  go_wp2_with fail
  refine (CTx.out _ HRx2.out).mono ?_
  rintro e w3 ⟨G3, cur3, rfl, hh, _, hl, hb3⟩
  rw [← HN2.out] at hl
  have Sx3 := hid (hl.tkRow hh)
  have S3 := hid (S2.out.below hb3)
  have HB3 := hid (bb HB2.out hb3)
  have HR3 := hid (HR2.out.below hb3)
  have HRx3 := hid (HRx2.out.below hb3)
  clear hb3 hh hl HB2 HR2 HRx2 S2
  go_wp2_with fail
  refine (CS.out _ _ _ S3.out Sx3.out).mono ?_
  rintro e w4 ⟨rfl, hb4⟩
  have HB4 := hid (bb HB3.out hb4)
  have HR4 := hid (HR3.out.below hb4)
  have HRx4 := hid (HRx3.out.below hb4)
  clear hb4 HB3 HR3 HRx3 S3 Sx3 CS
  go_wp2_with fail
  refine (CT.out _ HR4.out).mono ?_
  rintro e w5 ⟨G5, cur5, rfl, hh, _, hl, hb5⟩
  rw [← HN.out] at hl
  have S5 := hid (hl.tkRow hh)
  have HB5 := hid (bb HB4.out hb5)
  have HR5 := hid (HR4.out.below hb5)
  have HRx5 := hid (HRx4.out.below hb5)
  clear hb5 hh hl HB4 HR4 HRx4
  go_wp2_with fail
  refine (CTx.out _ HRx5.out).mono ?_
  rintro e w6 ⟨G6, cur6, rfl, hh, _, hl, hb6⟩
  rw [← HN2.out] at hl
  have Sx6 := hid (hl.tkRow hh)
  have S6 := hid (S5.out.below hb6)
  have HB6 := hid (bb HB5.out hb6)
  have HR6 := hid (HR5.out.below hb6)
  have HRx6 := hid (HRx5.out.below hb6)
  clear hb6 hh hl HB5 HR5 HRx5 S5
  go_wp2_with fail
  refine (CI.out _ _ _ S6.out Sx6.out).mono ?_
  rintro e w7 ⟨rfl, hb7⟩
  have HB7 := hid (bb HB6.out hb7)
  have HR7 := hid (HR6.out.below hb7)
  have HRx7 := hid (HRx6.out.below hb7)
  have S7 := hid (S6.out.below hb7)
  have Sx7 := hid (Sx6.out.below hb7)
  clear hb7 HB6 HR6 HRx6 S6 Sx6 CI
  go_wp2_with fail
  refine (CT.out _ HR7.out).mono ?_
  rintro e w8 ⟨G8, cur8, rfl, hh, _, hl, hb8⟩
  rw [← HN.out] at hl
  have S8 := hid (hl.tkRow hh)
  have HB8 := hid (bb HB7.out hb8)
  have HRx8 := hid (HRx7.out.below hb8)
  have T8 := hid (S7.out.below hb8)
  have Tx8 := hid (Sx7.out.below hb8)
  clear hb8 hh hl HB7 HR7 HRx7 S7 Sx7
  go_wp2_with fail
  refine (CE.out _ _ _ T8.out S8.out).mono ?_
  rintro e w9 ⟨rfl, hb9⟩
  have HB9 := hid (bb HB8.out hb9)
  have HRx9 := hid (HRx8.out.below hb9)
  have Tx9 := hid (Tx8.out.below hb9)
  clear hb9 HB8 HRx8 T8 Tx8 S8 CE
  go_wp2_with fail
  refine (CTx.out _ HRx9.out).mono ?_
  rintro e w10 ⟨G10, cur10, rfl, hh, _, hl, hb10⟩
  rw [← HN2.out] at hl
  have S10 := hid (hl.tkRow hh)
  have HB10 := hid (bb HB9.out hb10)
  have Tx10 := hid (Tx9.out.below hb10)
  clear hb10 hh hl HB9 HRx9 Tx9
  go_wp2_with fail
  refine (CEx.out _ _ _ Tx10.out S10.out).mono ?_
  rintro e w11 ⟨rfl, hb11⟩
  have HB11 := hid (bb HB10.out hb11)
  clear hb11
  go_wp2_with fail
  go_ret
  exact ⟨rfl, HB11.out⟩

set_option maxRecDepth 100000 in
theorem lifted (os : Os) (started : os.Started) (H : Type) (enc : TypeId × Value → H) :
    ReturnsInHanded {} Tryz.checked os 8 .any (Rows.fnExactSameCanonSpec.pre6 enc Tryz.prog Tryz.f8 Rows.fnExactSameCanonRow.domain false) (Rows.fnExactSameCanonSpec.post enc Tryz.prog Tryz.f8 false true false false) := by
  refine returnsInHanded_of_change (C := Tryz.checked) own started (by kernel_rfl) Tryz.func8
    (ChangeSpec.witness6 (enc := enc) (C := Tryz.checked) false ⟨#[], #[.slice none 0 0, .slice none 0 0], []⟩ 8 (by kernel_rfl) (by kernel_rfl) (by kernel_rfl) (by kernel_rfl)) ?_
  intro W base args ds gs before hval0 hW hcnd _
  have hval : ∀ (j : Nat) t v, Tryz.f8.params[j]? = some t → args[j]? = some v → Value.okWide Tryz.prog W .any base t v := hval0
  have hW' := hW
  obtain ⟨p, q, hA0, hV, rfl, hfz, hnd⟩ := hW
  have hA : DataW.TrodAll enc Tryz.prog W 0 (fun _ => true) true Tryz.f8.params.toList args.toList ds p := hA0
  rw [Tryz.params8] at hA hval
  obtain ⟨v0, vs0, d0, ds0, p0, q0, hargs, rfl, rfl, h0, r0⟩ := trodAll_cons hA
  obtain ⟨v1, vs1, d1, ds1, p1, q1, rfl, rfl, rfl, h1, r1⟩ := trodAll_cons r0
  obtain ⟨rfl, rfl, rfl⟩ := trodAll_nil r1
  obtain rfl : args = #[v0, v1] := by cases args; simp_all
  obtain ⟨rfl, rfl⟩ := trodVars_none hV
  simp only [List.append_nil] at hW'
  have hlt : ∀ x ∈ p0 ++ p1, x.block < W.heap.size := fun x hx => by simpa using hW'.lt x (by simpa using hx)
  obtain ⟨a0, cap0, l0, rfl, wn0, wr0, wz0, wk0⟩ := Nd.rows_arg h0 (okWide_slice Tryz.underlying48 (hval 0 48 v0 rfl rfl)) (fun x hx => hlt x (by simp [hx]))
  obtain ⟨a1, cap1, l1, rfl, wn1, wr1, wz1, wk1⟩ := Nd.rows_arg h1 (okWide_slice Tryz.underlying48 (hval 1 48 v1 rfl rfl)) (fun x hx => hlt x (by simp [hx]))
  clear hA0 hval0
  refine (walk a0 cap0 l0 a1 cap1 l1 W wr0 wn0 wz0 wk0 wr1 wn1 wz1 wk1).mono fun e W' ⟨he, bel⟩ => ?_
  subst he
  exact ⟨_, rfl, _, _, _, [], _, [], hW', trodAll_mk1 (shut_bool Tryz.underlying4 _), (trodAll_cons_mk (Below.trod laidOut (by kernel_rfl) (of_decide_eq_true (by kernel_rfl)) h0 bel (fun x hx => hlt x (by simp [hx]))) (trodAll_cons_mk (Below.trod laidOut (by kernel_rfl) (of_decide_eq_true (by kernel_rfl)) h1 bel (fun x hx => hlt x (by simp [hx]))) trodAll_mk0)), rfl, bel.frame _, fun h => by cases h⟩

theorem over : Rows.fnExactSameCanonRow.holds Tryz.pinned (OpenSpec.ofChange Rows.fnExactSameCanonSpec) :=
  OpenClaim.holds_of_wide 8 Tryz.f8 rfl rfl rfl rfl rfl rfl rfl ⟨rfl, rfl, rfl, rfl, rfl⟩ rfl rfl rfl rfl rfl (by kernel_rfl) Tryz.func8 (by kernel_rfl)
    (of_decide_eq_true (by kernel_rfl)) (by unfold Func.isWrapper; first | (rw [if_pos (by decide +kernel)]; kernel_rfl) | (rw [if_neg (by decide +kernel)]; exact ⟨rfl, rfl⟩))
    (fun os started H enc _ => lifted os started H enc)

theorem proved : Rows.FnExactSameCanonSaid := over
end Go.Proofs.YtmghipjpgoghlaaGreat.fnExactSameCanon

namespace Go.Proofs.YtmghipjpgoghlaaGreat
theorem fnExactSameCanon_holds : Rows.FnExactSameCanonSaid := fnExactSameCanon.proved
#print axioms fnExactSameCanon_holds
end Go.Proofs.YtmghipjpgoghlaaGreat
