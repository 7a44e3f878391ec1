/- FnExactSealParts is proved for every slice of nodes and every number: the law answers true, so SealParts answers as the specification does, in memory of its own, and leaves its argument as it was (of nodes of more than 1048576 bytes together the law itself says true at once); no condition beside the row's own -/
import Derived.Test.YtkejmifkjgpdjaaGreatRows
import Derived.Test.YtkejmifkjgpdjaaGreatM11
import Derived.Test.YtkejmifkjgpdjaaGreatM12
import Derived.Test.YtkejmifkjgpdjaaGreatM23
import Derived.Test.YtkejmifkjgpdjaaGreatM37
import Derived.WalkKit
import Derived.ProofKit
import Derived.OpenShut
import Derived.ShutString
import Derived.ChangeOld
import Derived.Below
import Derived.Carry
namespace Go.Proofs.YtkejmifkjgpdjaaGreat.fnExactSealParts
open Go.ChangeShapes Go.WideShapes Go.ChangeAt Go.RowKit
open Go.ChangeMaps (open_string shut_string)
set_option linter.unusedVariables false

theorem own : ownKnob Tryz.prog.godebug = none := by kernel_rfl
theorem laidOut : laidOutB Tryz.prog = true := by kernel_rfl

set_option maxHeartbeats 2000000 in
theorem walk (a0 : Option Addr) (cap0 : Nat) (l0 : List Tk) (a1 : Int) (w : World) (wr0 : TkRow w a0 l0) (wn0 : l0.length ≤ maxLen) (wz0 : TksSz maxLen l0) (wk0 : ∀ t ∈ l0, (Lit.int .i64 t.kind).wf = true) (w1 : (Lit.int .i64 a1).wf = true) :
    Calls Tryz.prog 3 #[.slice a0 l0.length cap0, .int .i64 a1] w fun e w' => e = .returned (.bool true) ∧ Below w.heap.size w w' := by
  have C0 := hid (Nd.cSzNodeS a0 cap0 l0 w wr0 wz0 wn0)
  have HR := hid wr0
  clear wr0 wz0 wn0 wk0
  obtain ⟨n, hnn⟩ : ∃ n, l0.length = n := ⟨_, rfl⟩
  have HN := hid hnn
  rw [hnn] at C0 ⊢
  clear hnn
  go_enter Tryz.func3, Tryz.ntmps3
  go_wp2_with fail
  refine C0.out.mono ?_
  rintro e w1 ⟨r, rfl, hr, hb1⟩
  have HB1 := hid hb1
  have HR1 := hid (HR.out.below hb1)
  clear hb1 C0 HR
  rcases hr with rfl | ⟨h0, hn, hz, hsum⟩
  · go_wp2_with fail
    go_ret
    exact ⟨rfl, HB1.out⟩
  have hd2 : decide (r < 0) = false := by simp; omega
  have CT := hid (fun (wx : World) (h : TkRow wx a0 l0) => Nd.cToNodeSL a0 cap0 l0 wx h hz (by rw [HN.out]; exact hn))
  have CS := hid (fun (g : Nat) (wx : World) (h : TkRow wx (some ⟨g, 0, none⟩) l0) => cSealPartsS (some ⟨g, 0, none⟩) l0.length l0 a1 wx h (by rw [HN.out]; exact hn) hz)
  have CI := hid (fun (g : Nat) (wx : World) (h : TkRow wx (some ⟨g, 0, none⟩) l0) => cSealPartsI (some ⟨g, 0, none⟩) l0.length l0 a1 wx h (by rw [HN.out]; exact hn) hz)
  have CE := hid (fun (g g2 : Nat) (wx : World) (h : TkRow wx (some ⟨g, 0, none⟩) l0) (h2 : TkRow wx (some ⟨g2, 0, none⟩) l0) => Nd.cEqNodeS (some ⟨g, 0, none⟩) (some ⟨g2, 0, none⟩) l0.length l0.length l0 wx h h2 hz (by rw [HN.out]; exact hn))
  have hlk := parts_len l0 a1
  obtain ⟨L, hL⟩ : ∃ L, partsL l0 a1 = L := ⟨_, rfl⟩
  rw [hL] at CS CI hlk
  have CQ := hid (fun (x y : Option Addr) (cx cy : Nat) (wx : World) (h : StrRow wx x L) (h2 : StrRow wx y L) => cEqStringS x y cx cy L wx h h2 (by omega))
  have HSM := hid hsum
  obtain ⟨ln, hln⟩ : ∃ ln, L.length = ln := ⟨_, rfl⟩
  have HLN := hid hln
  have hL100 : ln ≤ 1048576 := by omega
  rw [hln] at CQ CS CI
  rw [HN.out] at CT CS CI CE
  clear hL hz hsum hln hlk
  go_wp2_with fail
  refine (CT.out _ HR1.out).mono ?_
  rintro e w2 ⟨G, cur, rfl, hh, _, hl, hb2⟩
  rw [← HN.out] at hl
  have S2 := hid (hl.tkRow hh)
  have HB2 := hid (bb HB1.out hb2)
  have HR2 := hid (HR1.out.below hb2)
  clear hb2 hh hl HB1 HR1
  go_wp2_with fail
  refine (CS.out _ _ S2.out).mono ?_
  rintro e w3 ⟨v3, rfl, hr3, hb3⟩
  rw [← HLN.out] at hr3
  obtain ⟨a3, c3, hv3, ht3⟩ := ownStr hr3
  subst hv3
  have HT3 := hid ht3
  have HB3 := hid (bb HB2.out hb3)
  have HR3 := hid (HR2.out.below hb3)
  rw [HLN.out]
  clear hr3 hb3 ht3 HB2 HR2 S2 CS
  go_wp2_with fail
  refine (CT.out _ HR3.out).mono ?_
  rintro e w4 ⟨G4, cur4, rfl, hh4, _, hl4, hb4⟩
  rw [← HN.out] at hl4
  have S4 := hid (hl4.tkRow hh4)
  have HHas := hid (hl4.hasI hh4)
  obtain ⟨hok4, hho4⟩ := hl4.shape hh4
  have HOK4 := hid hok4
  have HHO4 := hid hho4
  have D4 := hid hb4
  have hlt4 : w3.heap.size < w4.heap.size := lt_of_heap hh4
  have HLT4 := hid hlt4
  clear hb4 hh4 hl4 hok4 hho4 hlt4
  go_wp2_with fail
  refine (CI.out _ _ S4.out).mono ?_
  rintro e w5 ⟨v5, rfl, hr5, hb5⟩
  have R5 := hid hr5
  rw [← HLN.out] at hr5
  obtain ⟨a5, c5, hv5, ht5⟩ := ownStr hr5
  subst hv5
  rw [HLN.out] at R5
  have D5 := hid (bb D4.out hb5)
  have S5 := hid (S4.out.below hb5)
  have HO5 := hid (HHO4.out.below hb5)
  rw [HLN.out]
  clear hr5 ht5 hb5 S4 HHO4
  go_wp2_with fail
  refine (CQ.out a5 a3 c5 c3 _ (ownStr_rd R5.out HLN.out) (HT3.out.below D5.out)).mono ?_
  rintro e w6 ⟨rfl, hb6⟩
  have R6 := hid (ownsRow_below R5.out hb6)
  have D6 := hid (bb D5.out hb6)
  have S6 := hid (S5.out.below hb6)
  have HO6 := hid (HO5.out.below hb6)
  clear hb6 R5 S5 HO5
  go_wp2_with fail
  refine (CT.out _ (HR3.out.below D6.out)).mono ?_
  rintro e w7 ⟨G7, cur7, rfl, hh7, _, hl7, hb7⟩
  rw [← HN.out] at hl7
  have X7 := hid (hl7.tkRow hh7)
  have R7 := hid (ownsRow_below R6.out hb7)
  have D7 := hid (bb D6.out hb7)
  have S7 := hid (S6.out.below hb7)
  have HO7 := hid (HO6.out.below hb7)
  clear hb7 hh7 hl7 R6 S6 HO6
  go_wp2_with fail
  refine (CE.out _ _ _ S7.out X7.out).mono ?_
  rintro e w8 ⟨rfl, hb8⟩
  have R8 := hid (ownsRow_below R7.out hb8)
  have D8 := hid (bb D7.out hb8)
  have HO8 := hid (HO7.out.below hb8)
  clear hb8 R7 S7 HO7 X7
  have hK4 : (Nd.shL w3.heap.size G4 l0).K 1 (Nd.shL w3.heap.size G4 l0).n ≤ 100000000 := by
    have e := Nd.shL_K w3.heap.size G4 l0 1 l0.length (Nat.le_refl _)
    rw [List.take_of_length_le (Nat.le_refl _)] at e
    have := HSM.out
    show (Nd.shL w3.heap.size G4 l0).K 1 l0.length ≤ 100000000
    rw [e, HN.out]
    omega
  have CM4 := hid (Nd.cMarkNodeH (Nd.shL w3.heap.size G4 l0) w3.heap.size n 1 (Nd.atT l0) w8 HOK4.out HO8.out hK4)
  have CM4 := hid (show Calls Tryz.prog 10 #[.slice (some ⟨w3.heap.size, 0, none⟩) n n, .int .i64 1] w8 fun e w' => e = .returned (.int .i64 ((Nd.shL w3.heap.size G4 l0).K 1 (Nd.shL w3.heap.size G4 l0).n : Nat)) ∧ Nd.HoldsN (Nd.shL w3.heap.size G4 l0) w' (fun j => mkTk ((Nd.shL w3.heap.size G4 l0).K 1 j) ((Nd.shL w3.heap.size G4 l0).len j)) ∧ KeepB (Nd.shL w3.heap.size G4 l0).Has w8 w' by
    have := CM4.out
    rw [show (Nd.shL w3.heap.size G4 l0).n = n from HN.out] at this ⊢
    exact this)
  obtain ⟨K4, hK4e⟩ : ∃ K, (Nd.shL w3.heap.size G4 l0).K 1 (Nd.shL w3.heap.size G4 l0).n = K := ⟨_, rfl⟩
  rw [hK4e] at CM4
  clear hK4 hK4e
  go_wp2_with fail
  refine CM4.out.mono ?_
  rintro e w9 ⟨rfl, _, hkb⟩
  have D9 := hid (D8.out.trans (hkb.below D8.out.size (fun b hb => (HHas.out b hb).1)))
  have R9 := hid (row64_keep R8.out hkb (fun b hb => (HHas.out b hb).2))
  clear hkb CM4 R8
  have hd9 : decide ((K4 : Int) < 0) = false := by simp
  go_wp2_with fail
  refine (CQ.out a5 a3 c5 c3 _ (ownStr_rd R9.out HLN.out) (HT3.out.below D9.out)).mono ?_
  rintro e w10 ⟨rfl, hb10⟩
  have R10 := hid (ownsRow_below R9.out hb10)
  have D10 := hid (bb D9.out hb10)
  clear hb10 R9 hd9
  by_cases hne : ln = 0
  · have HLE := hid (show L = [] from List.eq_nil_of_length_eq_zero (by rw [HLN.out]; exact hne))
    have CM := hid (fun wx => cMarkStr0 a5 c5 1 wx (by omega))
    have CH := hid (fun wx => cHeldStringS a5 c5 1 [] wx (fun j h => absurd h (Nat.not_lt_zero _)) (fun j h => absurd h (Nat.not_lt_zero _)) (by decide))
    rw [show ([] : List ByteArray).length = 0 from rfl, Nat.add_zero] at CH
    subst hne
    go_wp2_with fail
    refine (CM.out _).mono ?_
    rintro e w11 ⟨rfl, rfl⟩
    go_wp2_with fail
    refine (CH.out _).mono ?_
    rintro e w12 ⟨rfl, hb12⟩
    have D12 := hid (bb D10.out hb12)
    clear hb12
    go_wp2_with fail
    refine (CT.out _ (HR3.out.below D12.out)).mono ?_
    rintro e w13 ⟨G13, cur13, rfl, hh13, _, hl13, hb13⟩
    rw [← HN.out] at hl13
    have S13 := hid (hl13.tkRow hh13)
    have D13 := hid (bb D12.out hb13)
    clear hb13 hh13 hl13
    go_wp2_with fail
    refine (CI.out _ _ S13.out).mono ?_
    rintro e w14 ⟨v14, rfl, hr14, hb14⟩
    rw [← HLN.out] at hr14
    obtain ⟨a14, c14, hv14, ht14⟩ := ownStr hr14
    subst hv14
    have T14 := hid ht14
    have D14 := hid (bb D13.out hb14)
    rw [HLN.out]
    clear hr14 hb14 ht14
    go_wp2_with fail
    refine (CQ.out a14 a3 c14 c3 _ T14.out (HT3.out.below D14.out)).mono ?_
    rintro e w15 ⟨rfl, hb15⟩
    have D15 := hid (bb D14.out hb15)
    clear hb15
    go_wp2_with fail
    refine (CH.out _).mono ?_
    rintro e w16 ⟨rfl, hb16⟩
    have D16 := hid (bb D15.out hb16)
    clear hb16
    go_wp2_with fail
    go_ret
    exact ⟨rfl, bb HB3.out D16.out⟩
  · obtain ⟨g, cur, hgB, hgh, hgn⟩ : ∃ g cur, a5 = some ⟨g, 0, none⟩ ∧ (w4.heap.size ≤ g ∧ w10.heap[g]? = some (.cells cur 9 (0, 0))) ∧ ln ≤ cur.size := by
      rcases R10.out.2 with ⟨_, h'⟩ | ⟨g, cp, cur, e, hg, hh, hn', _, hs, _⟩
      · exact absurd h' hne
      · cases e
        exact ⟨g, cur, rfl, ⟨hg, hh⟩, by omega⟩
    subst hgB
    have HGB := hid hgh.1
    have CM := hid (cMarkStringS g c5 ln 1 cur w10 hgh.2 hgn (by omega))
    have CH := hid (fun wx h => cHeldStringS (some ⟨g, 0, none⟩) c5 1 (mkT ln) wx h (fun j h => mkT_at ln j h) (by rw [mkT_len]; omega))
    rw [mkT_len] at CH
    obtain ⟨K, hKe⟩ : ∃ K, 1 + ln = K := ⟨_, rfl⟩
    rw [hKe] at CM CH
    clear hgh hgn hKe
    have hdK : decide ((K : Int) < 0) = false := by simp
    have hKK : ((K : Int) == (K : Int)) = true := by simp
    go_wp2_with fail
    refine CM.out.mono ?_
    rintro e w11 ⟨rfl, ⟨cur', hh11, hm11⟩, hgr⟩
    have D11 := hid (D10.out.trans ((KeepB.of_grown (p := fun b => b = g) hgr rfl).below D10.out.size (fun b hb => by have := HGB.out; have := HLT4.out; omega)))
    have H11 := hid (hm11.row hh11)
    clear hh11 hm11 hgr CM
    go_wp2_with fail
    refine (CH.out _ H11.out).mono ?_
    rintro e w12 ⟨rfl, hb12⟩
    have D12 := hid (bb D11.out hb12)
    have H12 := hid (H11.out.below hb12)
    clear hb12 H11
    go_wp2_with fail
    refine (CT.out _ (HR3.out.below D12.out)).mono ?_
    rintro e w13 ⟨G13, cur13, rfl, hh13, _, hl13, hb13⟩
    rw [← HN.out] at hl13
    have S13 := hid (hl13.tkRow hh13)
    have H13 := hid (H12.out.below hb13)
    have D13 := hid (bb D12.out hb13)
    clear hb13 hh13 hl13 H12
    go_wp2_with fail
    refine (CI.out _ _ S13.out).mono ?_
    rintro e w14 ⟨v14, rfl, hr14, hb14⟩
    rw [← HLN.out] at hr14
    obtain ⟨a14, c14, hv14, ht14⟩ := ownStr hr14
    subst hv14
    have T14 := hid ht14
    have H14 := hid (H13.out.below hb14)
    have D14 := hid (bb D13.out hb14)
    rw [HLN.out]
    clear hr14 hb14 ht14 H13
    go_wp2_with fail
    refine (CQ.out a14 a3 c14 c3 _ T14.out (HT3.out.below D14.out)).mono ?_
    rintro e w15 ⟨rfl, hb15⟩
    have H15 := hid (H14.out.below hb15)
    have D15 := hid (bb D14.out hb15)
    clear hb15 H14
    go_wp2_with fail
    refine (CH.out _ H15.out).mono ?_
    rintro e w16 ⟨rfl, hb16⟩
    have D16 := hid (bb D15.out hb16)
    clear hb16
    go_wp2_with fail
    go_ret
    exact ⟨rfl, bb HB3.out D16.out⟩

set_option maxRecDepth 100000 in
theorem lifted (os : Os) (started : os.Started) (H : Type) (enc : TypeId × Value → H) :
    ReturnsInHanded {} Tryz.checked os 3 .any (Rows.fnExactSealPartsSpec.pre6 enc Tryz.prog Tryz.f3 Rows.fnExactSealPartsRow.domain false) (Rows.fnExactSealPartsSpec.post enc Tryz.prog Tryz.f3 false true false false) := by
  refine returnsInHanded_of_change (C := Tryz.checked) own started (by kernel_rfl) Tryz.func3
    (ChangeSpec.witness6 (enc := enc) (C := Tryz.checked) false ⟨#[], #[.slice none 0 0, .int .i64 0], []⟩ 8 (by kernel_rfl) (by kernel_rfl) (by kernel_rfl) (by kernel_rfl)) ?_
  intro W base args ds gs before hval0 hW hcnd _
  have hval : ∀ (j : Nat) t v, Tryz.f3.params[j]? = some t → args[j]? = some v → Value.okWide Tryz.prog W .any base t v := hval0
  have hW' := hW
  obtain ⟨p, q, hA0, hV, rfl, hfz, hnd⟩ := hW
  have hA : DataW.TrodAll enc Tryz.prog W 0 (fun _ => true) true Tryz.f3.params.toList args.toList ds p := hA0
  rw [Tryz.params3] at hA hval
  obtain ⟨v0, vs0, d0, ds0, p0, q0, hargs, rfl, rfl, h0, r0⟩ := trodAll_cons hA
  obtain ⟨v1, vs1, d1, ds1, p1, q1, rfl, rfl, rfl, h1, r1⟩ := trodAll_cons r0
  obtain ⟨rfl, rfl, rfl⟩ := trodAll_nil r1
  obtain rfl : args = #[v0, v1] := by cases args; simp_all
  obtain ⟨rfl, rfl⟩ := trodVars_none hV
  simp only [List.append_nil] at hW'
  have hlt : ∀ x ∈ p0 ++ p1, x.block < W.heap.size := fun x hx => by simpa using hW'.lt x (by simpa using hx)
  obtain ⟨a0, cap0, l0, rfl, wn0, wr0, wz0, wk0⟩ := Nd.rows_arg h0 (okWide_slice Tryz.underlying22 (hval 0 22 v0 rfl rfl)) (fun x hx => hlt x (by simp [hx]))
  obtain ⟨a1, rfl, _, _, w1⟩ := open_int Tryz.underlying2 (hval 1 2 v1 rfl rfl) h1
  clear hA0 hval0
  refine (walk a0 cap0 l0 a1 W wr0 wn0 wz0 wk0 w1).mono fun e W' ⟨he, bel⟩ => ?_
  subst he
  exact ⟨_, rfl, _, _, _, [], _, [], hW', trodAll_mk1 (shut_bool Tryz.underlying4 _), (trodAll_cons_mk (Below.trod laidOut (by kernel_rfl) (of_decide_eq_true (by kernel_rfl)) h0 bel (fun x hx => hlt x (by simp [hx]))) (trodAll_cons_mk (Below.trod laidOut (by kernel_rfl) (of_decide_eq_true (by kernel_rfl)) h1 bel (fun x hx => hlt x (by simp [hx]))) trodAll_mk0)), rfl, bel.frame _, fun h => by cases h⟩

theorem over : Rows.fnExactSealPartsRow.holds Tryz.pinned (OpenSpec.ofChange Rows.fnExactSealPartsSpec) :=
  OpenClaim.holds_of_wide 3 Tryz.f3 rfl rfl rfl rfl rfl rfl rfl ⟨rfl, rfl, rfl, rfl, rfl⟩ rfl rfl rfl rfl rfl (by kernel_rfl) Tryz.func3 (by kernel_rfl)
    (of_decide_eq_true (by kernel_rfl)) (by unfold Func.isWrapper; first | (rw [if_pos (by decide +kernel)]; kernel_rfl) | (rw [if_neg (by decide +kernel)]; exact ⟨rfl, rfl⟩))
    (fun os started H enc _ => lifted os started H enc)

theorem proved : Rows.FnExactSealPartsSaid := over
end Go.Proofs.YtkejmifkjgpdjaaGreat.fnExactSealParts

namespace Go.Proofs.YtkejmifkjgpdjaaGreat
theorem fnExactSealParts_holds : Rows.FnExactSealPartsSaid := fnExactSealParts.proved
#print axioms fnExactSealParts_holds
end Go.Proofs.YtkejmifkjgpdjaaGreat
