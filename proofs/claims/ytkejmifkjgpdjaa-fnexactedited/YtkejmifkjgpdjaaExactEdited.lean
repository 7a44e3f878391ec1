/- FnExactEdited is proved for every two slices of nodes and every slice of edits: the law answers true, so Edited answers as the specification does, in memory of its own, and leaves its arguments as they were (of arguments of more than 1048576 bytes together the law itself says true at once); no condition beside the row's own -/
import Derived.Test.YtkejmifkjgpdjaaRows
import Derived.Test.YtkejmifkjgpdjaaM4
import Derived.Test.YtkejmifkjgpdjaaM17
import Derived.Test.YtkejmifkjgpdjaaM18
import Derived.Test.YtkejmifkjgpdjaaM24
import Derived.WalkKit
import Derived.ProofKit
import Derived.OpenShut
import Derived.ShutString
import Derived.ChangeOld
import Derived.Below
import Derived.Carry
namespace Go.Proofs.Ytkejmifkjgpdjaa.fnExactEdited
open Go.ChangeShapes Go.WideShapes Go.ChangeAt Go.RowKit
open Go.ChangeMaps (open_string shut_string)
set_option linter.unusedVariables false

theorem own : ownKnob Try.prog.godebug = none := by kernel_rfl
theorem laidOut : laidOutB Try.prog = true := by kernel_rfl

set_option maxHeartbeats 2000000 in
theorem walk (a0 : Option Addr) (cap0 : Nat) (l0 : List Tk) (a1 : Option Addr) (cap1 : Nat) (l1 : List Tk) (a2 : Option Addr) (cap2 : Nat) (l2 : List Ed) (w : World) (wr0 : TkRow w a0 l0) (wn0 : l0.length ≤ maxLen) (wz0 : TksSz maxLen l0) (wk0 : ∀ t ∈ l0, (Lit.int .i64 t.kind).wf = true) (wr1 : TkRow w a1 l1) (wn1 : l1.length ≤ maxLen) (wz1 : TksSz maxLen l1) (wk1 : ∀ t ∈ l1, (Lit.int .i64 t.kind).wf = true) (wr2 : EdRow w a2 l2) (wn2 : l2.length ≤ maxLen) (wz2 : EdSz maxLen l2) :
    Calls Try.prog 3 #[.slice a0 l0.length cap0, .slice a1 l1.length cap1, .slice a2 l2.length cap2] w fun e w' => e = .returned (.bool true) ∧ Below w.heap.size w w' := by
  have C0 := hid (Nd.cSzNodeG a0 cap0 l0 1048576 w wr0 wz0 wn0 (Nat.le_refl _))
  have C2 := hid (fun (Z : Nat) (hZ : Z ≤ 1048576) wx (h : TkRow wx a1 l1) => Nd.cSzNodeG a1 cap1 l1 Z wx h wz1 wn1 hZ)
  have HR := hid wr0
  have HRx := hid wr1
  have HRe := hid wr2
  have C3 := hid (fun (Z : Nat) (hZ : Z ≤ 1048576) wx (h : EdRow wx a2 l2) => cSzEditS a2 cap2 l2 Z wx h wz2 wn2 hZ)
  clear wr0 wz0 wn0 wk0 wr1 wz1 wn1 wk1 wr2 wz2 wn2
  obtain ⟨n, hnn⟩ : ∃ n, l0.length = n := ⟨_, rfl⟩
  have HN := hid hnn
  obtain ⟨n2, hnn2⟩ : ∃ n2, l1.length = n2 := ⟨_, rfl⟩
  have HN2 := hid hnn2
  rw [hnn] at C0 ⊢
  obtain ⟨ne, hnne⟩ : ∃ n, l2.length = n := ⟨_, rfl⟩
  have HNe := hid hnne
  rw [hnn2] at C2 ⊢
  rw [hnne] at C3 ⊢
  clear hnn hnn2 hnne
  go_enter Try.func3, Try.ntmps3
  go_wp2_with fail
  refine C0.out.mono ?_
  rintro e w0 ⟨r, rfl, hr, hb0⟩
  have HB0 := hid hb0
  have HR0 := hid (HR.out.below hb0)
  have HRx0 := hid (HRx.out.below hb0)
  have HRe0 := hid (HRe.out.below hb0)
  clear hb0 C0 HR HRx HRe
  rcases hr with rfl | ⟨h0, h00, hn, hz, hsum⟩
  · go_wp2_with fail
    go_ret
    exact ⟨rfl, HB0.out⟩
  obtain ⟨Z, rfl⟩ : ∃ Z : Nat, r = (Z : Int) := ⟨r.toNat, by omega⟩
  have hd1 : decide ((Z : Int) < 0) = false := by simp
  go_wp2_with fail
  refine (C2.out Z (by omega) _ HRx0.out).mono ?_
  rintro e w1 ⟨r, rfl, hr, hb1⟩
  have HB1 := hid (bb HB0.out hb1)
  have HR1 := hid (HR0.out.below hb1)
  have HRx1 := hid (HRx0.out.below hb1)
  have HRe1 := hid (HRe0.out.below hb1)
  clear hb1 C2 HR0 HRx0 HRe0 HB0
  rcases hr with rfl | ⟨h0, h01, hn2, hz2, hsum2⟩
  · go_wp2_with fail
    go_ret
    exact ⟨rfl, HB1.out⟩
  obtain ⟨Z2, rfl⟩ : ∃ Z : Nat, r = (Z : Int) := ⟨r.toNat, by omega⟩
  have hd2 : decide ((Z2 : Int) < 0) = false := by simp
  go_wp2_with fail
  refine (C3.out Z2 (by omega) _ HRe1.out).mono ?_
  rintro e w1e ⟨r, rfl, hr, hb1⟩
  have HB1e := hid (bb HB1.out hb1)
  have HR1e := hid (HR1.out.below hb1)
  have HRx1e := hid (HRx1.out.below hb1)
  have HRe1e := hid (HRe1.out.below hb1)
  clear hb1 C3 HR1 HRx1 HRe1 HB1
  rcases hr with rfl | ⟨h0, h01, hn3, hez'⟩
  · go_wp2_with fail
    go_ret
    exact ⟨rfl, HB1e.out⟩
  have hd3 : decide (r < 0) = false := by simp; omega
  have hez : EdSz 1048576 l2 := EdSz.mono hez' (by omega)
  have hne3 : l2.length ≤ 1048576 := by rw [HNe.out]; omega
  clear hez'
  have CTe := hid (fun (wx : World) (h : EdRow wx a2 l2) => cToEditS a2 cap2 l2 wx h hne3)
  have CEe := hid (fun (g g2 : Nat) (wx : World) (h : EdRow wx (some ⟨g, 0, none⟩) l2) (h2 : EdRow wx (some ⟨g2, 0, none⟩) l2) => cEqEditS (some ⟨g, 0, none⟩) (some ⟨g2, 0, none⟩) l2.length l2.length l2 wx h h2 hne3)
  have CTx := hid (fun (wx : World) (h : TkRow wx a1 l1) => Nd.cToNodeSL a1 cap1 l1 wx h hz2 (by rw [HN2.out]; exact hn2))
  have CEx := hid (fun (g g2 : Nat) (wx : World) (h : TkRow wx (some ⟨g, 0, none⟩) l1) (h2 : TkRow wx (some ⟨g2, 0, none⟩) l1) => Nd.cEqNodeS (some ⟨g, 0, none⟩) (some ⟨g2, 0, none⟩) l1.length l1.length l1 wx h h2 hz2 (by rw [HN2.out]; exact hn2))
  have CT := hid (fun (wx : World) (h : TkRow wx a0 l0) => Nd.cToNodeSL a0 cap0 l0 wx h hz (by rw [HN.out]; exact hn))
  have CS := hid (fun (g g2 g3 : Nat) (wx : World) (h : TkRow wx (some ⟨g, 0, none⟩) l0) (h2 : TkRow wx (some ⟨g2, 0, none⟩) l1) (h3 : EdRow wx (some ⟨g3, 0, none⟩) l2) => cEditedS (some ⟨g, 0, none⟩) l0.length l0 (some ⟨g2, 0, none⟩) l1.length l1 (some ⟨g3, 0, none⟩) l2.length l2 wx h h2 h3 (Nat.le_refl _) (by rw [HN.out]; unfold maxLen; omega) (by rw [HN.out]; exact hn) (by rw [HN2.out]; exact hn2) hne3 hz hz2 hez)
  have CI := hid (fun (g g2 g3 : Nat) (wx : World) (h : TkRow wx (some ⟨g, 0, none⟩) l0) (h2 : TkRow wx (some ⟨g2, 0, none⟩) l1) (h3 : EdRow wx (some ⟨g3, 0, none⟩) l2) => cEditedI (some ⟨g, 0, none⟩) l0.length l0 (some ⟨g2, 0, none⟩) l1.length l1 (some ⟨g3, 0, none⟩) l2.length l2 wx h h2 h3 (Nat.le_refl _) (Nat.le_refl _) (by rw [HN.out]; exact hn) (by rw [HN2.out]; exact hn2) hne3 hz hz2 hez)
  have CE := hid (fun (g g2 : Nat) (wx : World) (h : TkRow wx (some ⟨g, 0, none⟩) l0) (h2 : TkRow wx (some ⟨g2, 0, none⟩) l0) => Nd.cEqNodeS (some ⟨g, 0, none⟩) (some ⟨g2, 0, none⟩) l0.length l0.length l0 wx h h2 hz (by rw [HN.out]; exact hn))
  have HLZ := hid ((ans_edit l0 l1 l2).sz)
  have HL6 := hid ((ans_edit l0 l1 l2).six)
  have hL100 := (ans_edit l0 l1 l2).len
  obtain ⟨L, hL⟩ : ∃ L, edT l0 l1 l2 = L := ⟨_, rfl⟩
  rw [hL] at CS CI HLZ HL6 hL100
  obtain ⟨V, hV⟩ : ∃ V, edB l0 l1 l2 = V := ⟨_, rfl⟩
  rw [hV] at CS CI
  have hVV : (V != V) = false := by cases V <;> rfl
  clear hV
  have CQ := hid (fun (x y : Option Addr) (cx cy : Nat) (wx : World) (h : TkRow wx x L) (h2 : TkRow wx y L) => Nd.cEqNodeS x y cx cy L wx h h2 HLZ.out (by omega))
  have HSL := hid (sumG HL6.out)
  have HSM := hid hsum
  have HSMx := hid hsum2
  obtain ⟨ln, hln⟩ : ∃ ln, L.length = ln := ⟨_, rfl⟩
  have HLN := hid hln
  rw [hln] at CQ hL100 HSL
  rw [HN.out] at CT CS CI CE
  rw [HN2.out] at CTx CEx CS CI
  rw [HNe.out] at CTe CEe CS CI
  have hne3' : ne ≤ 1048576 := by rw [← HNe.out]; exact hne3
  have HN3 := hid hne3'
  clear hL hz hz2 hsum hsum2 hln hez hne3 hne3'
  go_wp2_with fail
  refine (CT.out _ HR1e.out).mono ?_
  rintro e w2 ⟨G, cur, rfl, hh, _, hl, hb2⟩
  rw [← HN.out] at hl
  have S2 := hid (hl.tkRow hh)
  have HB2 := hid (bb HB1e.out hb2)
  have HR2 := hid (HR1e.out.below hb2)
  have HRx2 := hid (HRx1e.out.below hb2)
  have HRe2 := hid (HRe1e.out.below hb2)
  clear hb2 hh hl HB1e HR1e HRx1e HRe1e
  go_wp2_with fail
  refine (CTx.out _ HRx2.out).mono ?_
  rintro e w2b ⟨Gb, curb, rfl, hh, _, hl, hb2b⟩
  rw [← HN2.out] at hl
  have S2b := hid (hl.tkRow hh)
  have S2' := hid (S2.out.below hb2b)
  have HB2b := hid (bb HB2.out hb2b)
  have HR2b := hid (HR2.out.below hb2b)
  have HRx2b := hid (HRx2.out.below hb2b)
  have HRe2b := hid (HRe2.out.below hb2b)
  clear hb2b hh hl HB2 HR2 HRx2 HRe2 S2
  go_wp2_with fail
  refine (CTe.out _ HRe2b.out).mono ?_
  rintro e w2c ⟨ge2, cue2, _, rfl, hh, hl, hb2c⟩
  have S2e := hid (hl.row hh)
  have S2c := hid (S2'.out.below hb2c)
  have S2bc := hid (S2b.out.below hb2c)
  have HB2c := hid (bb HB2b.out hb2c)
  have HR2c := hid (HR2b.out.below hb2c)
  have HRx2c := hid (HRx2b.out.below hb2c)
  have HRe2c := hid (HRe2b.out.below hb2c)
  clear hb2c hh hl HB2b HR2b HRx2b HRe2b S2' S2b
  go_wp2_with fail
  refine (CS.out _ _ _ _ S2c.out S2bc.out S2e.out).mono ?_
  rintro e w3 ⟨v3, rfl, hr3⟩
  have hb3 := hr3.bel
  obtain ⟨a3, c3, hv3, ht3⟩ := hr3.tk
  subst hv3
  clear hr3
  have HT3 := hid ht3
  have HB3 := hid (bb HB2c.out hb3)
  have HR3 := hid (HR2c.out.below hb3)
  have HRx3 := hid (HRx2c.out.below hb3)
  have HRe3 := hid (HRe2c.out.below hb3)
  rw [HLN.out]
  clear hb3 ht3 HB2c HR2c HRx2c HRe2c S2c S2bc S2e CS
  go_wp2_with fail
  refine (CT.out _ HR3.out).mono ?_
  rintro e w4 ⟨G4, cur4, rfl, hh4, _, hl4, hb4⟩
  rw [← HN.out] at hl4
  have S4 := hid (hl4.tkRow hh4)
  have HHas := hid (hl4.hasG hh4)
  obtain ⟨hok4, hho4⟩ := hl4.shape hh4
  have HOK4 := hid hok4
  have HHO4 := hid hho4
  have D4 := hid hb4
  have hlt4 : w3.heap.size < w4.heap.size := lt_of_heap hh4
  have HLT4 := hid hlt4
  clear hb4 hh4 hl4 hok4 hho4 hlt4
  go_wp2_with fail
  refine (CTx.out _ (HRx3.out.below D4.out)).mono ?_
  rintro e w4b ⟨G4b, cur4b, rfl, hh4, _, hl4, hb4⟩
  rw [← HN2.out] at hl4
  have S4b := hid (hl4.tkRow hh4)
  have HHasx := hid (hl4.hasG hh4)
  obtain ⟨hok4, hho4⟩ := hl4.shape hh4
  have HOK4b := hid hok4
  have HHO4b := hid hho4
  have S4' := hid (S4.out.below hb4)
  have HHO4' := hid (HHO4.out.below hb4)
  have D4b := hid (bb D4.out hb4)
  have hlt4 : w4.heap.size < w4b.heap.size := lt_of_heap hh4
  have HLT4b := hid hlt4
  clear hb4 hh4 hl4 hok4 hho4 hlt4 S4 HHO4
  go_wp2_with fail
  refine (CTe.out _ (HRe3.out.below D4b.out)).mono ?_
  rintro e w4c ⟨ge, cue, hge, rfl, hh4, hl4, hb4⟩
  have HGE := hid hge
  have HCE := hid hl4
  have HHE := hid hh4
  have HGL := hid (show ge < w4c.heap.size from lt_of_heap hh4)
  have S4c := hid (S4'.out.below hb4)
  have S4bc := hid (S4b.out.below hb4)
  have HHO4c := hid (HHO4'.out.below hb4)
  have HHO4bc := hid (HHO4b.out.below hb4)
  have D4c := hid (bb D4b.out hb4)
  have HLT4c := hid hb4.size
  clear hge hh4 hl4 hb4 S4' S4b HHO4' HHO4b
  go_wp2_with fail
  refine (CI.out _ _ _ _ S4c.out S4bc.out (HCE.out.row HHE.out)).mono ?_
  rintro e w5 ⟨v5, rfl, hq5⟩
  have hb5 := hq5.bel
  obtain ⟨es5, a5, c5, hv5, hr5, hm5, _⟩ := hq5.open
  subst hv5
  clear hq5
  have hl5 : es5.length = L.length := (hr5.rdG hm5).1
  rw [HLN.out] at hl5
  have HL5 := hid hl5
  have R5 := hid hr5
  have HM5 := hid hm5
  have D5 := hid (bb D4c.out hb5)
  have S5 := hid (S4c.out.below hb5)
  have HO5 := hid (HHO4c.out.below hb5)
  have S5b := hid (S4bc.out.below hb5)
  have HO5b := hid (HHO4bc.out.below hb5)
  have HE5 := hid (v_blk_below HHE.out hb5)
  rw [hl5]
  clear hr5 hm5 hb5 hl5 S4c HHO4c S4bc HHO4bc HHE
  go_wp2_with fail
  refine (CQ.out a5 a3 c5 c3 _ (R5.out.rdG HM5.out).2 (HT3.out.below D5.out)).mono ?_
  rintro e w6 ⟨rfl, hb6⟩
  have R6 := hid (R5.out.below hb6)
  have D6 := hid (bb D5.out hb6)
  have S6 := hid (S5.out.below hb6)
  have HO6 := hid (HO5.out.below hb6)
  have HO6b := hid (HO5b.out.below hb6)
  have S6b := hid (S5b.out.below hb6)
  have HE6 := hid (v_blk_below HE5.out hb6)
  clear hb6 R5 S5 HO5
  go_wp2_with fail
  refine (CT.out _ (HR3.out.below D6.out)).mono ?_
  rintro e w7 ⟨G7, cur7, rfl, hh7, _, hl7, hb7⟩
  rw [← HN.out] at hl7
  have X7 := hid (hl7.tkRow hh7)
  have R7 := hid (R6.out.below hb7)
  have D7 := hid (bb D6.out hb7)
  have S7 := hid (S6.out.below hb7)
  have HO7 := hid (HO6.out.below hb7)
  have HO7b := hid (HO6b.out.below hb7)
  have S7b := hid (S6b.out.below hb7)
  have HE7 := hid (v_blk_below HE6.out hb7)
  clear hb7 hh7 hl7 R6 S6 HO6
  go_wp2_with fail
  refine (CE.out _ _ _ S7.out X7.out).mono ?_
  rintro e w8 ⟨rfl, hb8⟩
  have R8 := hid (R7.out.below hb8)
  have D8 := hid (bb D7.out hb8)
  have HO8 := hid (HO7.out.below hb8)
  have HO8b := hid (HO7b.out.below hb8)
  have S8b := hid (S7b.out.below hb8)
  have HE8 := hid (v_blk_below HE7.out hb8)
  clear hb8 R7 S7 HO7 X7
  go_wp2_with fail
  refine (CTx.out _ (HRx3.out.below D8.out)).mono ?_
  rintro e w7b ⟨G7b, cur7b, rfl, hh7, _, hl7, hb7⟩
  rw [← HN2.out] at hl7
  have X7b := hid (hl7.tkRow hh7)
  have R8a := hid (R8.out.below hb7)
  have D8a := hid (bb D8.out hb7)
  have HO8a := hid (HO8.out.below hb7)
  have HO8ab := hid (HO8b.out.below hb7)
  have S8ab := hid (S8b.out.below hb7)
  have HE8a := hid (v_blk_below HE8.out hb7)
  clear hb7 hh7 hl7 R8 D8 HO8 HO8b S8b
  go_wp2_with fail
  refine (CEx.out _ _ _ S8ab.out X7b.out).mono ?_
  rintro e w8b ⟨rfl, hb8⟩
  have R8 := hid (R8a.out.below hb8)
  have D8 := hid (bb D8a.out hb8)
  have HO8 := hid (HO8a.out.below hb8)
  have HO8b := hid (HO8ab.out.below hb8)
  have HE8b := hid (v_blk_below HE8a.out hb8)
  clear hb8 R8a D8a HO8a HO8ab S8ab X7b HE5 HE6 HE7 HE8 HE8a
  go_wp2_with fail
  refine (CTe.out _ (HRe3.out.below D8.out)).mono ?_
  rintro e w7c ⟨ge7, cue7, _, rfl, hh7, hl7, hb7⟩
  have X7e := hid (hl7.row hh7)
  have R8c := hid (R8.out.below hb7)
  have D8c := hid (bb D8.out hb7)
  have HO8c := hid (HO8.out.below hb7)
  have HO8bc := hid (HO8b.out.below hb7)
  have HE8c := hid (v_blk_below HE8b.out hb7)
  clear hb7 hh7 hl7 R8 D8 HO8 HO8b HE8b
  go_wp2_with fail
  refine (CEe.out _ _ _ (HCE.out.row HE8c.out) X7e.out).mono ?_
  rintro e w8c ⟨rfl, hb8⟩
  have R8 := hid (R8c.out.below hb8)
  have D8 := hid (bb D8c.out hb8)
  have HO8 := hid (HO8c.out.below hb8)
  have HO8b := hid (HO8bc.out.below hb8)
  have HE8 := hid (v_blk_below HE8c.out hb8)
  clear hb8 R8c D8c HO8c HO8bc HE8c X7e
  have hK4 : (Nd.shL w3.heap.size G4 l0).K 1 (Nd.shL w3.heap.size G4 l0).n ≤ 100000000 := by
    have e := Nd.shL_K w3.heap.size G4 l0 1 l0.length (Nat.le_refl _)
    rw [List.take_of_length_le (Nat.le_refl _)] at e
    have := HSM.out
    show (Nd.shL w3.heap.size G4 l0).K 1 l0.length ≤ 100000000
    rw [e, HN.out]
    omega
  have CM4 := hid (Nd.cMarkNodeH (Nd.shL w3.heap.size G4 l0) w3.heap.size n 1 (Nd.atT l0) w8c HOK4.out HO8.out hK4)
  have CM4 := hid (show Calls Try.prog 12 #[.slice (some ⟨w3.heap.size, 0, none⟩) n n, .int .i64 1] w8c fun e w' => e = .returned (.int .i64 ((Nd.shL w3.heap.size G4 l0).K 1 (Nd.shL w3.heap.size G4 l0).n : Nat)) ∧ Nd.HoldsN (Nd.shL w3.heap.size G4 l0) w' (fun j => mkTk ((Nd.shL w3.heap.size G4 l0).K 1 j) ((Nd.shL w3.heap.size G4 l0).len j)) ∧ KeepB (Nd.shL w3.heap.size G4 l0).Has w8c w' by
    have := CM4.out
    rw [show (Nd.shL w3.heap.size G4 l0).n = n from HN.out] at this ⊢
    exact this)
  obtain ⟨K4, hK4e⟩ : ∃ K, (Nd.shL w3.heap.size G4 l0).K 1 (Nd.shL w3.heap.size G4 l0).n = K := ⟨_, rfl⟩
  have hK4b : K4 ≤ 10000000 := by
    have e := Nd.shL_K w3.heap.size G4 l0 1 l0.length (Nat.le_refl _)
    rw [List.take_of_length_le (Nat.le_refl _)] at e
    have := HSM.out
    rw [← hK4e]
    show (Nd.shL w3.heap.size G4 l0).K 1 l0.length ≤ 10000000
    rw [e, HN.out]
    omega
  rw [hK4e] at CM4
  clear hK4 hK4e
  go_wp2_with fail
  refine CM4.out.mono ?_
  rintro e w9 ⟨rfl, _, hkb⟩
  have D9 := hid (D8.out.trans (hkb.below D8.out.size (fun b hb => (HHas.out b hb).1)))
  have R9 := hid (R8.out.keep hkb (fun b hb => Nat.lt_of_lt_of_le (Nat.lt_trans (HHas.out b hb).2 HLT4b.out) HLT4c.out))
  have HE9 := hid ((hkb.block ge (lt_of_heap HE8.out) (fun h => by have h1 := (HHas.out _ h).2; have h2 := HGE.out; have h3 := HLT4b.out; omega)).trans HE8.out)
  have HO9b := hid (HO8b.out.keep hkb (fun h => by have h1 := (HHas.out _ h).2; exact absurd h1 (Nat.lt_irrefl _)) (fun j hj hl h => by have h1 := (HHas.out _ h).2; have h2 := (HHasx.out _ (.inr ⟨j, hj, hl, rfl⟩)).1; omega))
  clear hkb CM4 R8 HO8b
  have hK5 : (Nd.shL w4.heap.size G4b l1).K K4 (Nd.shL w4.heap.size G4b l1).n ≤ 100000000 := by
    have e := Nd.shL_K w4.heap.size G4b l1 K4 l1.length (Nat.le_refl _)
    rw [List.take_of_length_le (Nat.le_refl _)] at e
    have := HSMx.out
    show (Nd.shL w4.heap.size G4b l1).K K4 l1.length ≤ 100000000
    rw [e, HN2.out]
    omega
  have CM5 := hid (Nd.cMarkNodeH (Nd.shL w4.heap.size G4b l1) w4.heap.size n2 K4 (Nd.atT l1) w9 HOK4b.out HO9b.out hK5)
  have CM5 := hid (show Calls Try.prog 12 #[.slice (some ⟨w4.heap.size, 0, none⟩) n2 n2, .int .i64 K4] w9 fun e w' => e = .returned (.int .i64 ((Nd.shL w4.heap.size G4b l1).K K4 (Nd.shL w4.heap.size G4b l1).n : Nat)) ∧ Nd.HoldsN (Nd.shL w4.heap.size G4b l1) w' (fun j => mkTk ((Nd.shL w4.heap.size G4b l1).K K4 j) ((Nd.shL w4.heap.size G4b l1).len j)) ∧ KeepB (Nd.shL w4.heap.size G4b l1).Has w9 w' by
    have := CM5.out
    rw [show (Nd.shL w4.heap.size G4b l1).n = n2 from HN2.out] at this ⊢
    exact this)
  obtain ⟨K5, hK5e⟩ : ∃ K, (Nd.shL w4.heap.size G4b l1).K K4 (Nd.shL w4.heap.size G4b l1).n = K := ⟨_, rfl⟩
  have hK5b : K5 ≤ 20000000 := by
    have e := Nd.shL_K w4.heap.size G4b l1 K4 l1.length (Nat.le_refl _)
    rw [List.take_of_length_le (Nat.le_refl _)] at e
    have := HSMx.out
    rw [← hK5e]
    show (Nd.shL w4.heap.size G4b l1).K K4 l1.length ≤ 20000000
    rw [e, HN2.out]
    omega
  rw [hK5e] at CM5
  clear hK5 hK5e
  go_wp2_with fail
  refine CM5.out.mono ?_
  rintro e w9b ⟨rfl, _, hkb⟩
  have D9b := hid (D9.out.trans (hkb.below D9.out.size (fun b hb => Nat.le_of_lt (Nat.lt_of_lt_of_le HLT4.out (HHasx.out b hb).1))))
  have R9b := hid (R9.out.keep hkb (fun b hb => Nat.lt_of_lt_of_le (HHasx.out b hb).2 HLT4c.out))
  have HE9b := hid ((hkb.block ge (lt_of_heap HE9.out) (fun h => by have h1 := (HHasx.out _ h).2; have h2 := HGE.out; omega)).trans HE9.out)
  clear hkb CM5 R9 HE8 HE9
  have hroom : 0 + ne * 4 ≤ cue.size := by
    rcases Nat.eq_zero_or_pos ne with q | q
    · omega
    · have h1 := (HCE.out (ne - 1) (by rw [HNe.out]; omega)).2.2.2
      have h2 : 0 + (ne - 1) * 4 + 3 < cue.size := by
        rcases Nat.lt_or_ge (0 + (ne - 1) * 4 + 3) cue.size with h' | h'
        · exact h'
        · rw [Array.getElem?_eq_none h'] at h1; cases h1
      omega
  have CM6 := hid (cMarkEditS ge 0 ne ne K5 cue w9b HE9b.out hroom (by have := HN3.out; omega))
  clear hroom
  have hcK : ((K5 + 4 * ne : Nat) : Int) = (K5 : Int) + 4 * (ne : Int) := by omega
  go_wp2_with fail
  refine CM6.out.mono ?_
  rintro e w9c ⟨rfl, _, hge9⟩
  have hkb : KeepB (fun k => k = ge) w9b w9c := ⟨hge9.os, hge9.tape, hge9.output, hge9.size, fun k hk hp => hge9.block k hk (fun e => hp (Option.some.inj e))⟩
  have D9c := hid (D9b.out.trans (hkb.below D9b.out.size (fun b hb => by subst hb; have h1 := HGE.out; have h2 := HLT4.out; have h3 := HLT4b.out; omega)))
  have R9c := hid (R9b.out.keep hkb (fun b hb => by subst hb; exact HGL.out))
  clear hkb hge9 CM6 R9b HE9b hcK
  obtain ⟨K6, hK6⟩ : ∃ K, K5 + 4 * ne = K := ⟨_, rfl⟩
  rw [hK6]
  clear hK6
  have hd9 : decide ((K6 : Int) < 0) = false := by simp
  go_wp2_with fail
  refine (CQ.out a5 a3 c5 c3 _ (R9c.out.rdG HM5.out).2 (HT3.out.below D9c.out)).mono ?_
  rintro e w10 ⟨rfl, hb10⟩
  have R10 := hid (R9c.out.below hb10)
  have D10 := hid (bb D9c.out hb10)
  clear hb10 R9c hd9
  by_cases hne : es5 = []
  · subst hne
    have hz0 : ln = 0 := HL5.out.symm
    have CM := hid (fun wx => Nd.cMarkNone a5 c5 1 wx (by omega))
    have CH := hid (fun wx => Nd.cHeldNone a5 c5 1 wx (by omega))
    subst hz0
    go_wp2_with fail
    refine (CM.out _).mono ?_
    rintro e w11 ⟨rfl, rfl⟩
    go_wp2_with fail
    refine (CH.out _).mono ?_
    rintro e w12 ⟨rfl, rfl⟩
    go_wp2_with fail
    refine (CT.out _ (HR3.out.below D10.out)).mono ?_
    rintro e w13 ⟨G13, cur13, rfl, hh13, _, hl13, hb13⟩
    rw [← HN.out] at hl13
    have S13 := hid (hl13.tkRow hh13)
    have D13 := hid (bb D10.out hb13)
    clear hb13 hh13 hl13
    go_wp2_with fail
    refine (CTx.out _ (HRx3.out.below D13.out)).mono ?_
    rintro e w13b ⟨G13b, cur13b, rfl, hh13, _, hl13, hb13⟩
    rw [← HN2.out] at hl13
    have S13b := hid (hl13.tkRow hh13)
    have S13' := hid (S13.out.below hb13)
    have D13b := hid (bb D13.out hb13)
    clear hb13 hh13 hl13 S13
    go_wp2_with fail
    refine (CTe.out _ (HRe3.out.below D13b.out)).mono ?_
    rintro e w13c ⟨ge13, cue13, _, rfl, hh13, hl13, hb13⟩
    have S13e := hid (hl13.row hh13)
    have S13c := hid (S13'.out.below hb13)
    have S13bc := hid (S13b.out.below hb13)
    have D13c := hid (bb D13b.out hb13)
    clear hb13 hh13 hl13 S13' S13b
    go_wp2_with fail
    refine (CI.out _ _ _ _ S13c.out S13bc.out S13e.out).mono ?_
    rintro e w14 ⟨v14, rfl, hq14⟩
    have hb14 := hq14.bel
    obtain ⟨es14, a14, c14, hv14, hr14, hm14, _⟩ := hq14.open
    subst hv14
    clear hq14
    have hl14 : es14.length = L.length := (hr14.rdG hm14).1
    rw [HLN.out] at hl14
    have T14 := hid (hr14.rdG hm14).2
    have D14 := hid (bb D13c.out hb14)
    rw [hl14]
    clear hr14 hm14 hb14 hl14
    go_wp2_with fail
    refine (CQ.out a14 a3 c14 c3 _ T14.out (HT3.out.below D14.out)).mono ?_
    rintro e w15 ⟨rfl, hb15⟩
    have D15 := hid (bb D14.out hb15)
    clear hb15
    go_wp2_with fail
    refine (CH.out _).mono ?_
    rintro e w16 ⟨rfl, rfl⟩
    go_wp2_with fail
    go_ret
    exact ⟨rfl, bb HB3.out D15.out⟩
  · obtain ⟨g, cg, eg, hok, hho⟩ := R10.out.shape hne
    obtain ⟨rfl, rfl⟩ : a5 = some ⟨g, 0, none⟩ ∧ c5 = cg := by cases eg; exact ⟨rfl, rfl⟩
    have HOK := hid hok
    have HHO := hid hho
    have hK : (Nd.shR g es5).K 1 (Nd.shR g es5).n ≤ 100000000 := by
      have e := Nd.shR_K g es5 L HM5.out 1 L.length (Nat.le_refl _)
      rw [List.take_of_length_le (Nat.le_refl _)] at e
      have h1 := HSL.out
      show (Nd.shR g es5).K 1 es5.length ≤ 100000000
      rw [HL5.out, ← HLN.out, e, HLN.out]
      omega
    have HKB := hid hK
    have CM := hid (show ∀ wx, Nd.HoldsN (Nd.shR g es5) wx (Nd.eAt es5) → Calls Try.prog 12 #[.slice (some ⟨g, 0, none⟩) ln c5, .int .i64 1] wx fun e w' => e = .returned (.int .i64 ((Nd.shR g es5).K 1 (Nd.shR g es5).n : Nat)) ∧ Nd.HoldsN (Nd.shR g es5) w' (fun j => mkTk ((Nd.shR g es5).K 1 j) ((Nd.shR g es5).len j)) ∧ KeepB (Nd.shR g es5).Has wx w' from fun wx h => by
      have := Nd.cMarkNodeH (Nd.shR g es5) w4c.heap.size c5 1 (Nd.eAt es5) wx HOK.out h HKB.out
      rw [show (Nd.shR g es5).n = ln from HL5.out] at this ⊢
      exact this)
    have CH := hid (show ∀ wx, Nd.HoldsN (Nd.shR g es5) wx (fun j => mkTk ((Nd.shR g es5).K 1 j) ((Nd.shR g es5).len j)) → Calls Try.prog 14 #[.slice (some ⟨g, 0, none⟩) ln c5, .int .i64 1] wx fun e w' => e = .returned (.int .i64 ((Nd.shR g es5).K 1 (Nd.shR g es5).n : Nat)) ∧ Below wx.heap.size wx w' from fun wx h => by
      have := Nd.cHeldNodeS (Nd.shR g es5) w4c.heap.size c5 1 wx HOK.out h HKB.out
      rw [show (Nd.shR g es5).n = ln from HL5.out] at this ⊢
      exact this)
    obtain ⟨K, hKe⟩ : ∃ K, (Nd.shR g es5).K 1 (Nd.shR g es5).n = K := ⟨_, rfl⟩
    rw [hKe] at CM CH
    clear hok hho hK hKe eg
    have hdK : decide ((K : Int) < 0) = false := by simp
    have hKK : ((K : Int) == (K : Int)) = true := by simp
    go_wp2_with fail
    refine (CM.out _ HHO.out).mono ?_
    rintro e w11 ⟨rfl, hho11, hkb⟩
    have D11 := hid (D10.out.trans (hkb.below D10.out.size (fun b hb => by have := HOK.out.has hb; have := HLT4.out; have := HLT4b.out; have := HLT4c.out; omega)))
    have H11 := hid hho11
    clear hho11 hkb HHO
    go_wp2_with fail
    refine (CH.out _ H11.out).mono ?_
    rintro e w12 ⟨rfl, hb12⟩
    have H12 := hid (H11.out.below hb12)
    have D12 := hid (bb D11.out hb12)
    clear hb12 H11
    go_wp2_with fail
    refine (CT.out _ (HR3.out.below D12.out)).mono ?_
    rintro e w13 ⟨G13, cur13, rfl, hh13, _, hl13, hb13⟩
    rw [← HN.out] at hl13
    have S13 := hid (hl13.tkRow hh13)
    have H13 := hid (H12.out.below hb13)
    have D13 := hid (bb D12.out hb13)
    clear hb13 hh13 hl13 H12
    go_wp2_with fail
    refine (CTx.out _ (HRx3.out.below D13.out)).mono ?_
    rintro e w13b ⟨G13b, cur13b, rfl, hh13, _, hl13, hb13⟩
    rw [← HN2.out] at hl13
    have S13b := hid (hl13.tkRow hh13)
    have S13' := hid (S13.out.below hb13)
    have H13b := hid (H13.out.below hb13)
    have D13b := hid (bb D13.out hb13)
    clear hb13 hh13 hl13 S13 H13
    go_wp2_with fail
    refine (CTe.out _ (HRe3.out.below D13b.out)).mono ?_
    rintro e w13c ⟨ge13, cue13, _, rfl, hh13, hl13, hb13⟩
    have S13e := hid (hl13.row hh13)
    have S13c := hid (S13'.out.below hb13)
    have S13bc := hid (S13b.out.below hb13)
    have H13c := hid (H13b.out.below hb13)
    have D13c := hid (bb D13b.out hb13)
    clear hb13 hh13 hl13 S13' S13b
    go_wp2_with fail
    refine (CI.out _ _ _ _ S13c.out S13bc.out S13e.out).mono ?_
    rintro e w14 ⟨v14, rfl, hq14⟩
    have hb14 := hq14.bel
    obtain ⟨es14, a14, c14, hv14, hr14, hm14, _⟩ := hq14.open
    subst hv14
    clear hq14
    have hl14 : es14.length = L.length := (hr14.rdG hm14).1
    rw [HLN.out] at hl14
    have T14 := hid (hr14.rdG hm14).2
    have H14 := hid (H13c.out.below hb14)
    have D14 := hid (bb D13c.out hb14)
    rw [hl14]
    clear hr14 hm14 hb14 hl14 H13b H13c
    go_wp2_with fail
    refine (CQ.out a14 a3 c14 c3 _ T14.out (HT3.out.below D14.out)).mono ?_
    rintro e w15 ⟨rfl, hb15⟩
    have H15 := hid (H14.out.below hb15)
    have D15 := hid (bb D14.out hb15)
    clear hb15 H14
    go_wp2_with fail
    refine (CH.out _ H15.out).mono ?_
    rintro e w16 ⟨rfl, hb16⟩
    have D16 := hid (bb D15.out hb16)
    clear hb16
    go_wp2_with fail
    go_ret
    exact ⟨rfl, bb HB3.out D16.out⟩

set_option maxRecDepth 100000 in
theorem lifted (os : Os) (started : os.Started) (H : Type) (enc : TypeId × Value → H) :
    ReturnsInHanded {} Try.checked os 3 .any (Rows.fnExactEditedSpec.pre6 enc Try.prog Try.f3 Rows.fnExactEditedRow.domain false) (Rows.fnExactEditedSpec.post enc Try.prog Try.f3 false true false false) := by
  refine returnsInHanded_of_change (C := Try.checked) own started (by kernel_rfl) Try.func3
    (ChangeSpec.witness6 (enc := enc) (C := Try.checked) false ⟨#[], #[.slice none 0 0, .slice none 0 0, .slice none 0 0], []⟩ 8 (by kernel_rfl) (by kernel_rfl) (by kernel_rfl) (by kernel_rfl)) ?_
  intro W base args ds gs before hval0 hW hcnd _
  have hval : ∀ (j : Nat) t v, Try.f3.params[j]? = some t → args[j]? = some v → Value.okWide Try.prog W .any base t v := hval0
  have hW' := hW
  obtain ⟨p, q, hA0, hV, rfl, hfz, hnd⟩ := hW
  have hA : DataW.TrodAll enc Try.prog W 0 (fun _ => true) true Try.f3.params.toList args.toList ds p := hA0
  rw [Try.params3] at hA hval
  obtain ⟨v0, vs0, d0, ds0, p0, q0, hargs, rfl, rfl, h0, r0⟩ := trodAll_cons hA
  obtain ⟨v1, vs1, d1, ds1, p1, q1, rfl, rfl, rfl, h1, r1⟩ := trodAll_cons r0
  obtain ⟨v2, vs2, d2, ds2, p2, q2, rfl, rfl, rfl, h2, r2⟩ := trodAll_cons r1
  obtain ⟨rfl, rfl, rfl⟩ := trodAll_nil r2
  obtain rfl : args = #[v0, v1, v2] := by cases args; simp_all
  obtain ⟨rfl, rfl⟩ := trodVars_none hV
  simp only [List.append_nil] at hW'
  have hlt : ∀ x ∈ p0 ++ p1 ++ p2, x.block < W.heap.size := fun x hx => by simpa using hW'.lt x (by simpa using hx)
  obtain ⟨a0, cap0, l0, rfl, wn0, wr0, wz0, wk0⟩ := Nd.rows_arg h0 (okWide_slice Try.underlying22 (hval 0 22 v0 rfl rfl)) (fun x hx => hlt x (by simp [hx]))
  obtain ⟨a1, cap1, l1, rfl, wn1, wr1, wz1, wk1⟩ := Nd.rows_arg h1 (okWide_slice Try.underlying22 (hval 1 22 v1 rfl rfl)) (fun x hx => hlt x (by simp [hx]))
  obtain ⟨a2, cap2, l2, rfl, wn2, wr2, wz2⟩ := edits_arg h2 (okWide_slice Try.underlying23 (hval 2 23 v2 rfl rfl)) (fun x hx => hlt x (by simp [hx]))
  clear hA0 hval0
  refine (walk a0 cap0 l0 a1 cap1 l1 a2 cap2 l2 W wr0 wn0 wz0 wk0 wr1 wn1 wz1 wk1 wr2 wn2 wz2).mono fun e W' ⟨he, bel⟩ => ?_
  subst he
  exact ⟨_, rfl, _, _, _, [], _, [], hW', trodAll_mk1 (shut_bool Try.underlying4 _), (trodAll_cons_mk (Below.trod laidOut (by kernel_rfl) (of_decide_eq_true (by kernel_rfl)) h0 bel (fun x hx => hlt x (by simp [hx]))) (trodAll_cons_mk (Below.trod laidOut (by kernel_rfl) (of_decide_eq_true (by kernel_rfl)) h1 bel (fun x hx => hlt x (by simp [hx]))) (trodAll_cons_mk (Below.trod laidOut (by kernel_rfl) (of_decide_eq_true (by kernel_rfl)) h2 bel (fun x hx => hlt x (by simp [hx]))) trodAll_mk0))), rfl, bel.frame _, fun h => by cases h⟩

theorem over : Rows.fnExactEditedRow.holds Try.pinned (OpenSpec.ofChange Rows.fnExactEditedSpec) :=
  OpenClaim.holds_of_wide 3 Try.f3 rfl rfl rfl rfl rfl rfl rfl ⟨rfl, rfl, rfl, rfl, rfl⟩ rfl rfl rfl rfl rfl (by kernel_rfl) Try.func3 (by kernel_rfl)
    (of_decide_eq_true (by kernel_rfl)) (by unfold Func.isWrapper; first | (rw [if_pos (by decide +kernel)]; kernel_rfl) | (rw [if_neg (by decide +kernel)]; exact ⟨rfl, rfl⟩))
    (fun os started H enc _ => lifted os started H enc)

theorem proved : Rows.FnExactEditedSaid := over
end Go.Proofs.Ytkejmifkjgpdjaa.fnExactEdited

namespace Go.Proofs.Ytkejmifkjgpdjaa
theorem fnExactEdited_holds : Rows.FnExactEditedSaid := fnExactEdited.proved
#print axioms fnExactEdited_holds
end Go.Proofs.Ytkejmifkjgpdjaa
