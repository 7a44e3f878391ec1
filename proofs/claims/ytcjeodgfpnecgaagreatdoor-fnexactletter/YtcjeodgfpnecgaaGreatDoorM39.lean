/- The walk of FnExactLetter. From the rows on texts to what their walks ask of the listed variables. From the row on letters to what its walk asks of the listed variables. -/
import Derived.Test.YtcjeodgfpnecgaaGreatDoorM13
import Derived.Test.YtcjeodgfpnecgaaGreatDoorM33
import Derived.Test.YtcjeodgfpnecgaaGreatDoorM35
import Derived.Test.YtcjeodgfpnecgaaGreatDoorM38
import Derived.Test.YtcjeodgfpnecgaaGreatDoorM20
namespace Go.Proofs.YtcjeodgfpnecgaaGreatDoor
open Go.RowKit
set_option linter.unusedVariables false
set_option linter.unusedSimpArgs false

theorem ltr_ok {c : Cm} {id : ByteArray} (hz : CmSz 1048576 c) (hi : id.size ≤ 1048576) : TksSz 1048576 (ltrL c id) ∧ (∀ t ∈ ltrL c id, t.attrs.length ≤ 6) ∧ (ltrL c id).length ≤ 12001 := by
  cases h : ltrB c id with
  | false =>
    rw [ltrL_f h]
    exact ⟨fun t ht => absurd ht List.not_mem_nil, fun t ht => absurd ht List.not_mem_nil, Nat.zero_le _⟩
  | true =>
    rw [← (letter_graft h).1]
    have hc : claimB c = true := by unfold ltrB at h; rw [Bool.and_eq_true] at h; exact h.1
    have h1 := (claimT_ok hz).1
    rw [show claimT c (qTx c.frm) (qTx c.til) = treeTo c (qTx c.frm) (qTx c.til) 6 from if_pos hc] at h1
    exact ⟨sz_graft (headL_sz hi) h1, (ans_graft _ _ _).six, Nat.le_trans (ans_graft _ _ _).len (by decide)⟩

set_option maxRecDepth 16000 in
set_option maxHeartbeats 16000000 in
theorem walk_letter (c0 : Cm) (a0 : Option Addr) (cap0 : Nat) (id : ByteArray) (w : World) (wr0 : AtRow w a0 c0.facts) (wz0 : CmSz maxLen c0) (wi : id.size ≤ maxLen) (hM : Laid w) :
    Calls Tryz.prog 3 #[cmV c0 a0 cap0, .string id] w fun e w' => e = .returned (.bool true) ∧ Below w.heap.size w w' := by
  have C0 := hid (fun wx (h : Below w.heap.size w wx) => cSzClaim c0 a0 cap0 wx (wr0.below h) wz0)
  have HX := hid (ClBox.new w c0 (.slice a0 c0.facts.length cap0) 24)
  have HB0 := hid ((Below.refl w.heap.size w).alloc (Nat.le_refl _) (.cells #[.string c0.id, .string c0.iss, .string c0.sub, .int .i64 c0.frm, .int .i64 c0.til, .string c0.whom, .string c0.ans, .slice a0 c0.facts.length cap0] 24))
  have HR := hid wr0
  have HMM := hid hM
  unfold maxLen at wi
  clear wr0 wz0 hM
  unfold cmV at C0 ⊢
  obtain ⟨w0, hw0⟩ : ∃ w0, w.alloc (.cells #[.string c0.id, .string c0.iss, .string c0.sub, .int .i64 c0.frm, .int .i64 c0.til, .string c0.whom, .string c0.ans, .slice a0 c0.facts.length cap0] 24) = w0 := ⟨_, rfl⟩
  rw [hw0] at HX HB0
  obtain ⟨B, hB⟩ : ∃ B, w.heap.size = B := ⟨_, rfl⟩
  rw [hB] at HX
  obtain ⟨f0, f1, f2, f3, f4, f5, f6, f7⟩ := And.intro HX.out.c0 (And.intro HX.out.c1 (And.intro HX.out.c2 (And.intro HX.out.c3 (And.intro HX.out.c4 (And.intro HX.out.c5 (And.intro HX.out.c6 HX.out.c7))))))
  by_cases hs1 : id.size ≤ 1048576
  case neg =>
    have hs1' : (1048576 : Int) < (id.size : Int) := by omega
    have HW0 := hid hw0
    clear f0 f1 f2 f3 f4 f5 f6 f7 hw0 C0 HX
    go_enter Tryz.func3, Tryz.ntmps3
    go_wp2_with fail
    go_ret
    exact ⟨rfl, by rw [HW0.out]; exact HB0.out⟩
  have hs1' : ¬ (1048576 : Int) < (id.size : Int) := by omega
  go_enter Tryz.func3, Tryz.ntmps3
  go_wp2_with fail
  refine (C0.out _ HB0.out).mono ?_
  rintro e w1 ⟨r, rfl, hr, hb1⟩
  have HB1 := hid (bb HB0.out hb1)
  have HX1 := hid (HX.out.below hb1)
  clear hb1 C0 hw0 f0 f1 f2 f3 f4 f5 f6 f7 HX HB0
  rcases hr with rfl | ⟨h0, hz⟩
  · go_wp2_with fail
    go_ret
    exact ⟨rfl, hB ▸ HB1.out⟩
  have hd2 : decide (r < 0) = false := by simp; omega
  have CT := hid (fun (wx : World) (h : AtRow wx a0 c0.facts) => cToClaimC c0 a0 cap0 wx h hz.2.2.2.2.2.1)
  have CS := hid (fun (g : Nat) (wx : World) (h : AtRow wx (some ⟨g, 0, none⟩) c0.facts) => cLetterS c0 (some ⟨g, 0, none⟩) c0.facts.length id wx h hz hs1)
  have CI := hid (fun (g : Nat) (wx : World) (h : AtRow wx (some ⟨g, 0, none⟩) c0.facts) (hl : Laid wx) => cLetterI c0 (some ⟨g, 0, none⟩) c0.facts.length id wx h hz hl hs1)
  have CE := hid (fun (g g2 : Nat) (wx : World) (h : AtRow wx (some ⟨g, 0, none⟩) c0.facts) (h2 : AtRow wx (some ⟨g2, 0, none⟩) c0.facts) => cEqClaim c0 (some ⟨g, 0, none⟩) (some ⟨g2, 0, none⟩) c0.facts.length c0.facts.length wx h h2 hz.2.2.2.2.2.2 hz.2.2.2.2.2.1)
  have CMC := hid (fun (g : Nat) (cu : Array Value) (wx : World) (hg : wx.heap[g]? = some (.cells cu 58 (0, 0))) (hc : AtCells cu 0 c0.facts) => cMarkClaim c0 g c0.facts.length cu wx hg hc hz.2.2.2.2.2.1)
  have HR1 := hid (HR.out.below HB1.out)
  have HLZ := hid (ltr_ok (id := id) hz hs1).1
  have HL6 := hid (ltr_ok (id := id) hz hs1).2.1
  have hL100 := (ltr_ok (id := id) hz hs1).2.2
  obtain ⟨L, hL⟩ : ∃ L, ltrL c0 id = L := ⟨_, rfl⟩
  rw [hL] at CS CI HLZ HL6 hL100
  obtain ⟨V, hV⟩ : ∃ V, ltrB c0 id = V := ⟨_, rfl⟩
  rw [hV] at CS CI
  have hVV : (V != V) = false := by cases V <;> rfl
  clear hV
  unfold TreeAns at CS CI
  have CQ := hid (fun (x y : Option Addr) (cx cy : Nat) (wx : World) (h : TkRow wx x L) (h2 : TkRow wx y L) => Nd.cEqNodeS x y cx cy L wx h h2 HLZ.out (by omega))
  have HSL := hid (sumQ HL6.out)
  obtain ⟨ln, hln⟩ : ∃ ln, L.length = ln := ⟨_, rfl⟩
  have HLN := hid hln
  rw [hln] at CQ hL100 HSL
  clear hz HR hL hln
  unfold cmV at CT CS CI CE CMC
  obtain ⟨f0, f1, f2, f3, f4, f5, f6, f7⟩ := And.intro HX1.out.c0 (And.intro HX1.out.c1 (And.intro HX1.out.c2 (And.intro HX1.out.c3 (And.intro HX1.out.c4 (And.intro HX1.out.c5 (And.intro HX1.out.c6 HX1.out.c7))))))
  go_wp2_with fail
  refine (CT.out _ HR1.out).mono ?_
  rintro e w2 ⟨g, cu2, _, rfl, hh2, hc2, hb2⟩
  have S2 := hid (hc2.atRow hh2)
  have HB2 := hid (bb HB1.out hb2)
  have HX2 := hid (HX1.out.below hb2)
  have HR2 := hid (HR1.out.below hb2)
  clear hb2 hh2 hc2 HB1 HX1 HR1 f0 f1 f2 f3 f4 f5 f6 f7
  go_wp2_with fail
  refine (CS.out g _ S2.out).mono ?_
  rintro e w3 ⟨v3, rfl, hr3⟩
  have hb3 := hr3.bel
  obtain ⟨a3, c3, hv3, ht3⟩ := hr3.tk
  subst hv3
  clear hr3
  have HT3 := hid ht3
  have HB3 := hid (bb HB2.out hb3)
  have HX3 := hid (HX2.out.below hb3)
  have HR3 := hid (HR2.out.below hb3)
  rw [HLN.out]
  clear hb3 ht3 HB2 HX2 HR2 S2 CS
  obtain ⟨f0, f1, f2, f3, f4, f5, f6, f7⟩ := And.intro HX3.out.c0 (And.intro HX3.out.c1 (And.intro HX3.out.c2 (And.intro HX3.out.c3 (And.intro HX3.out.c4 (And.intro HX3.out.c5 (And.intro HX3.out.c6 HX3.out.c7))))))
  go_wp2_with fail
  refine (CT.out _ HR3.out).mono ?_
  rintro e w4 ⟨g4, cu4, hg4, rfl, hh4, hc4, hb4⟩
  have HG4 := hid hg4
  have HY := hid (ClBox.new w4 c0 (.slice (some ⟨g4, 0, none⟩) c0.facts.length c0.facts.length) 31)
  have HZ := hid ((Below.refl w4.heap.size w4).alloc (Nat.le_refl _) (.cells #[.string c0.id, .string c0.iss, .string c0.sub, .int .i64 c0.frm, .int .i64 c0.til, .string c0.whom, .string c0.ans, .slice (some ⟨g4, 0, none⟩) c0.facts.length c0.facts.length] 31))
  obtain ⟨w5, hw5⟩ : ∃ w5, w4.alloc (.cells #[.string c0.id, .string c0.iss, .string c0.sub, .int .i64 c0.frm, .int .i64 c0.til, .string c0.whom, .string c0.ans, .slice (some ⟨g4, 0, none⟩) c0.facts.length c0.facts.length] 31) = w5 := ⟨_, rfl⟩
  rw [hw5] at HY HZ
  have D5 := hid (bb hb4 HZ.out)
  have M5 := hid (blk_below hh4 HZ.out)
  have MC := hid hc4
  have S5 := hid (hc4.atRow M5.out)
  have HGL := hid (show g4 < w5.heap.size from lt_of_heap M5.out)
  have HW35 := hid D5.out.size
  clear hb4 hh4 hc4 hg4 HZ f0 f1 f2 f3 f4 f5 f6 f7
  obtain ⟨B2, hB2⟩ : ∃ B, w4.heap.size = B := ⟨_, rfl⟩
  rw [hB2] at HY
  obtain ⟨y0, y1, y2, y3, y4, y5, y6, y7⟩ := And.intro HY.out.c0 (And.intro HY.out.c1 (And.intro HY.out.c2 (And.intro HY.out.c3 (And.intro HY.out.c4 (And.intro HY.out.c5 (And.intro HY.out.c6 HY.out.c7))))))
  have HLD := hid (HMM.out.below (bb HB3.out D5.out))
  go_wp2_with fail
  refine (CI.out g4 _ S5.out HLD.out).mono ?_
  rintro e w6 ⟨v6, rfl, hq6⟩
  have hb6 := hq6.bel
  obtain ⟨es5, a5, c5, hv5, hr5, hm5, _⟩ := hq6.open
  subst hv5
  clear hq6
  have hl5 : es5.length = L.length := (hr5.rdQ hm5).1
  rw [HLN.out] at hl5
  have HL5 := hid hl5
  have R6 := hid hr5
  have HM5 := hid hm5
  have D6 := hid (bb D5.out hb6)
  have S6 := hid (S5.out.below hb6)
  have M6 := hid (blk_below M5.out hb6)
  have HY6 := hid (HY.out.below hb6)
  rw [hl5]
  clear hr5 hm5 hb6 hl5 S5 HY M5 hw5 hB2 y0 y1 y2 y3 y4 y5 y6 y7
  go_wp2_with fail
  refine (CQ.out a5 a3 c5 c3 _ (R6.out.rdQ HM5.out).2 (HT3.out.below D6.out)).mono ?_
  rintro e w7 ⟨rfl, hb7⟩
  have R7 := hid (R6.out.below hb7)
  have D7 := hid (bb D6.out hb7)
  have S7 := hid (S6.out.below hb7)
  have M7 := hid (blk_below M6.out hb7)
  have HY7 := hid (HY6.out.below hb7)
  have HX7 := hid (HX3.out.below D7.out)
  have HR7 := hid (HR3.out.below D7.out)
  clear hb7 R6 S6 M6 HY6
  obtain ⟨f0, f1, f2, f3, f4, f5, f6, f7⟩ := And.intro HX7.out.c0 (And.intro HX7.out.c1 (And.intro HX7.out.c2 (And.intro HX7.out.c3 (And.intro HX7.out.c4 (And.intro HX7.out.c5 (And.intro HX7.out.c6 HX7.out.c7))))))
  obtain ⟨y0, y1, y2, y3, y4, y5, y6, y7⟩ := And.intro HY7.out.c0 (And.intro HY7.out.c1 (And.intro HY7.out.c2 (And.intro HY7.out.c3 (And.intro HY7.out.c4 (And.intro HY7.out.c5 (And.intro HY7.out.c6 HY7.out.c7))))))
  go_wp2_with fail
  have HBc := hid ((Below.refl w7.heap.size w7).drew)
  have HSX := hid (show ∀ W', Below w7.heap.size w7 W' → W'.cell? ⟨B, 0, none⟩ = some (.string c0.id) ∧ W'.cell? ⟨B, 1, none⟩ = some (.string c0.iss) ∧ W'.cell? ⟨B, 2, none⟩ = some (.string c0.sub) ∧ W'.cell? ⟨B, 3, none⟩ = some (.int .i64 c0.frm) ∧ W'.cell? ⟨B, 4, none⟩ = some (.int .i64 c0.til) ∧ W'.cell? ⟨B, 5, none⟩ = some (.string c0.whom) ∧ W'.cell? ⟨B, 6, none⟩ = some (.string c0.ans) ∧ W'.cell? ⟨B, 7, none⟩ = some (.slice a0 c0.facts.length cap0) ∧ W'.cell? ⟨B2, 0, none⟩ = some (.string c0.id) ∧ W'.cell? ⟨B2, 1, none⟩ = some (.string c0.iss) ∧ W'.cell? ⟨B2, 2, none⟩ = some (.string c0.sub) ∧ W'.cell? ⟨B2, 3, none⟩ = some (.int .i64 c0.frm) ∧ W'.cell? ⟨B2, 4, none⟩ = some (.int .i64 c0.til) ∧ W'.cell? ⟨B2, 5, none⟩ = some (.string c0.whom) ∧ W'.cell? ⟨B2, 6, none⟩ = some (.string c0.ans) ∧ W'.cell? ⟨B2, 7, none⟩ = some (.slice (some ⟨g4, 0, none⟩) c0.facts.length c0.facts.length) from fun W' hb => ⟨(HX7.out.below hb).c0, (HX7.out.below hb).c1, (HX7.out.below hb).c2, (HX7.out.below hb).c3, (HX7.out.below hb).c4, (HX7.out.below hb).c5, (HX7.out.below hb).c6, (HX7.out.below hb).c7, (HY7.out.below hb).c0, (HY7.out.below hb).c1, (HY7.out.below hb).c2, (HY7.out.below hb).c3, (HY7.out.below hb).c4, (HY7.out.below hb).c5, (HY7.out.below hb).c6, (HY7.out.below hb).c7⟩)
  go_region_held3 (fun w' => w'.cell? ⟨B, 0, none⟩ = some (.string c0.id) ∧ w'.cell? ⟨B, 1, none⟩ = some (.string c0.iss) ∧ w'.cell? ⟨B, 2, none⟩ = some (.string c0.sub) ∧ w'.cell? ⟨B, 3, none⟩ = some (.int .i64 c0.frm) ∧ w'.cell? ⟨B, 4, none⟩ = some (.int .i64 c0.til) ∧ w'.cell? ⟨B, 5, none⟩ = some (.string c0.whom) ∧ w'.cell? ⟨B, 6, none⟩ = some (.string c0.ans) ∧ w'.cell? ⟨B, 7, none⟩ = some (.slice a0 c0.facts.length cap0) ∧ w'.cell? ⟨B2, 0, none⟩ = some (.string c0.id) ∧ w'.cell? ⟨B2, 1, none⟩ = some (.string c0.iss) ∧ w'.cell? ⟨B2, 2, none⟩ = some (.string c0.sub) ∧ w'.cell? ⟨B2, 3, none⟩ = some (.int .i64 c0.frm) ∧ w'.cell? ⟨B2, 4, none⟩ = some (.int .i64 c0.til) ∧ w'.cell? ⟨B2, 5, none⟩ = some (.string c0.whom) ∧ w'.cell? ⟨B2, 6, none⟩ = some (.string c0.ans) ∧ w'.cell? ⟨B2, 7, none⟩ = some (.slice (some ⟨g4, 0, none⟩) c0.facts.length c0.facts.length)) (exact HSX.out _ HBc.out)
    (first
      | (go_at_call 6; refine (CT.out _ (HR7.out.below HBc.out)).mono ?_; rintro e w8 ⟨g8, cu8, _, rfl, hh8, hc8, hb8⟩; replace HBc := hid (bb HBc.out hb8); have T8 := hid (hc8.atRow hh8); clear hh8 hc8 hb8)
      | (go_at_call 9; refine (CE.out g4 g8 _ (S7.out.below HBc.out) T8.out).mono ?_; rintro e w9 ⟨rfl, hb9⟩; replace HBc := hid (bb HBc.out hb9); clear hb9))
  have R9 := hid (R7.out.below HBc.out)
  have D9 := hid (bb D7.out HBc.out)
  have M9 := hid (blk_below M7.out HBc.out)
  have HY9 := hid (HY7.out.below HBc.out)
  clear R7 D7 S7 M7 HY7 HX7 HR7 HBc HSX T8 f0 f1 f2 f3 f4 f5 f6 f7 y0 y1 y2 y3 y4 y5 y6 y7
  obtain ⟨y0, y1, y2, y3, y4, y5, y6, y7⟩ := And.intro HY9.out.c0 (And.intro HY9.out.c1 (And.intro HY9.out.c2 (And.intro HY9.out.c3 (And.intro HY9.out.c4 (And.intro HY9.out.c5 (And.intro HY9.out.c6 HY9.out.c7))))))
  have CM9 := hid (CMC.out g4 cu4 w9 M9.out MC.out)
  go_wp2_with fail
  refine CM9.out.mono ?_
  rintro e w10 ⟨K4, rfl, hK4, hkb⟩
  have D10 := hid (D9.out.trans (hkb.below D9.out.size (fun b hb => by have := HG4.out; omega)))
  have R10 := hid (R9.out.keep hkb (fun b hb => by have := HGL.out; omega))
  clear hkb CM9 R9 D9 HY9 M9 y0 y1 y2 y3 y4 y5 y6 y7
  have hd9 : decide ((K4 : Int) < 0) = false := by simp
  go_wp2_with fail
  refine (CQ.out a5 a3 c5 c3 _ (R10.out.rdQ HM5.out).2 (HT3.out.below D10.out)).mono ?_
  rintro e w11 ⟨rfl, hb11⟩
  have R11 := hid (R10.out.below hb11)
  have D11 := hid (bb D10.out hb11)
  clear hb11 R10 D10 hd9 hK4
  by_cases hne : es5 = []
  · subst hne
    have hz0 : ln = 0 := HL5.out.symm
    have CM := hid (fun wx => Nd.cMarkNone a5 c5 1 wx (by omega))
    have CH := hid (fun wx => Nd.cHeldNone a5 c5 1 wx (by omega))
    have HXb := hid (HX3.out.below D11.out)
    subst hz0
    obtain ⟨f0, f1, f2, f3, f4, f5, f6, f7⟩ := And.intro HXb.out.c0 (And.intro HXb.out.c1 (And.intro HXb.out.c2 (And.intro HXb.out.c3 (And.intro HXb.out.c4 (And.intro HXb.out.c5 (And.intro HXb.out.c6 HXb.out.c7))))))
    go_wp2_with fail
    refine (CM.out _).mono ?_
    rintro e w12 ⟨rfl, rfl⟩
    go_wp2_with fail
    refine (CH.out _).mono ?_
    rintro e w12 ⟨rfl, rfl⟩
    go_wp2_with fail
    refine (CT.out _ (HR3.out.below D11.out)).mono ?_
    rintro e w13 ⟨g13, cu13, _, rfl, hh13, hc13, hb13⟩
    have S13 := hid (hc13.atRow hh13)
    have D13 := hid (bb D11.out hb13)
    have L13 := hid (HMM.out.below (bb HB3.out D13.out))
    clear hb13 hh13 hc13 f0 f1 f2 f3 f4 f5 f6 f7
    go_wp2_with fail
    refine (CI.out _ _ S13.out L13.out).mono ?_
    rintro e w14 ⟨v14, rfl, hq14⟩
    have hb14 := hq14.bel
    obtain ⟨es14, a14, c14, hv14, hr14, hm14, _⟩ := hq14.open
    subst hv14
    clear hq14
    have hl14 : es14.length = L.length := (hr14.rdQ hm14).1
    rw [HLN.out] at hl14
    have T14 := hid (hr14.rdQ hm14).2
    have D14 := hid (bb D13.out hb14)
    rw [hl14]
    clear hr14 hm14 hb14 hl14
    go_wp2_with fail
    refine (CQ.out a14 a3 c14 c3 _ T14.out (HT3.out.below D14.out)).mono ?_
    rintro e w15 ⟨rfl, hb15⟩
    have D15 := hid (bb D14.out hb15)
    clear hb15
    go_wp2_with fail
    refine (CH.out _).mono ?_
    rintro e w16 ⟨rfl, rfl⟩
    go_wp2_with fail
    go_ret
    exact ⟨rfl, hB ▸ bb HB3.out D15.out⟩
  · obtain ⟨gq, cg, eg, hok, hho⟩ := R11.out.shape hne
    obtain ⟨rfl, rfl⟩ : a5 = some ⟨gq, 0, none⟩ ∧ c5 = cg := by cases eg; exact ⟨rfl, rfl⟩
    have HOK := hid hok
    have HHO := hid hho
    have hK : (Nd.shR gq es5).K 1 (Nd.shR gq es5).n ≤ 100000000 := by
      have e := Nd.shR_K gq es5 L HM5.out 1 L.length (Nat.le_refl _)
      rw [List.take_of_length_le (Nat.le_refl _)] at e
      have h1 := HSL.out
      show (Nd.shR gq es5).K 1 es5.length ≤ 100000000
      rw [HL5.out, ← HLN.out, e, HLN.out]
      omega
    have HKB := hid hK
    have CM := hid (show ∀ wx, Nd.HoldsN (Nd.shR gq es5) wx (Nd.eAt es5) → Calls Tryz.prog 11 #[.slice (some ⟨gq, 0, none⟩) ln c5, .int .i64 1] wx fun e w' => e = .returned (.int .i64 ((Nd.shR gq es5).K 1 (Nd.shR gq es5).n : Nat)) ∧ Nd.HoldsN (Nd.shR gq es5) w' (fun j => mkTk ((Nd.shR gq es5).K 1 j) ((Nd.shR gq es5).len j)) ∧ KeepB (Nd.shR gq es5).Has wx w' from fun wx h => by
      have := Nd.cMarkNodeH (Nd.shR gq es5) w5.heap.size c5 1 (Nd.eAt es5) wx HOK.out h HKB.out
      rw [show (Nd.shR gq es5).n = ln from HL5.out] at this ⊢
      exact this)
    have CH := hid (show ∀ wx, Nd.HoldsN (Nd.shR gq es5) wx (fun j => mkTk ((Nd.shR gq es5).K 1 j) ((Nd.shR gq es5).len j)) → Calls Tryz.prog 12 #[.slice (some ⟨gq, 0, none⟩) ln c5, .int .i64 1] wx fun e w' => e = .returned (.int .i64 ((Nd.shR gq es5).K 1 (Nd.shR gq es5).n : Nat)) ∧ Below wx.heap.size wx w' from fun wx h => by
      have := Nd.cHeldNodeS (Nd.shR gq es5) w5.heap.size c5 1 wx HOK.out h HKB.out
      rw [show (Nd.shR gq es5).n = ln from HL5.out] at this ⊢
      exact this)
    obtain ⟨K, hKe⟩ : ∃ K, (Nd.shR gq es5).K 1 (Nd.shR gq es5).n = K := ⟨_, rfl⟩
    rw [hKe] at CM CH
    clear hok hho hK hKe eg
    have hdK : decide ((K : Int) < 0) = false := by simp
    have hKK : ((K : Int) == (K : Int)) = true := by simp
    go_wp2_with fail
    refine (CM.out _ HHO.out).mono ?_
    rintro e w12 ⟨rfl, hho12, hkb⟩
    have D12 := hid (D11.out.trans (hkb.below D11.out.size (fun b hb => by have := HOK.out.has hb; have := HW35.out; omega)))
    have H12 := hid hho12
    clear hho12 hkb HHO
    go_wp2_with fail
    refine (CH.out _ H12.out).mono ?_
    rintro e w13 ⟨rfl, hb13⟩
    have H13 := hid (H12.out.below hb13)
    have D13 := hid (bb D12.out hb13)
    have HXb := hid (HX3.out.below D13.out)
    clear hb13 H12
    obtain ⟨f0, f1, f2, f3, f4, f5, f6, f7⟩ := And.intro HXb.out.c0 (And.intro HXb.out.c1 (And.intro HXb.out.c2 (And.intro HXb.out.c3 (And.intro HXb.out.c4 (And.intro HXb.out.c5 (And.intro HXb.out.c6 HXb.out.c7))))))
    go_wp2_with fail
    refine (CT.out _ (HR3.out.below D13.out)).mono ?_
    rintro e w14 ⟨g14, cu14, _, rfl, hh14, hc14, hb14⟩
    have S14 := hid (hc14.atRow hh14)
    have H14 := hid (H13.out.below hb14)
    have D14 := hid (bb D13.out hb14)
    have L14 := hid (HMM.out.below (bb HB3.out D14.out))
    clear hb14 hh14 hc14 H13 f0 f1 f2 f3 f4 f5 f6 f7
    go_wp2_with fail
    refine (CI.out _ _ S14.out L14.out).mono ?_
    rintro e w15 ⟨v15, rfl, hq15⟩
    have hb15 := hq15.bel
    obtain ⟨es15, a15, c15, hv15, hr15, hm15, _⟩ := hq15.open
    subst hv15
    clear hq15
    have hl15 : es15.length = L.length := (hr15.rdQ hm15).1
    rw [HLN.out] at hl15
    have T15 := hid (hr15.rdQ hm15).2
    have H15 := hid (H14.out.below hb15)
    have D15 := hid (bb D14.out hb15)
    rw [hl15]
    clear hr15 hm15 hb15 hl15 H14
    go_wp2_with fail
    refine (CQ.out a15 a3 c15 c3 _ T15.out (HT3.out.below D15.out)).mono ?_
    rintro e w16 ⟨rfl, hb16⟩
    have H16 := hid (H15.out.below hb16)
    have D16 := hid (bb D15.out hb16)
    clear hb16 H15
    go_wp2_with fail
    refine (CH.out _ H16.out).mono ?_
    rintro e w17 ⟨rfl, hb17⟩
    have D17 := hid (bb D16.out hb17)
    clear hb17
    go_wp2_with fail
    go_ret
    exact ⟨rfl, hB ▸ bb HB3.out D17.out⟩

end Go.Proofs.YtcjeodgfpnecgaaGreatDoor

namespace Go.Proofs.YtcjeodgfpnecgaaGreatDoor
open Go.RowKit

theorem pow_data : (Lib.tabData .u64 Lib.pow10Tab : DataW Unit) = Rows.laid_internal_strconv_uint64pow10 := by kernel_rfl

theorem laid_of {l : List (String × DataW Unit)} {w : World} (h : laidMet Tryz.prog l w) (h0 : (longName, Lib.tabData .i64 longZ) ∈ l) (h1 : (shortName, Lib.tabData .i64 shortZ) ∈ l) (h2 : (powName, Rows.laid_internal_strconv_uint64pow10) ∈ l) : Laid w := by
  refine ⟨mon_of h h0 h1, ?_⟩
  rw [← pow_data] at h2
  exact tab_of h h2 (g := 2) (t := 168) (by kernel_rfl) (by kernel_rfl) Tryz.underlying168 Tryz.underlying156 (by kernel_rfl) (by kernel_rfl)

end Go.Proofs.YtcjeodgfpnecgaaGreatDoor

namespace Go.Proofs.YtcjeodgfpnecgaaGreatDoor
open Go.RowKit

theorem laid_letter {w : World} (h : laidMetH Tryz.prog Rows.fnExactLetterRow.laid w) : Laid w := by
  rw [MakeChecks.laidMetH_plain _ _ _ (by kernel_rfl)] at h
  exact laid_of h (.tail _ (.tail _ (.tail _ (.tail _ (.head _))))) (.tail _ (.tail _ (.tail _ (.head _)))) (.tail _ (.tail _ (.head _)))

end Go.Proofs.YtcjeodgfpnecgaaGreatDoor
