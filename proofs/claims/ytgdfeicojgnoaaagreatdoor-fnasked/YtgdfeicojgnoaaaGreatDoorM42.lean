/- The program's Ticked. The specification's Ticked. -/
import Derived.Test.YtgdfeicojgnoaaaGreatDoorM41
import Derived.Test.YtgdfeicojgnoaaaGreatDoorM21
import Derived.Test.YtgdfeicojgnoaaaGreatDoorM13
namespace Go.Proofs.YtgdfeicojgnoaaaGreatDoor
open Go.RowKit
set_option linter.unusedVariables false
set_option linter.unusedSimpArgs false

set_option maxRecDepth 8000 in
set_option maxHeartbeats 16000000 in
theorem cTickedBad (g : Gt) (ah : Option Addr) (ch : Nat) (aa : Option Addr) (ca : Nat) (ar : Option Addr) (cr : Nat) (d : Int) (a0 a1 : Addr) (w : World) (hS : SenAt a0 a1 w) (hR : GtRow w g ah aa ar) (hz : GtSz 1048576 g) (hg : gateB g = false) :
    Calls Tryz.prog 7 #[gtV g ah ch aa ca ar cr, .int .i64 d] w fun e w' => e = .returned (.tuple #[.agg #[.string ⟨#[]⟩, .slice none 0 0, .int .i64 0, .int .i64 0, .int .i64 0, .slice none 0 0, .int .i64 0, .slice none 0 0], .bool false]) ∧ Below w.heap.size w w' := by
  have CL := hid (fun wx (h : Below w.heap.size w wx) => cLaterBad g ah ch aa ca ar cr d a0 a1 wx (hS.below h) (hR.below h) hz hg)
  have HSN := hid hS
  have CS := hid (fun (x : ByteArray) (nh : Nat) (sk nw am : Int) (na : Nat) (rm : Int) (nr : Nat) wx (h : SenAt a0 a1 wx) => cSettledBad x ah nh ch sk nw am aa na ca rm ar nr cr ⟨#[]⟩ none 0 0 0 0 0 none 0 0 0 none 0 0 a0 a1 wx h)
  unfold gtV at CL
  unfold erV at CL CS
  rw [show gtV g ah ch aa ca ar cr = .agg #[.string g.name, .slice ah g.hands.length ch, .int .i64 g.skew, .int .i64 g.now, .int .i64 g.ask.most, .slice aa g.ask.rows.length ca, .int .i64 g.hrd.most, .slice ar g.hrd.rows.length cr] from rfl]
  clear hR hz hS
  generalize g.name = x at *
  generalize g.skew = sk at *
  generalize g.now = nw at *
  generalize g.ask.most = am at *
  generalize g.hrd.most = rm at *
  generalize g.hands.length = nh at *
  generalize g.ask.rows.length = na at *
  generalize g.hrd.rows.length = nr at *
  obtain ⟨b1, b2⟩ := u_heap2 w (.cells #[.string x, .slice ah nh ch, .int .i64 sk, .int .i64 nw, .int .i64 am, .slice aa na ca, .int .i64 rm, .slice ar nr cr] 29) (.cells #[.string ⟨#[]⟩, .slice none 0 0, .int .i64 0, .int .i64 0, .int .i64 0, .slice none 0 0, .int .i64 0, .slice none 0 0] 29)
  have HB0 := hid (((Below.refl w.heap.size w).alloc (Nat.le_refl _) (.cells #[.string x, .slice ah nh ch, .int .i64 sk, .int .i64 nw, .int .i64 am, .slice aa na ca, .int .i64 rm, .slice ar nr cr] 29)).alloc (by simp) (.cells #[.string ⟨#[]⟩, .slice none 0 0, .int .i64 0, .int .i64 0, .int .i64 0, .slice none 0 0, .int .i64 0, .slice none 0 0] 29))
  obtain ⟨W0, hW0⟩ : ∃ W0, (w.alloc (.cells #[.string x, .slice ah nh ch, .int .i64 sk, .int .i64 nw, .int .i64 am, .slice aa na ca, .int .i64 rm, .slice ar nr cr] 29)).alloc (.cells #[.string ⟨#[]⟩, .slice none 0 0, .int .i64 0, .int .i64 0, .int .i64 0, .slice none 0 0, .int .i64 0, .slice none 0 0] 29) = W0 := ⟨_, rfl⟩
  rw [hW0] at b1 b2 HB0
  obtain ⟨B, hB⟩ : ∃ B, w.heap.size = B := ⟨_, rfl⟩
  have HBE := hid hB
  rw [hB] at b1 b2
  have HM1 := hid b1
  have HM2 := hid b2
  clear b1 b2
  obtain ⟨⟨f0, f1, f2, f3, f4, f5, f6, f7⟩, ff⟩ := g_box8f HM1.out
  clear ff

  go_enter Tryz.func7, Tryz.ntmps7
  go_wp2_with fail
  refine (CL.out _ HB0.out).mono ?_
  rintro e w1 ⟨rfl, hb1⟩
  have HBi := hid (bb HB0.out hb1)
  have HZ := hid (u_blk_below HM2.out hb1)
  have HZ1 := hid (u_blk_below HM1.out hb1)
  have HLT := hid (show B + 1 < w1.heap.size from lt_of_heap HZ.out)
  clear hb1 CL f0 f1 f2 f3 f4 f5 f6 f7 hW0
  go_upto_region 2 with fail
  have HB2 := hid ((Below.refl w1.heap.size w1).alloc (Nat.le_refl _) (.cells #[.string ⟨#[]⟩, .slice none 0 0, .int .i64 0, .int .i64 0, .int .i64 0, .slice none 0 0, .int .i64 0, .slice none 0 0] 29))
  have HMM := hid (heap_alloc_new w1 (.cells #[.string ⟨#[]⟩, .slice none 0 0, .int .i64 0, .int .i64 0, .int .i64 0, .slice none 0 0, .int .i64 0, .slice none 0 0] 29))
  obtain ⟨w2, hw2⟩ : ∃ w2, w1.alloc (.cells #[.string ⟨#[]⟩, .slice none 0 0, .int .i64 0, .int .i64 0, .int .i64 0, .slice none 0 0, .int .i64 0, .slice none 0 0] 29) = w2 := ⟨_, rfl⟩
  rw [hw2] at HB2 HMM ⊢
  clear hw2
  obtain ⟨M, hM⟩ : ∃ M, w1.heap.size = M := ⟨_, rfl⟩
  have HME := hid hM
  rw [hM] at HMM ⊢
  clear hM
  have HMB := hid (show B + 1 < M from HME.out ▸ HLT.out)
  have HZ2 := hid (u_blk_below HZ.out HB2.out)
  have HZ12 := hid (u_blk_below HZ1.out HB2.out)
  have HBc := hid (u_KeepB.of_below (fun b => b = B + 1) ((Below.refl w2.heap.size w2).drew))
  have HBb := hid ((Below.refl w2.heap.size w2).drew)
  have HSX := hid (show ∀ w', u_KeepB (fun b => b = B + 1) w2 w' → (w'.cell? ⟨B, 0, none⟩ = some (.string x) ∧ w'.cell? ⟨B, 1, none⟩ = some (.slice ah nh ch) ∧ w'.cell? ⟨B, 2, none⟩ = some (.int .i64 sk) ∧ w'.cell? ⟨B, 3, none⟩ = some (.int .i64 nw) ∧ w'.cell? ⟨B, 4, none⟩ = some (.int .i64 am) ∧ w'.cell? ⟨B, 5, none⟩ = some (.slice aa na ca) ∧ w'.cell? ⟨B, 6, none⟩ = some (.int .i64 rm) ∧ w'.cell? ⟨B, 7, none⟩ = some (.slice ar nr cr) ∧ w'.cell? ⟨M, 0, none⟩ = some (.string ⟨#[]⟩) ∧ w'.cell? ⟨M, 1, none⟩ = some (.slice none 0 0) ∧ w'.cell? ⟨M, 2, none⟩ = some (.int .i64 0) ∧ w'.cell? ⟨M, 3, none⟩ = some (.int .i64 0) ∧ w'.cell? ⟨M, 4, none⟩ = some (.int .i64 0) ∧ w'.cell? ⟨M, 5, none⟩ = some (.slice none 0 0) ∧ w'.cell? ⟨M, 6, none⟩ = some (.int .i64 0) ∧ w'.cell? ⟨M, 7, none⟩ = some (.slice none 0 0)) from fun w' hk => by
    obtain ⟨q0, q1, q2, q3, q4, q5, q6, q7⟩ := (g_box8f ((hk.block B (lt_of_heap HZ12.out) (fun e => by have e' : B = B + 1 := e; omega)).trans HZ12.out)).1
    obtain ⟨p0, p1, p2, p3, p4, p5, p6, p7⟩ := (g_box8f ((hk.block M (lt_of_heap HMM.out) (fun e => by have e' : M = B + 1 := e; have := HMB.out; omega)).trans HMM.out)).1
    exact ⟨q0, q1, q2, q3, q4, q5, q6, q7, p0, p1, p2, p3, p4, p5, p6, p7⟩)
  go_region_held3 (fun w' => (w'.cell? ⟨B, 0, none⟩ = some (.string x) ∧ w'.cell? ⟨B, 1, none⟩ = some (.slice ah nh ch) ∧ w'.cell? ⟨B, 2, none⟩ = some (.int .i64 sk) ∧ w'.cell? ⟨B, 3, none⟩ = some (.int .i64 nw) ∧ w'.cell? ⟨B, 4, none⟩ = some (.int .i64 am) ∧ w'.cell? ⟨B, 5, none⟩ = some (.slice aa na ca) ∧ w'.cell? ⟨B, 6, none⟩ = some (.int .i64 rm) ∧ w'.cell? ⟨B, 7, none⟩ = some (.slice ar nr cr) ∧ w'.cell? ⟨M, 0, none⟩ = some (.string ⟨#[]⟩) ∧ w'.cell? ⟨M, 1, none⟩ = some (.slice none 0 0) ∧ w'.cell? ⟨M, 2, none⟩ = some (.int .i64 0) ∧ w'.cell? ⟨M, 3, none⟩ = some (.int .i64 0) ∧ w'.cell? ⟨M, 4, none⟩ = some (.int .i64 0) ∧ w'.cell? ⟨M, 5, none⟩ = some (.slice none 0 0) ∧ w'.cell? ⟨M, 6, none⟩ = some (.int .i64 0) ∧ w'.cell? ⟨M, 7, none⟩ = some (.slice none 0 0))) (first | with_reducible exact HSX.out _ HBc.out | with_reducible exact HSX.out _ (HBc.out.trans (keep8 _ _ _ _ _ _ _ _ _ _)))
    ((go_at_call 27; with_reducible refine (CS.out _ _ _ _ _ _ _ _ _ (HSN.out.below (bb HBi.out (bb HB2.out HBb.out)))).mono ?_; rintro e w3 ⟨rfl, hb3⟩; replace HBb := hid (bb HBb.out hb3); replace HBc := hid (u_KeepB.of_below (fun b => b = B + 1) HBb.out); have HZ3 := hid (u_blk_below HZ2.out HBb.out); obtain ⟨⟨k0, k1, k2, k3, k4, k5, k6, k7⟩, kf⟩ := g_box8f HZ3.out; have kf0 := kf 0; have kf1 := kf 1; have kf2 := kf 2; have kf3 := kf 3; have kf4 := kf 4; have kf5 := kf 5; have kf6 := kf 6; have kf7 := kf 7; clear kf; clear hb3))
  go_wp2_with fail
  refine bodyPost_ret (v := .tuple #[.agg #[.string ⟨#[]⟩, .slice none 0 0, .int .i64 0, .int .i64 0, .int .i64 0, .slice none 0 0, .int .i64 0, .slice none 0 0], .bool false]) (by simp [results, Tryz.results7, go_sem, k0, k1, k2, k3, k4, k5, k6, k7]) rfl ⟨rfl, ?_⟩
  · iterate 8 refine Below.setCell ?_ (show w.heap.size ≤ B + 1 by omega) _
    exact bb HBi.out (bb HB2.out HBb.out)

set_option maxRecDepth 8000 in
set_option maxHeartbeats 16000000 in
theorem cTickedOld (g : Gt) (ah : Option Addr) (ch : Nat) (aa : Option Addr) (ca : Nat) (ar : Option Addr) (cr : Nat) (d : Int) (a0 a1 : Addr) (w : World) (hS : SenAt a0 a1 w) (hR : GtRow w g ah aa ar) (hz : GtSz 1048576 g) (hg : gateB g = true) (hd : ¬ (0 ≤ d ∧ d ≤ 3155759999)) :
    Calls Tryz.prog 7 #[gtV g ah ch aa ca ar cr, .int .i64 d] w fun e w' => ∃ ah' ch' aa' ca' ar' cr', e = .returned (.tuple #[gtV g ah' ch' aa' ca' ar' cr', .bool false]) ∧ GtOwn w' w.heap.size g ah' aa' ar' ∧ Below w.heap.size w w' := by
  have CL := hid (fun wx (h : Below w.heap.size w wx) => show Calls Tryz.prog 26 #[gtV g ah ch aa ca ar cr, .int .i64 d] wx fun e w' => e = .returned (.tuple #[.agg #[.string ⟨#[]⟩, .slice none 0 0, .int .i64 0, .int .i64 0, .int .i64 0, .slice none 0 0, .int .i64 0, .slice none 0 0], erV (.base a1)]) ∧ Below wx.heap.size wx w' from by
    by_cases h0 : d < 0
    · exact cLaterNoNeg g ah ch aa ca ar cr d a0 a1 wx (hS.below h) (hR.below h) hz hg h0
    · exact cLaterNoFar g ah ch aa ca ar cr d a0 a1 wx (hS.below h) (hR.below h) hz hg (by omega) (by omega))
  have HSN := hid hS
  have CS := hid (fun wx (h : Below w.heap.size w wx) => cSettledOld g ah ch aa ca ar cr ⟨#[]⟩ none 0 0 0 0 0 none 0 0 0 none 0 0 a0 a1 wx (hS.below h) (hR.below h) hz (gate_rows hg).1 (gate_rows hg).2.1 (gate_rows hg).2.2)
  have HGV := hid (show ∀ a1 c1 a2 c2 a3 c3, gtV g a1 c1 a2 c2 a3 c3 = .agg #[.string g.name, .slice a1 g.hands.length c1, .int .i64 g.skew, .int .i64 g.now, .int .i64 g.ask.most, .slice a2 g.ask.rows.length c2, .int .i64 g.hrd.most, .slice a3 g.hrd.rows.length c3] from fun a1 c1 a2 c2 a3 c3 => rfl)
  have HOWN := hid (fun (wx : World) (Bx : Nat) (a b c : Option Addr) (h : GtOwn wx Bx g a b c) (R : Nat) (hR : R < Bx) => own_set8 h hR)
  unfold gtV at CL CS
  unfold erV at CL CS
  simp only [HGV.out]
  clear hR hz hS
  generalize g.name = x at *
  generalize g.skew = sk at *
  generalize g.now = nw at *
  generalize g.ask.most = am at *
  generalize g.hrd.most = rm at *
  generalize g.hands.length = nh at *
  generalize g.ask.rows.length = na at *
  generalize g.hrd.rows.length = nr at *
  obtain ⟨b1, b2⟩ := u_heap2 w (.cells #[.string x, .slice ah nh ch, .int .i64 sk, .int .i64 nw, .int .i64 am, .slice aa na ca, .int .i64 rm, .slice ar nr cr] 29) (.cells #[.string ⟨#[]⟩, .slice none 0 0, .int .i64 0, .int .i64 0, .int .i64 0, .slice none 0 0, .int .i64 0, .slice none 0 0] 29)
  have HB0 := hid (((Below.refl w.heap.size w).alloc (Nat.le_refl _) (.cells #[.string x, .slice ah nh ch, .int .i64 sk, .int .i64 nw, .int .i64 am, .slice aa na ca, .int .i64 rm, .slice ar nr cr] 29)).alloc (by simp) (.cells #[.string ⟨#[]⟩, .slice none 0 0, .int .i64 0, .int .i64 0, .int .i64 0, .slice none 0 0, .int .i64 0, .slice none 0 0] 29))
  obtain ⟨W0, hW0⟩ : ∃ W0, (w.alloc (.cells #[.string x, .slice ah nh ch, .int .i64 sk, .int .i64 nw, .int .i64 am, .slice aa na ca, .int .i64 rm, .slice ar nr cr] 29)).alloc (.cells #[.string ⟨#[]⟩, .slice none 0 0, .int .i64 0, .int .i64 0, .int .i64 0, .slice none 0 0, .int .i64 0, .slice none 0 0] 29) = W0 := ⟨_, rfl⟩
  rw [hW0] at b1 b2 HB0
  obtain ⟨B, hB⟩ : ∃ B, w.heap.size = B := ⟨_, rfl⟩
  have HBE := hid hB
  rw [hB] at b1 b2
  have HM1 := hid b1
  have HM2 := hid b2
  clear b1 b2
  obtain ⟨⟨f0, f1, f2, f3, f4, f5, f6, f7⟩, ff⟩ := g_box8f HM1.out
  clear ff

  go_enter Tryz.func7, Tryz.ntmps7
  go_wp2_with fail
  refine (CL.out _ HB0.out).mono ?_
  rintro e w1 ⟨rfl, hb1⟩
  have HBi := hid (bb HB0.out hb1)
  have HZ := hid (u_blk_below HM2.out hb1)
  have HZ1 := hid (u_blk_below HM1.out hb1)
  have HLT := hid (show B + 1 < w1.heap.size from lt_of_heap HZ.out)
  clear hb1 CL f0 f1 f2 f3 f4 f5 f6 f7 hW0
  go_upto_region 2 with fail
  have HB2 := hid ((Below.refl w1.heap.size w1).alloc (Nat.le_refl _) (.cells #[.string ⟨#[]⟩, .slice none 0 0, .int .i64 0, .int .i64 0, .int .i64 0, .slice none 0 0, .int .i64 0, .slice none 0 0] 29))
  have HMM := hid (heap_alloc_new w1 (.cells #[.string ⟨#[]⟩, .slice none 0 0, .int .i64 0, .int .i64 0, .int .i64 0, .slice none 0 0, .int .i64 0, .slice none 0 0] 29))
  obtain ⟨w2, hw2⟩ : ∃ w2, w1.alloc (.cells #[.string ⟨#[]⟩, .slice none 0 0, .int .i64 0, .int .i64 0, .int .i64 0, .slice none 0 0, .int .i64 0, .slice none 0 0] 29) = w2 := ⟨_, rfl⟩
  rw [hw2] at HB2 HMM ⊢
  clear hw2
  obtain ⟨M, hM⟩ : ∃ M, w1.heap.size = M := ⟨_, rfl⟩
  have HME := hid hM
  rw [hM] at HMM ⊢
  clear hM
  have HMB := hid (show B + 1 < M from HME.out ▸ HLT.out)
  have HZ2 := hid (u_blk_below HZ.out HB2.out)
  have HZ12 := hid (u_blk_below HZ1.out HB2.out)
  have HBc := hid (u_KeepB.of_below (fun b => b = B + 1) ((Below.refl w2.heap.size w2).drew))
  have HBb := hid ((Below.refl w2.heap.size w2).drew)
  have HSX := hid (show ∀ w', u_KeepB (fun b => b = B + 1) w2 w' → (w'.cell? ⟨B, 0, none⟩ = some (.string x) ∧ w'.cell? ⟨B, 1, none⟩ = some (.slice ah nh ch) ∧ w'.cell? ⟨B, 2, none⟩ = some (.int .i64 sk) ∧ w'.cell? ⟨B, 3, none⟩ = some (.int .i64 nw) ∧ w'.cell? ⟨B, 4, none⟩ = some (.int .i64 am) ∧ w'.cell? ⟨B, 5, none⟩ = some (.slice aa na ca) ∧ w'.cell? ⟨B, 6, none⟩ = some (.int .i64 rm) ∧ w'.cell? ⟨B, 7, none⟩ = some (.slice ar nr cr) ∧ w'.cell? ⟨M, 0, none⟩ = some (.string ⟨#[]⟩) ∧ w'.cell? ⟨M, 1, none⟩ = some (.slice none 0 0) ∧ w'.cell? ⟨M, 2, none⟩ = some (.int .i64 0) ∧ w'.cell? ⟨M, 3, none⟩ = some (.int .i64 0) ∧ w'.cell? ⟨M, 4, none⟩ = some (.int .i64 0) ∧ w'.cell? ⟨M, 5, none⟩ = some (.slice none 0 0) ∧ w'.cell? ⟨M, 6, none⟩ = some (.int .i64 0) ∧ w'.cell? ⟨M, 7, none⟩ = some (.slice none 0 0)) from fun w' hk => by
    obtain ⟨q0, q1, q2, q3, q4, q5, q6, q7⟩ := (g_box8f ((hk.block B (lt_of_heap HZ12.out) (fun e => by have e' : B = B + 1 := e; omega)).trans HZ12.out)).1
    obtain ⟨p0, p1, p2, p3, p4, p5, p6, p7⟩ := (g_box8f ((hk.block M (lt_of_heap HMM.out) (fun e => by have e' : M = B + 1 := e; have := HMB.out; omega)).trans HMM.out)).1
    exact ⟨q0, q1, q2, q3, q4, q5, q6, q7, p0, p1, p2, p3, p4, p5, p6, p7⟩)
  go_region_held3 (fun w' => (w'.cell? ⟨B, 0, none⟩ = some (.string x) ∧ w'.cell? ⟨B, 1, none⟩ = some (.slice ah nh ch) ∧ w'.cell? ⟨B, 2, none⟩ = some (.int .i64 sk) ∧ w'.cell? ⟨B, 3, none⟩ = some (.int .i64 nw) ∧ w'.cell? ⟨B, 4, none⟩ = some (.int .i64 am) ∧ w'.cell? ⟨B, 5, none⟩ = some (.slice aa na ca) ∧ w'.cell? ⟨B, 6, none⟩ = some (.int .i64 rm) ∧ w'.cell? ⟨B, 7, none⟩ = some (.slice ar nr cr) ∧ w'.cell? ⟨M, 0, none⟩ = some (.string ⟨#[]⟩) ∧ w'.cell? ⟨M, 1, none⟩ = some (.slice none 0 0) ∧ w'.cell? ⟨M, 2, none⟩ = some (.int .i64 0) ∧ w'.cell? ⟨M, 3, none⟩ = some (.int .i64 0) ∧ w'.cell? ⟨M, 4, none⟩ = some (.int .i64 0) ∧ w'.cell? ⟨M, 5, none⟩ = some (.slice none 0 0) ∧ w'.cell? ⟨M, 6, none⟩ = some (.int .i64 0) ∧ w'.cell? ⟨M, 7, none⟩ = some (.slice none 0 0))) (first | with_reducible exact HSX.out _ HBc.out | with_reducible exact HSX.out _ (HBc.out.trans (keep8 _ _ _ _ _ _ _ _ _ _)))
    ((go_at_call 27; with_reducible refine (CS.out _ (bb HBi.out (bb HB2.out HBb.out))).mono ?_; rintro e w3 ⟨h1, e1, h2, e2, h3, e3, rfl, ho3, hb3⟩; replace HBb := hid (bb HBb.out hb3); replace HBc := hid (u_KeepB.of_below (fun b => b = B + 1) HBb.out); have HZ3 := hid (u_blk_below HZ2.out HBb.out); obtain ⟨⟨k0, k1, k2, k3, k4, k5, k6, k7⟩, kf⟩ := g_box8f HZ3.out; have kf0 := kf 0; have kf1 := kf 1; have kf2 := kf 2; have kf3 := kf 3; have kf4 := kf 4; have kf5 := kf 5; have kf6 := kf 6; have kf7 := kf 7; clear kf; have HO3 := hid ho3; have HP3 := hid HBb.out.size; clear ho3 hb3))
  go_wp2_with fail
  refine bodyPost_ret (v := .tuple #[.agg #[.string x, .slice h1 nh e1, .int .i64 sk, .int .i64 nw, .int .i64 am, .slice h2 na e2, .int .i64 rm, .slice h3 nr e3], .bool false]) (by simp [results, Tryz.results7, go_sem, k0, k1, k2, k3, k4, k5, k6, k7]) rfl ⟨h1, e1, h2, e2, h3, e3, rfl, ?_, ?_⟩
  · refine (HOWN.out _ _ _ _ _ HO3.out (B + 1) (by have := HLT.out; have := HB2.out.size; have := ((Below.refl w2.heap.size w2).drew).size; omega) _ _ _ _ _ _ _ _).mono ?_
    exact (bb HBi.out (bb HB2.out ((Below.refl w2.heap.size w2).drew))).size
  · iterate 8 refine Below.setCell ?_ (show w.heap.size ≤ B + 1 by omega) _
    exact bb HBi.out (bb HB2.out HBb.out)

set_option maxRecDepth 8000 in
set_option maxHeartbeats 16000000 in
theorem cTickedLate (g : Gt) (ah : Option Addr) (ch : Nat) (aa : Option Addr) (ca : Nat) (ar : Option Addr) (cr : Nat) (d : Int) (a0 a1 : Addr) (w : World) (hS : SenAt a0 a1 w) (hR : GtRow w g ah aa ar) (hz : GtSz 1048576 g) (hg : gateB g = true) (hd : 0 ≤ d ∧ d ≤ 3155759999) :
    Calls Tryz.prog 7 #[gtV g ah ch aa ca ar cr, .int .i64 d] w fun e w' => ∃ ah' ch' aa' ca' ar' cr', e = .returned (.tuple #[gtV (lateG g (laterOf g.now d)) ah' ch' aa' ca' ar' cr', .bool true]) ∧ GtOwn w' w.heap.size (lateG g (laterOf g.now d)) ah' aa' ar' ∧ Below w.heap.size w w' := by
  have CL := hid (fun wx (h : Below w.heap.size w wx) => cLaterYes g ah ch aa ca ar cr d wx (hR.below h) hz hg hd)
  have HGL := hid (show ∀ a1 c1 a2 c2 a3 c3, gtV (lateG g (laterOf g.now d)) a1 c1 a2 c2 a3 c3 = .agg #[.string g.name, .slice a1 g.hands.length c1, .int .i64 g.skew, .int .i64 (laterOf g.now d), .int .i64 g.ask.most, .slice a2 (sweepR g.ask.rows (laterOf g.now d)).length c2, .int .i64 g.hrd.most, .slice a3 (sweepR g.hrd.rows (laterOf g.now d)).length c3] from fun a1 c1 a2 c2 a3 c3 => rfl)
  have HOWN := hid (fun (wx : World) (Bx : Nat) (a b c : Option Addr) (h : GtOwn wx Bx (lateG g (laterOf g.now d)) a b c) (R : Nat) (hR : R < Bx) => own_set8 h hR)
  have HSZ := hid (show ∀ wx a b c, GtOwn wx w.heap.size (lateG g (laterOf g.now d)) a b c → True from fun _ _ _ _ _ => trivial)
  have CS := hid (fun (x : ByteArray) (nh : Nat) (sk nw am : Int) (na : Nat) (rm : Int) (nr : Nat) (h1 : Option Addr) (e1 : Nat) (L : Int) (h2 : Option Addr) (n2 e2 : Nat) (h3 : Option Addr) (n3 e3 : Nat) wx => cSettledNil x ah nh ch sk nw am aa na ca rm ar nr cr x h1 nh e1 sk L am h2 n2 e2 rm h3 n3 e3 wx)
  obtain ⟨N, hN⟩ : ∃ N, lateG g (laterOf g.now d) = N := ⟨_, rfl⟩
  rw [hN] at CL HOWN HSZ ⊢
  simp only [hN] at HGL
  have HSB := hid (show ∀ (wx wy : World) (Bx : Nat) (a b c : Option Addr), GtOwn wx Bx N a b c → Below wx.heap.size wx wy → GtOwn wy Bx N a b c from fun wx wy Bx a b c h hb => h.below hb)
  simp only [HGL.out] at CL ⊢
  clear hN hg
  rw [show gtV g ah ch aa ca ar cr = .agg #[.string g.name, .slice ah g.hands.length ch, .int .i64 g.skew, .int .i64 g.now, .int .i64 g.ask.most, .slice aa g.ask.rows.length ca, .int .i64 g.hrd.most, .slice ar g.hrd.rows.length cr] from rfl] at CL
  generalize laterOf g.now d = L at *
  generalize sweepR g.ask.rows L = sa at *
  generalize sweepR g.hrd.rows L = sr at *
  rw [show gtV g ah ch aa ca ar cr = .agg #[.string g.name, .slice ah g.hands.length ch, .int .i64 g.skew, .int .i64 g.now, .int .i64 g.ask.most, .slice aa g.ask.rows.length ca, .int .i64 g.hrd.most, .slice ar g.hrd.rows.length cr] from rfl]
  clear hR hz hS
  generalize g.name = x at *
  generalize g.skew = sk at *
  generalize g.now = nw at *
  generalize g.ask.most = am at *
  generalize g.hrd.most = rm at *
  generalize g.hands.length = nh at *
  generalize g.ask.rows.length = na at *
  generalize g.hrd.rows.length = nr at *
  obtain ⟨b1, b2⟩ := u_heap2 w (.cells #[.string x, .slice ah nh ch, .int .i64 sk, .int .i64 nw, .int .i64 am, .slice aa na ca, .int .i64 rm, .slice ar nr cr] 29) (.cells #[.string ⟨#[]⟩, .slice none 0 0, .int .i64 0, .int .i64 0, .int .i64 0, .slice none 0 0, .int .i64 0, .slice none 0 0] 29)
  have HB0 := hid (((Below.refl w.heap.size w).alloc (Nat.le_refl _) (.cells #[.string x, .slice ah nh ch, .int .i64 sk, .int .i64 nw, .int .i64 am, .slice aa na ca, .int .i64 rm, .slice ar nr cr] 29)).alloc (by simp) (.cells #[.string ⟨#[]⟩, .slice none 0 0, .int .i64 0, .int .i64 0, .int .i64 0, .slice none 0 0, .int .i64 0, .slice none 0 0] 29))
  obtain ⟨W0, hW0⟩ : ∃ W0, (w.alloc (.cells #[.string x, .slice ah nh ch, .int .i64 sk, .int .i64 nw, .int .i64 am, .slice aa na ca, .int .i64 rm, .slice ar nr cr] 29)).alloc (.cells #[.string ⟨#[]⟩, .slice none 0 0, .int .i64 0, .int .i64 0, .int .i64 0, .slice none 0 0, .int .i64 0, .slice none 0 0] 29) = W0 := ⟨_, rfl⟩
  rw [hW0] at b1 b2 HB0
  obtain ⟨B, hB⟩ : ∃ B, w.heap.size = B := ⟨_, rfl⟩
  have HBE := hid hB
  rw [hB] at b1 b2
  have HM1 := hid b1
  have HM2 := hid b2
  clear b1 b2
  obtain ⟨⟨f0, f1, f2, f3, f4, f5, f6, f7⟩, ff⟩ := g_box8f HM1.out
  clear ff

  go_enter Tryz.func7, Tryz.ntmps7
  go_wp2_with fail
  refine (CL.out _ HB0.out).mono ?_
  rintro e w1 ⟨h1, e1, h2, e2, h3, e3, rfl, ho1, hb1⟩
  have HO1 := hid ho1
  clear ho1
  have HBi := hid (bb HB0.out hb1)
  have HZ := hid (u_blk_below HM2.out hb1)
  have HZ1 := hid (u_blk_below HM1.out hb1)
  have HLT := hid (show B + 1 < w1.heap.size from lt_of_heap HZ.out)
  clear hb1 CL f0 f1 f2 f3 f4 f5 f6 f7 hW0
  go_upto_region 2 with fail
  have HB2 := hid ((Below.refl w1.heap.size w1).alloc (Nat.le_refl _) (.cells #[.string x, .slice h1 nh e1, .int .i64 sk, .int .i64 L, .int .i64 am, .slice h2 sa.length e2, .int .i64 rm, .slice h3 sr.length e3] 29))
  have HMM := hid (heap_alloc_new w1 (.cells #[.string x, .slice h1 nh e1, .int .i64 sk, .int .i64 L, .int .i64 am, .slice h2 sa.length e2, .int .i64 rm, .slice h3 sr.length e3] 29))
  obtain ⟨w2, hw2⟩ : ∃ w2, w1.alloc (.cells #[.string x, .slice h1 nh e1, .int .i64 sk, .int .i64 L, .int .i64 am, .slice h2 sa.length e2, .int .i64 rm, .slice h3 sr.length e3] 29) = w2 := ⟨_, rfl⟩
  rw [hw2] at HB2 HMM ⊢
  clear hw2
  obtain ⟨M, hM⟩ : ∃ M, w1.heap.size = M := ⟨_, rfl⟩
  have HME := hid hM
  rw [hM] at HMM ⊢
  clear hM
  have HMB := hid (show B + 1 < M from HME.out ▸ HLT.out)
  have HZ2 := hid (u_blk_below HZ.out HB2.out)
  have HZ12 := hid (u_blk_below HZ1.out HB2.out)
  have HBc := hid (u_KeepB.of_below (fun b => b = B + 1) ((Below.refl w2.heap.size w2).drew))
  have HBb := hid ((Below.refl w2.heap.size w2).drew)
  have HSX := hid (show ∀ w', u_KeepB (fun b => b = B + 1) w2 w' → (w'.cell? ⟨B, 0, none⟩ = some (.string x) ∧ w'.cell? ⟨B, 1, none⟩ = some (.slice ah nh ch) ∧ w'.cell? ⟨B, 2, none⟩ = some (.int .i64 sk) ∧ w'.cell? ⟨B, 3, none⟩ = some (.int .i64 nw) ∧ w'.cell? ⟨B, 4, none⟩ = some (.int .i64 am) ∧ w'.cell? ⟨B, 5, none⟩ = some (.slice aa na ca) ∧ w'.cell? ⟨B, 6, none⟩ = some (.int .i64 rm) ∧ w'.cell? ⟨B, 7, none⟩ = some (.slice ar nr cr) ∧ w'.cell? ⟨M, 0, none⟩ = some (.string x) ∧ w'.cell? ⟨M, 1, none⟩ = some (.slice h1 nh e1) ∧ w'.cell? ⟨M, 2, none⟩ = some (.int .i64 sk) ∧ w'.cell? ⟨M, 3, none⟩ = some (.int .i64 L) ∧ w'.cell? ⟨M, 4, none⟩ = some (.int .i64 am) ∧ w'.cell? ⟨M, 5, none⟩ = some (.slice h2 sa.length e2) ∧ w'.cell? ⟨M, 6, none⟩ = some (.int .i64 rm) ∧ w'.cell? ⟨M, 7, none⟩ = some (.slice h3 sr.length e3)) from fun w' hk => by
    obtain ⟨q0, q1, q2, q3, q4, q5, q6, q7⟩ := (g_box8f ((hk.block B (lt_of_heap HZ12.out) (fun e => by have e' : B = B + 1 := e; omega)).trans HZ12.out)).1
    obtain ⟨p0, p1, p2, p3, p4, p5, p6, p7⟩ := (g_box8f ((hk.block M (lt_of_heap HMM.out) (fun e => by have e' : M = B + 1 := e; have := HMB.out; omega)).trans HMM.out)).1
    exact ⟨q0, q1, q2, q3, q4, q5, q6, q7, p0, p1, p2, p3, p4, p5, p6, p7⟩)
  go_region_held3 (fun w' => (w'.cell? ⟨B, 0, none⟩ = some (.string x) ∧ w'.cell? ⟨B, 1, none⟩ = some (.slice ah nh ch) ∧ w'.cell? ⟨B, 2, none⟩ = some (.int .i64 sk) ∧ w'.cell? ⟨B, 3, none⟩ = some (.int .i64 nw) ∧ w'.cell? ⟨B, 4, none⟩ = some (.int .i64 am) ∧ w'.cell? ⟨B, 5, none⟩ = some (.slice aa na ca) ∧ w'.cell? ⟨B, 6, none⟩ = some (.int .i64 rm) ∧ w'.cell? ⟨B, 7, none⟩ = some (.slice ar nr cr) ∧ w'.cell? ⟨M, 0, none⟩ = some (.string x) ∧ w'.cell? ⟨M, 1, none⟩ = some (.slice h1 nh e1) ∧ w'.cell? ⟨M, 2, none⟩ = some (.int .i64 sk) ∧ w'.cell? ⟨M, 3, none⟩ = some (.int .i64 L) ∧ w'.cell? ⟨M, 4, none⟩ = some (.int .i64 am) ∧ w'.cell? ⟨M, 5, none⟩ = some (.slice h2 sa.length e2) ∧ w'.cell? ⟨M, 6, none⟩ = some (.int .i64 rm) ∧ w'.cell? ⟨M, 7, none⟩ = some (.slice h3 sr.length e3))) (first | with_reducible exact HSX.out _ HBc.out | with_reducible exact HSX.out _ (HBc.out.trans (keep8 _ _ _ _ _ _ _ _ _ _)))
    ((go_at_call 27; with_reducible refine (CS.out _ _ _ _ _ _ _ _ _ _ _ _ _ _ _ _ _ _).mono ?_; rintro e w3 ⟨rfl, hb3⟩; replace HBb := hid (bb HBb.out hb3); replace HBc := hid (u_KeepB.of_below (fun b => b = B + 1) HBb.out); have HZ3 := hid (u_blk_below HZ2.out HBb.out); obtain ⟨⟨k0, k1, k2, k3, k4, k5, k6, k7⟩, kf⟩ := g_box8f HZ3.out; have kf0 := kf 0; have kf1 := kf 1; have kf2 := kf 2; have kf3 := kf 3; have kf4 := kf 4; have kf5 := kf 5; have kf6 := kf 6; have kf7 := kf 7; clear kf; clear hb3))
  go_wp2_with fail
  refine bodyPost_ret (v := .tuple #[.agg #[.string x, .slice h1 nh e1, .int .i64 sk, .int .i64 L, .int .i64 am, .slice h2 sa.length e2, .int .i64 rm, .slice h3 sr.length e3], .bool true]) (by simp [results, Tryz.results7, go_sem, k0, k1, k2, k3, k4, k5, k6, k7]) rfl ⟨h1, e1, h2, e2, h3, e3, rfl, ?_, ?_⟩
  · refine (HOWN.out _ _ _ _ _ (HSB.out _ _ _ _ _ _ (HSB.out _ _ _ _ _ _ HO1.out HB2.out) HBb.out) (B + 1) (lt_of_heap HM2.out) _ _ _ _ _ _ _ _).mono ?_
    exact HB0.out.size
  · iterate 8 refine Below.setCell ?_ (show w.heap.size ≤ B + 1 by omega) _
    exact bb HBi.out (bb HB2.out HBb.out)

set_option maxHeartbeats 1000000 in
theorem cTickedI (g : Gt) (ah : Option Addr) (ch : Nat) (aa : Option Addr) (ca : Nat) (ar : Option Addr) (cr : Nat) (d : Int) (a0 a1 : Addr) (w : World) (hS : SenAt a0 a1 w) (hR : GtRow w g ah aa ar) (hz : GtSz 1048576 g) :
    Calls Tryz.prog 7 #[gtV g ah ch aa ca ar cr, .int .i64 d] w fun e w' => ∃ ah' ch' aa' ca' ar' cr', e = .returned (.tuple #[gtV (tickG g d).1 ah' ch' aa' ca' ar' cr', .bool (tickG g d).2]) ∧ GtOwn w' w.heap.size (tickG g d).1 ah' aa' ar' ∧ Below w.heap.size w w' := by
  cases hg : gateB g with
  | false =>
    rw [tickG_bad hg]
    refine (cTickedBad g ah ch aa ca ar cr d a0 a1 w hS hR hz hg).mono ?_
    rintro e w' ⟨rfl, hb⟩
    exact ⟨none, 0, none, 0, none, 0, rfl, ⟨OwnHd.nil _ _ _, OwnRo.nil _ _ _, OwnRo.nil _ _ _, fun h => absurd h (Nat.lt_irrefl 0)⟩, hb⟩
  | true =>
    by_cases hd : 0 ≤ d ∧ d ≤ 3155759999
    · rw [tickG_yes hg hd]
      exact cTickedLate g ah ch aa ca ar cr d a0 a1 w hS hR hz hg hd
    · rw [tickG_no hg hd]
      exact cTickedOld g ah ch aa ca ar cr d a0 a1 w hS hR hz hg hd

end Go.Proofs.YtgdfeicojgnoaaaGreatDoor

namespace Go.Proofs.YtgdfeicojgnoaaaGreatDoor
open Go.RowKit
set_option linter.unusedVariables false
set_option linter.unusedSimpArgs false

theorem own_gate {w1 w' : World} {B0 B1 B2 P : Nat} {g : Gt} {n : Int} {ah : Option Addr} {va vr : Value} (hH : OwnHd w' B0 ah g.hands)
    (h1 : w1.ownsRow B1 83 2 va (sweepR g.ask.rows n).length (roC (sweepR g.ask.rows n))) (hk : u_KeepB (fun b => b = P) w1 w') (hP : P < B1) (hs : w1.heap.size ≤ B2)
    (h2 : w'.ownsRow B2 83 2 vr (sweepR g.hrd.rows n).length (roC (sweepR g.hrd.rows n))) (hB : B0 ≤ B1) (hB2 : B0 ≤ B2) :
    ∃ a c b d, va = .slice a (sweepR g.ask.rows n).length c ∧ vr = .slice b (sweepR g.hrd.rows n).length d ∧ GtOwn w' B0 (lateG g n) ah a b := by
  obtain ⟨a, c, rfl, o1⟩ := own_ro h1 rfl
  obtain ⟨b, d, rfl, o2⟩ := own_ro h2 rfl
  exact ⟨a, c, b, d, rfl, rfl, hH, (o1.keep hk (fun k e => by rw [e]; exact hP)).mono hB, o2.mono hB2, apart_of o1 hs o2⟩

set_option maxRecDepth 8000 in
set_option maxHeartbeats 8000000 in
theorem cTickedS (g : Gt) (ah : Option Addr) (ch : Nat) (aa : Option Addr) (ca : Nat) (ar : Option Addr) (cr : Nat) (d : Int) (w : World) (hR : GtRow w g ah aa ar) (hz : GtSz 1048576 g) :
    Calls Tryz.prog 10 #[gtV g ah ch aa ca ar cr, .int .i64 d] w fun e w' => ∃ ah' ch' aa' ca' ar' cr', e = .returned (.tuple #[gtV (tickG g d).1 ah' ch' aa' ca' ar' cr', .bool (tickG g d).2]) ∧ GtOwn w' w.heap.size (tickG g d).1 ah' aa' ar' ∧ Below w.heap.size w w' := by
  have CO := hid (fun wx (h : Below w.heap.size w wx) => cGateOkS g ah ch aa ca ar cr wx (hR.below h) hz)
  have CC := hid (fun (hg : gateB g = true) wx (h : Below w.heap.size w wx) => cGateCopyS g ah ch aa ca ar cr wx (hR.below h) (gate_rows hg).1 (gate_rows hg).2.1 (gate_rows hg).2.2)
  have HNF := hid (fun (h : gateB g = false) => tickG_bad (d := d) h)
  have HNN := hid (fun (h : gateB g = true) (hd : ¬ (0 ≤ d ∧ d ≤ 3155759999)) => tickG_no h hd)
  have HNT := hid (fun (h : gateB g = true) (hd : 0 ≤ d ∧ d ≤ 3155759999) => tickG_yes h hd)
  have CT := hid (fun (hg : gateB g = true) (hd : 0 ≤ d ∧ d ≤ 3155759999) (P : Nat) (a1 : Option Addr) (c1 : Nat) (a2 : Option Addr) (c2 : Nat) (a3 : Option Addr) (c3 : Nat) (wb wx : World) (Bx : Nat) (hP : wx.heap[P]? = some (gtB g.name (.slice a1 g.hands.length c1) g.skew g.now g.ask.most (.slice a2 g.ask.rows.length c2) g.hrd.most (.slice a3 g.hrd.rows.length c3))) (hb : Below wb.heap.size wb wx) (hPb : wb.heap.size ≤ P) (ho : GtOwn wb Bx g a1 a2 a3) (hBx : Bx ≤ wb.heap.size) =>
    (cTickYes P g.name (.slice a1 g.hands.length c1) g.skew g.now g.ask.most g.hrd.most a2 c2 a3 c3 g.ask.rows g.hrd.rows d wb wx hP hb hPb ho.row.2.1 ho.row.2.2 (gate_rows hg).2.1 (gate_rows hg).2.2 (gate_p hg).2.1 hd).mono (R' := fun e w' => ∃ a' c' b' d', e = .returned (.bool true) ∧ w'.heap[P]? = some (gtB g.name (.slice a1 g.hands.length c1) g.skew (laterOf g.now d) g.ask.most (.slice a' (sweepR g.ask.rows (laterOf g.now d)).length c') g.hrd.most (.slice b' (sweepR g.hrd.rows (laterOf g.now d)).length d')) ∧ GtOwn w' Bx (lateG g (laterOf g.now d)) a1 a' b' ∧ Below wb.heap.size wb w') (fun e w' h => by
      obtain ⟨va, vr, e1, h1, h2, h3, B1, B2, w1, q1, hs1, q2, q3, q4, q5, q6⟩ := h
      obtain ⟨a', c', b', d', rfl, rfl, ho'⟩ := own_gate (g := g) (n := laterOf g.now d) (ho.1.below h2) q2 q3 q5 q4 q6 (Nat.le_trans hBx (Nat.le_trans hb.size q1)) (Nat.le_trans hBx (Nat.le_trans hb.size (Nat.le_trans hs1 q4)))
      exact ⟨a', c', b', d', e1, h1, ho', h2⟩))
  clear hR hz
  obtain ⟨N0, hN0⟩ : ∃ N, tickG g d = N := ⟨_, rfl⟩
  rw [hN0]
  simp only [hN0] at HNF HNN HNT
  clear hN0
  have HGV := hid (show ∀ a1 c1 a2 c2 a3 c3, gtV g a1 c1 a2 c2 a3 c3 = .agg #[.string g.name, .slice a1 g.hands.length c1, .int .i64 g.skew, .int .i64 g.now, .int .i64 g.ask.most, .slice a2 g.ask.rows.length c2, .int .i64 g.hrd.most, .slice a3 g.hrd.rows.length c3] from fun a1 c1 a2 c2 a3 c3 => rfl)
  have HGL := hid (show ∀ a1 c1 a2 c2 a3 c3, gtV (lateG g (laterOf g.now d)) a1 c1 a2 c2 a3 c3 = .agg #[.string g.name, .slice a1 g.hands.length c1, .int .i64 g.skew, .int .i64 (laterOf g.now d), .int .i64 g.ask.most, .slice a2 (sweepR g.ask.rows (laterOf g.now d)).length c2, .int .i64 g.hrd.most, .slice a3 (sweepR g.hrd.rows (laterOf g.now d)).length c3] from fun a1 c1 a2 c2 a3 c3 => rfl)
  rw [HGV.out] at CO ⊢
  simp only [HGV.out] at CC
  obtain ⟨V, hV⟩ : ∃ V, gateB g = V := ⟨_, rfl⟩
  rw [hV] at CO CC HNF HNN HNT CT
  clear hV
  have HL0 := hid (show ∀ wx, GtOwn wx w.heap.size zeroG none none none from fun wx => ⟨OwnHd.nil _ _ _, OwnRo.nil _ _ _, OwnRo.nil _ _ _, fun h => absurd h (Nat.lt_irrefl 0)⟩)
  generalize g.name = x at *
  generalize g.skew = sk at *
  generalize g.now = nw at *
  generalize g.ask.most = am at *
  generalize g.hrd.most = rm at *
  generalize g.hands.length = nh at *
  generalize g.ask.rows = la at *
  generalize g.hrd.rows = lr at *
  generalize la.length = na at *
  generalize lr.length = nr at *
  generalize laterOf nw d = L at *
  generalize (sweepR la L).length = ma at *
  generalize (sweepR lr L).length = mr at *
  obtain ⟨b1, b2⟩ := u_heap2 w (.cells #[.string x, .slice ah nh ch, .int .i64 sk, .int .i64 nw, .int .i64 am, .slice aa na ca, .int .i64 rm, .slice ar nr cr] 29) (.cells #[.string ⟨#[]⟩, .slice none 0 0, .int .i64 0, .int .i64 0, .int .i64 0, .slice none 0 0, .int .i64 0, .slice none 0 0] 29)
  have HB0 := hid (((Below.refl w.heap.size w).alloc (Nat.le_refl _) (.cells #[.string x, .slice ah nh ch, .int .i64 sk, .int .i64 nw, .int .i64 am, .slice aa na ca, .int .i64 rm, .slice ar nr cr] 29)).alloc (by simp) (.cells #[.string ⟨#[]⟩, .slice none 0 0, .int .i64 0, .int .i64 0, .int .i64 0, .slice none 0 0, .int .i64 0, .slice none 0 0] 29))
  obtain ⟨W0, hW0⟩ : ∃ W0, (w.alloc (.cells #[.string x, .slice ah nh ch, .int .i64 sk, .int .i64 nw, .int .i64 am, .slice aa na ca, .int .i64 rm, .slice ar nr cr] 29)).alloc (.cells #[.string ⟨#[]⟩, .slice none 0 0, .int .i64 0, .int .i64 0, .int .i64 0, .slice none 0 0, .int .i64 0, .slice none 0 0] 29) = W0 := ⟨_, rfl⟩
  rw [hW0] at b1 b2 HB0
  obtain ⟨B, hB⟩ : ∃ B, w.heap.size = B := ⟨_, rfl⟩
  have HBE := hid hB
  rw [hB] at b1 b2
  have HM1 := hid b1
  have HM2 := hid b2
  clear b1 b2
  have HLT := hid (show B + 1 < W0.heap.size from lt_of_heap HM2.out)
  obtain ⟨⟨f0, f1, f2, f3, f4, f5, f6, f7⟩, _⟩ := g_box8f HM1.out
  go_enter Tryz.func10, Tryz.ntmps10
  go_wp2_with fail
  refine (CO.out _ HB0.out).mono ?_
  rintro e w1 ⟨rfl, hb1⟩
  have HBf := hid (bb HB0.out hb1)
  have HZ := hid (u_blk_below HM2.out hb1)
  have HZ1 := hid (u_blk_below HM1.out hb1)
  clear hb1 CO f0 f1 f2 f3 f4 f5 f6 f7 hW0
  cases V with
  | false =>
    have HE := hid (HNF.out rfl)
    clear CC CT HNF HNN HNT
    obtain ⟨⟨k0, k1, k2, k3, k4, k5, k6, k7⟩, kf⟩ := g_box8f HZ.out
    have kf0 := kf 0
    have kf1 := kf 1
    have kf2 := kf 2
    have kf3 := kf 3
    have kf4 := kf 4
    have kf5 := kf 5
    have kf6 := kf 6
    have kf7 := kf 7
    clear kf
    go_wp2_with fail
    refine bodyPost_ret (v := .tuple #[.agg #[.string ⟨#[]⟩, .slice none 0 0, .int .i64 0, .int .i64 0, .int .i64 0, .slice none 0 0, .int .i64 0, .slice none 0 0], .bool false]) (by simp [results, Tryz.results10, go_sem, k0, k1, k2, k3, k4, k5, k6, k7]) rfl ⟨none, 0, none, 0, none, 0, by rw [HE.out]; rfl, by rw [HE.out]; exact HL0.out _, ?_⟩
    iterate 8 refine Below.setCell ?_ (show w.heap.size ≤ B + 1 by omega) _
    exact HBf.out
  | true =>
    have C2 := hid (CC.out rfl)
    have CT2 := hid (CT.out rfl)
    have HNN2 := hid (HNN.out rfl)
    have HNT2 := hid (HNT.out rfl)
    clear CC CT HNF HNN HNT
    obtain ⟨⟨f0, f1, f2, f3, f4, f5, f6, f7⟩, _⟩ := g_box8f HZ1.out
    go_wp2_with fail
    clear f0 f1 f2 f3 f4 f5 f6 f7
    refine (C2.out _ HBf.out).mono ?_
    rintro e w4 ⟨a1, c1, a2, c2, a3, c3, rfl, ho, hb4⟩
    have HBg := hid (bb HBf.out hb4)
    have HZg := hid (u_blk_below HZ.out hb4)
    have HO := hid ho
    have HS4 := hid hb4.size
    have HRg := hid (show B + 1 < w1.heap.size from lt_of_heap HZ.out)
    clear ho hb4 C2 HBf HZ HZ1
    have HX := hid ((Below.refl w4.heap.size w4).alloc (Nat.le_refl _) (.cells #[.string x, .slice a1 nh c1, .int .i64 sk, .int .i64 nw, .int .i64 am, .slice a2 na c2, .int .i64 rm, .slice a3 nr c3] 29))
    have HN5 := hid (show (w4.alloc (.cells #[.string x, .slice a1 nh c1, .int .i64 sk, .int .i64 nw, .int .i64 am, .slice a2 na c2, .int .i64 rm, .slice a3 nr c3] 29)).heap[w4.heap.size]? = some (gtB x (.slice a1 nh c1) sk nw am (.slice a2 na c2) rm (.slice a3 nr c3)) from heap_alloc_new w4 _)
    obtain ⟨w5, hw5⟩ : ∃ w5, w4.alloc (.cells #[.string x, .slice a1 nh c1, .int .i64 sk, .int .i64 nw, .int .i64 am, .slice a2 na c2, .int .i64 rm, .slice a3 nr c3] 29) = w5 := ⟨_, rfl⟩
    rw [hw5] at HX HN5
    have HZ4 := hid HZg.out
    have HB4 := hid HBg.out
    have HZ5 := hid (u_blk_below HZg.out HX.out)
    have HB5 := hid (bb HBg.out HX.out)
    have HO5 := hid (HO.out.below HX.out)
    obtain ⟨P, hPP⟩ : ∃ P, w4.heap.size = P := ⟨_, rfl⟩
    have HPE := hid hPP
    rw [hPP] at HN5
    have HW5 := hid hw5
    clear hw5 HBg HZg
    go_upto_region 4 with fail
    rw [HW5.out]
    clear HW5 hPP
    by_cases hd : 0 ≤ d ∧ d ≤ 3155759999
    case neg =>
      have HE := hid (HNN2.out hd)
      have CN := hid (fun wx => cTickNo P d wx hd)
      clear CT2 HNN2 HNT2 hd
      obtain ⟨⟨k0, k1, k2, k3, k4, k5, k6, k7⟩, kf⟩ := g_box8f HZ5.out
      have kf0 := kf 0
      have kf1 := kf 1
      have kf2 := kf 2
      have kf3 := kf 3
      have kf4 := kf 4
      have kf5 := kf 5
      have kf6 := kf 6
      have kf7 := kf 7
      clear kf
      obtain ⟨⟨f0, f1, f2, f3, f4, f5, f6, f7⟩, _⟩ := g_box8f HN5.out
      go_wp2_with fail
      refine (CN.out _).mono ?_
      rintro e w6 ⟨rfl, hw6⟩
      obtain rfl := hw6.symm
      go_wp2_with fail
      refine bodyPost_ret (v := .tuple #[.agg #[.string x, .slice a1 nh c1, .int .i64 sk, .int .i64 nw, .int .i64 am, .slice a2 na c2, .int .i64 rm, .slice a3 nr c3], .bool false]) (by simp [results, Tryz.results10, go_sem, k0, k1, k2, k3, k4, k5, k6, k7]) rfl ⟨a1, c1, a2, c2, a3, c3, by rw [HE.out]; simp only [HGV.out], ?_, ?_⟩
      · rw [HE.out]
        exact (own_set8 HO5.out HRg.out _ _ _ _ _ _ _ _).mono (by have := HRg.out; omega)
      · iterate 8 refine Below.setCell ?_ (show w.heap.size ≤ B + 1 by omega) _
        exact HB5.out
    case pos =>
      have HE := hid (HNT2.out hd)
      have CY := hid (CT2.out hd P a1 c1 a2 c2 a3 c3 w4 w5 w1.heap.size HN5.out HX.out (Nat.le_of_eq HPE.out) HO.out HS4.out)
      clear CT2 HNN2 HNT2 hd
      obtain ⟨⟨f0, f1, f2, f3, f4, f5, f6, f7⟩, _⟩ := g_box8f HN5.out
      go_wp2_with fail
      refine CY.out.mono ?_
      rintro e w6 ⟨a5, c5, a6, c6, rfl, hP6, ho6, hb6⟩
      have HP6 := hid hP6
      have HO6 := hid ho6
      have HZ6 := hid ((hb6.block (B + 1) (Nat.lt_of_lt_of_le HRg.out HS4.out)).trans HZ4.out)
      have HB6 := hid (bb HB4.out hb6)
      clear hP6 ho6 hb6 f0 f1 f2 f3 f4 f5 f6 f7
      obtain ⟨⟨k0, k1, k2, k3, k4, k5, k6, k7⟩, kf⟩ := g_box8f HZ6.out
      have kf0 := kf 0
      have kf1 := kf 1
      have kf2 := kf 2
      have kf3 := kf 3
      have kf4 := kf 4
      have kf5 := kf 5
      have kf6 := kf 6
      have kf7 := kf 7
      clear kf
      obtain ⟨⟨f0, f1, f2, f3, f4, f5, f6, f7⟩, _⟩ := g_box8f HP6.out
      go_wp2_with fail
      refine bodyPost_ret (v := .tuple #[.agg #[.string x, .slice a1 nh c1, .int .i64 sk, .int .i64 L, .int .i64 am, .slice a5 ma c5, .int .i64 rm, .slice a6 mr c6], .bool true]) (by simp [results, Tryz.results10, go_sem, k0, k1, k2, k3, k4, k5, k6, k7]) rfl ⟨a1, c1, a5, c5, a6, c6, by rw [HE.out]; simp only [HGL.out], ?_, ?_⟩
      · rw [HE.out]
        exact (own_set8 HO6.out HRg.out _ _ _ _ _ _ _ _).mono (by have := HRg.out; omega)
      · iterate 8 refine Below.setCell ?_ (show w.heap.size ≤ B + 1 by omega) _
        exact HB6.out

end Go.Proofs.YtgdfeicojgnoaaaGreatDoor
