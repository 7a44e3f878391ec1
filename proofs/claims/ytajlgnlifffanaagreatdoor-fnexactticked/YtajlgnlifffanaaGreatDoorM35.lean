/- The program's Ticked. From a row's listed sentinels to what the walks ask. -/
import Derived.Test.YtajlgnlifffanaaGreatDoorM34
import Derived.Test.YtajlgnlifffanaaGreatDoorRows
import Derived.Test.YtajlgnlifffanaaGreatDoorM27
import Derived.Stop.LaidTwo
import Derived.MakeChecks
namespace Go.Proofs.YtajlgnlifffanaaGreatDoor
open Go.RowKit
set_option linter.unusedVariables false
set_option linter.unusedSimpArgs false

set_option maxRecDepth 8000 in
set_option maxHeartbeats 16000000 in
theorem cTickedBad (g : Gt) (ah : Option Addr) (ch : Nat) (aa : Option Addr) (ca : Nat) (ar : Option Addr) (cr : Nat) (d : Int) (a0 a1 : Addr) (w : World) (hS : SenAt a0 a1 w) (hR : GtRow w g ah aa ar) (hz : GtSz 1048576 g) (hg : gateB g = false) :
    Calls Tryz.prog 7 #[gtV g ah ch aa ca ar cr, .int .i64 d] w fun e w' => e = .returned (.tuple #[.agg #[.string ⟨#[]⟩, .slice none 0 0, .int .i64 0, .int .i64 0, .int .i64 0, .slice none 0 0, .int .i64 0, .slice none 0 0], .bool false]) ∧ Below w.heap.size w w' := by
  have CL := hid (fun wx (h : Below w.heap.size w wx) => cLaterBad g ah ch aa ca ar cr d a0 a1 wx (hS.below h) (hR.below h) hz hg)
  have HSN := hid hS
  have CS := hid (fun (x : ByteArray) (nh : Nat) (sk nw am : Int) (na : Nat) (rm : Int) (nr : Nat) wx (h : SenAt a0 a1 wx) => cSettledBad x ah nh ch sk nw am aa na ca rm ar nr cr ⟨#[]⟩ none 0 0 0 0 0 none 0 0 0 none 0 0 a0 a1 wx h)
  unfold gtV at CL
  unfold erV at CL CS
  rw [show gtV g ah ch aa ca ar cr = .agg #[.string g.name, .slice ah g.hands.length ch, .int .i64 g.skew, .int .i64 g.now, .int .i64 g.ask.most, .slice aa g.ask.rows.length ca, .int .i64 g.hrd.most, .slice ar g.hrd.rows.length cr] from rfl]
  clear hR hz hS
  generalize g.name = x at *
  generalize g.skew = sk at *
  generalize g.now = nw at *
  generalize g.ask.most = am at *
  generalize g.hrd.most = rm at *
  generalize g.hands.length = nh at *
  generalize g.ask.rows.length = na at *
  generalize g.hrd.rows.length = nr at *
  obtain ⟨b1, b2⟩ := u_heap2 w (.cells #[.string x, .slice ah nh ch, .int .i64 sk, .int .i64 nw, .int .i64 am, .slice aa na ca, .int .i64 rm, .slice ar nr cr] 29) (.cells #[.string ⟨#[]⟩, .slice none 0 0, .int .i64 0, .int .i64 0, .int .i64 0, .slice none 0 0, .int .i64 0, .slice none 0 0] 29)
  have HB0 := hid (((Below.refl w.heap.size w).alloc (Nat.le_refl _) (.cells #[.string x, .slice ah nh ch, .int .i64 sk, .int .i64 nw, .int .i64 am, .slice aa na ca, .int .i64 rm, .slice ar nr cr] 29)).alloc (by simp) (.cells #[.string ⟨#[]⟩, .slice none 0 0, .int .i64 0, .int .i64 0, .int .i64 0, .slice none 0 0, .int .i64 0, .slice none 0 0] 29))
  obtain ⟨W0, hW0⟩ : ∃ W0, (w.alloc (.cells #[.string x, .slice ah nh ch, .int .i64 sk, .int .i64 nw, .int .i64 am, .slice aa na ca, .int .i64 rm, .slice ar nr cr] 29)).alloc (.cells #[.string ⟨#[]⟩, .slice none 0 0, .int .i64 0, .int .i64 0, .int .i64 0, .slice none 0 0, .int .i64 0, .slice none 0 0] 29) = W0 := ⟨_, rfl⟩
  rw [hW0] at b1 b2 HB0
  obtain ⟨B, hB⟩ : ∃ B, w.heap.size = B := ⟨_, rfl⟩
  have HBE := hid hB
  rw [hB] at b1 b2
  have HM1 := hid b1
  have HM2 := hid b2
  clear b1 b2
  obtain ⟨⟨f0, f1, f2, f3, f4, f5, f6, f7⟩, ff⟩ := g_box8f HM1.out
  clear ff

  go_enter Tryz.func7, Tryz.ntmps7
  go_wp2_with fail
  refine (CL.out _ HB0.out).mono ?_
  rintro e w1 ⟨rfl, hb1⟩
  have HBi := hid (bb HB0.out hb1)
  have HZ := hid (u_blk_below HM2.out hb1)
  have HZ1 := hid (u_blk_below HM1.out hb1)
  have HLT := hid (show B + 1 < w1.heap.size from lt_of_heap HZ.out)
  clear hb1 CL f0 f1 f2 f3 f4 f5 f6 f7 hW0
  go_upto_region 2 with fail
  have HB2 := hid ((Below.refl w1.heap.size w1).alloc (Nat.le_refl _) (.cells #[.string ⟨#[]⟩, .slice none 0 0, .int .i64 0, .int .i64 0, .int .i64 0, .slice none 0 0, .int .i64 0, .slice none 0 0] 29))
  have HMM := hid (heap_alloc_new w1 (.cells #[.string ⟨#[]⟩, .slice none 0 0, .int .i64 0, .int .i64 0, .int .i64 0, .slice none 0 0, .int .i64 0, .slice none 0 0] 29))
  obtain ⟨w2, hw2⟩ : ∃ w2, w1.alloc (.cells #[.string ⟨#[]⟩, .slice none 0 0, .int .i64 0, .int .i64 0, .int .i64 0, .slice none 0 0, .int .i64 0, .slice none 0 0] 29) = w2 := ⟨_, rfl⟩
  rw [hw2] at HB2 HMM ⊢
  clear hw2
  obtain ⟨M, hM⟩ : ∃ M, w1.heap.size = M := ⟨_, rfl⟩
  have HME := hid hM
  rw [hM] at HMM ⊢
  clear hM
  have HMB := hid (show B + 1 < M from HME.out ▸ HLT.out)
  have HZ2 := hid (u_blk_below HZ.out HB2.out)
  have HZ12 := hid (u_blk_below HZ1.out HB2.out)
  have HBc := hid (u_KeepB.of_below (fun b => b = B + 1) ((Below.refl w2.heap.size w2).drew))
  have HBb := hid ((Below.refl w2.heap.size w2).drew)
  have HSX := hid (show ∀ w', u_KeepB (fun b => b = B + 1) w2 w' → (w'.cell? ⟨B, 0, none⟩ = some (.string x) ∧ w'.cell? ⟨B, 1, none⟩ = some (.slice ah nh ch) ∧ w'.cell? ⟨B, 2, none⟩ = some (.int .i64 sk) ∧ w'.cell? ⟨B, 3, none⟩ = some (.int .i64 nw) ∧ w'.cell? ⟨B, 4, none⟩ = some (.int .i64 am) ∧ w'.cell? ⟨B, 5, none⟩ = some (.slice aa na ca) ∧ w'.cell? ⟨B, 6, none⟩ = some (.int .i64 rm) ∧ w'.cell? ⟨B, 7, none⟩ = some (.slice ar nr cr) ∧ w'.cell? ⟨M, 0, none⟩ = some (.string ⟨#[]⟩) ∧ w'.cell? ⟨M, 1, none⟩ = some (.slice none 0 0) ∧ w'.cell? ⟨M, 2, none⟩ = some (.int .i64 0) ∧ w'.cell? ⟨M, 3, none⟩ = some (.int .i64 0) ∧ w'.cell? ⟨M, 4, none⟩ = some (.int .i64 0) ∧ w'.cell? ⟨M, 5, none⟩ = some (.slice none 0 0) ∧ w'.cell? ⟨M, 6, none⟩ = some (.int .i64 0) ∧ w'.cell? ⟨M, 7, none⟩ = some (.slice none 0 0)) from fun w' hk => by
    obtain ⟨q0, q1, q2, q3, q4, q5, q6, q7⟩ := (g_box8f ((hk.block B (lt_of_heap HZ12.out) (fun e => by have e' : B = B + 1 := e; omega)).trans HZ12.out)).1
    obtain ⟨p0, p1, p2, p3, p4, p5, p6, p7⟩ := (g_box8f ((hk.block M (lt_of_heap HMM.out) (fun e => by have e' : M = B + 1 := e; have := HMB.out; omega)).trans HMM.out)).1
    exact ⟨q0, q1, q2, q3, q4, q5, q6, q7, p0, p1, p2, p3, p4, p5, p6, p7⟩)
  go_region_held3 (fun w' => (w'.cell? ⟨B, 0, none⟩ = some (.string x) ∧ w'.cell? ⟨B, 1, none⟩ = some (.slice ah nh ch) ∧ w'.cell? ⟨B, 2, none⟩ = some (.int .i64 sk) ∧ w'.cell? ⟨B, 3, none⟩ = some (.int .i64 nw) ∧ w'.cell? ⟨B, 4, none⟩ = some (.int .i64 am) ∧ w'.cell? ⟨B, 5, none⟩ = some (.slice aa na ca) ∧ w'.cell? ⟨B, 6, none⟩ = some (.int .i64 rm) ∧ w'.cell? ⟨B, 7, none⟩ = some (.slice ar nr cr) ∧ w'.cell? ⟨M, 0, none⟩ = some (.string ⟨#[]⟩) ∧ w'.cell? ⟨M, 1, none⟩ = some (.slice none 0 0) ∧ w'.cell? ⟨M, 2, none⟩ = some (.int .i64 0) ∧ w'.cell? ⟨M, 3, none⟩ = some (.int .i64 0) ∧ w'.cell? ⟨M, 4, none⟩ = some (.int .i64 0) ∧ w'.cell? ⟨M, 5, none⟩ = some (.slice none 0 0) ∧ w'.cell? ⟨M, 6, none⟩ = some (.int .i64 0) ∧ w'.cell? ⟨M, 7, none⟩ = some (.slice none 0 0))) (first | with_reducible exact HSX.out _ HBc.out | with_reducible exact HSX.out _ (HBc.out.trans (keep8 _ _ _ _ _ _ _ _ _ _)))
    ((go_at_call 27; with_reducible refine (CS.out _ _ _ _ _ _ _ _ _ (HSN.out.below (bb HBi.out (bb HB2.out HBb.out)))).mono ?_; rintro e w3 ⟨rfl, hb3⟩; replace HBb := hid (bb HBb.out hb3); replace HBc := hid (u_KeepB.of_below (fun b => b = B + 1) HBb.out); have HZ3 := hid (u_blk_below HZ2.out HBb.out); obtain ⟨⟨k0, k1, k2, k3, k4, k5, k6, k7⟩, kf⟩ := g_box8f HZ3.out; have kf0 := kf 0; have kf1 := kf 1; have kf2 := kf 2; have kf3 := kf 3; have kf4 := kf 4; have kf5 := kf 5; have kf6 := kf 6; have kf7 := kf 7; clear kf; clear hb3))
  go_wp2_with fail
  refine bodyPost_ret (v := .tuple #[.agg #[.string ⟨#[]⟩, .slice none 0 0, .int .i64 0, .int .i64 0, .int .i64 0, .slice none 0 0, .int .i64 0, .slice none 0 0], .bool false]) (by simp [results, Tryz.results7, go_sem, k0, k1, k2, k3, k4, k5, k6, k7]) rfl ⟨rfl, ?_⟩
  · iterate 8 refine Below.setCell ?_ (show w.heap.size ≤ B + 1 by omega) _
    exact bb HBi.out (bb HB2.out HBb.out)

set_option maxRecDepth 8000 in
set_option maxHeartbeats 16000000 in
theorem cTickedOld (g : Gt) (ah : Option Addr) (ch : Nat) (aa : Option Addr) (ca : Nat) (ar : Option Addr) (cr : Nat) (d : Int) (a0 a1 : Addr) (w : World) (hS : SenAt a0 a1 w) (hR : GtRow w g ah aa ar) (hz : GtSz 1048576 g) (hg : gateB g = true) (hd : ¬ (0 ≤ d ∧ d ≤ 3155759999)) :
    Calls Tryz.prog 7 #[gtV g ah ch aa ca ar cr, .int .i64 d] w fun e w' => ∃ ah' ch' aa' ca' ar' cr', e = .returned (.tuple #[gtV g ah' ch' aa' ca' ar' cr', .bool false]) ∧ GtOwn w' w.heap.size g ah' aa' ar' ∧ Below w.heap.size w w' := by
  have CL := hid (fun wx (h : Below w.heap.size w wx) => show Calls Tryz.prog 26 #[gtV g ah ch aa ca ar cr, .int .i64 d] wx fun e w' => e = .returned (.tuple #[.agg #[.string ⟨#[]⟩, .slice none 0 0, .int .i64 0, .int .i64 0, .int .i64 0, .slice none 0 0, .int .i64 0, .slice none 0 0], erV (.base a1)]) ∧ Below wx.heap.size wx w' from by
    by_cases h0 : d < 0
    · exact cLaterNoNeg g ah ch aa ca ar cr d a0 a1 wx (hS.below h) (hR.below h) hz hg h0
    · exact cLaterNoFar g ah ch aa ca ar cr d a0 a1 wx (hS.below h) (hR.below h) hz hg (by omega) (by omega))
  have HSN := hid hS
  have CS := hid (fun wx (h : Below w.heap.size w wx) => cSettledOld g ah ch aa ca ar cr ⟨#[]⟩ none 0 0 0 0 0 none 0 0 0 none 0 0 a0 a1 wx (hS.below h) (hR.below h) hz (gate_rows hg).1 (gate_rows hg).2.1 (gate_rows hg).2.2)
  have HGV := hid (show ∀ a1 c1 a2 c2 a3 c3, gtV g a1 c1 a2 c2 a3 c3 = .agg #[.string g.name, .slice a1 g.hands.length c1, .int .i64 g.skew, .int .i64 g.now, .int .i64 g.ask.most, .slice a2 g.ask.rows.length c2, .int .i64 g.hrd.most, .slice a3 g.hrd.rows.length c3] from fun a1 c1 a2 c2 a3 c3 => rfl)
  have HOWN := hid (fun (wx : World) (Bx : Nat) (a b c : Option Addr) (h : GtOwn wx Bx g a b c) (R : Nat) (hR : R < Bx) => own_set8 h hR)
  unfold gtV at CL CS
  unfold erV at CL CS
  simp only [HGV.out]
  clear hR hz hS
  generalize g.name = x at *
  generalize g.skew = sk at *
  generalize g.now = nw at *
  generalize g.ask.most = am at *
  generalize g.hrd.most = rm at *
  generalize g.hands.length = nh at *
  generalize g.ask.rows.length = na at *
  generalize g.hrd.rows.length = nr at *
  obtain ⟨b1, b2⟩ := u_heap2 w (.cells #[.string x, .slice ah nh ch, .int .i64 sk, .int .i64 nw, .int .i64 am, .slice aa na ca, .int .i64 rm, .slice ar nr cr] 29) (.cells #[.string ⟨#[]⟩, .slice none 0 0, .int .i64 0, .int .i64 0, .int .i64 0, .slice none 0 0, .int .i64 0, .slice none 0 0] 29)
  have HB0 := hid (((Below.refl w.heap.size w).alloc (Nat.le_refl _) (.cells #[.string x, .slice ah nh ch, .int .i64 sk, .int .i64 nw, .int .i64 am, .slice aa na ca, .int .i64 rm, .slice ar nr cr] 29)).alloc (by simp) (.cells #[.string ⟨#[]⟩, .slice none 0 0, .int .i64 0, .int .i64 0, .int .i64 0, .slice none 0 0, .int .i64 0, .slice none 0 0] 29))
  obtain ⟨W0, hW0⟩ : ∃ W0, (w.alloc (.cells #[.string x, .slice ah nh ch, .int .i64 sk, .int .i64 nw, .int .i64 am, .slice aa na ca, .int .i64 rm, .slice ar nr cr] 29)).alloc (.cells #[.string ⟨#[]⟩, .slice none 0 0, .int .i64 0, .int .i64 0, .int .i64 0, .slice none 0 0, .int .i64 0, .slice none 0 0] 29) = W0 := ⟨_, rfl⟩
  rw [hW0] at b1 b2 HB0
  obtain ⟨B, hB⟩ : ∃ B, w.heap.size = B := ⟨_, rfl⟩
  have HBE := hid hB
  rw [hB] at b1 b2
  have HM1 := hid b1
  have HM2 := hid b2
  clear b1 b2
  obtain ⟨⟨f0, f1, f2, f3, f4, f5, f6, f7⟩, ff⟩ := g_box8f HM1.out
  clear ff

  go_enter Tryz.func7, Tryz.ntmps7
  go_wp2_with fail
  refine (CL.out _ HB0.out).mono ?_
  rintro e w1 ⟨rfl, hb1⟩
  have HBi := hid (bb HB0.out hb1)
  have HZ := hid (u_blk_below HM2.out hb1)
  have HZ1 := hid (u_blk_below HM1.out hb1)
  have HLT := hid (show B + 1 < w1.heap.size from lt_of_heap HZ.out)
  clear hb1 CL f0 f1 f2 f3 f4 f5 f6 f7 hW0
  go_upto_region 2 with fail
  have HB2 := hid ((Below.refl w1.heap.size w1).alloc (Nat.le_refl _) (.cells #[.string ⟨#[]⟩, .slice none 0 0, .int .i64 0, .int .i64 0, .int .i64 0, .slice none 0 0, .int .i64 0, .slice none 0 0] 29))
  have HMM := hid (heap_alloc_new w1 (.cells #[.string ⟨#[]⟩, .slice none 0 0, .int .i64 0, .int .i64 0, .int .i64 0, .slice none 0 0, .int .i64 0, .slice none 0 0] 29))
  obtain ⟨w2, hw2⟩ : ∃ w2, w1.alloc (.cells #[.string ⟨#[]⟩, .slice none 0 0, .int .i64 0, .int .i64 0, .int .i64 0, .slice none 0 0, .int .i64 0, .slice none 0 0] 29) = w2 := ⟨_, rfl⟩
  rw [hw2] at HB2 HMM ⊢
  clear hw2
  obtain ⟨M, hM⟩ : ∃ M, w1.heap.size = M := ⟨_, rfl⟩
  have HME := hid hM
  rw [hM] at HMM ⊢
  clear hM
  have HMB := hid (show B + 1 < M from HME.out ▸ HLT.out)
  have HZ2 := hid (u_blk_below HZ.out HB2.out)
  have HZ12 := hid (u_blk_below HZ1.out HB2.out)
  have HBc := hid (u_KeepB.of_below (fun b => b = B + 1) ((Below.refl w2.heap.size w2).drew))
  have HBb := hid ((Below.refl w2.heap.size w2).drew)
  have HSX := hid (show ∀ w', u_KeepB (fun b => b = B + 1) w2 w' → (w'.cell? ⟨B, 0, none⟩ = some (.string x) ∧ w'.cell? ⟨B, 1, none⟩ = some (.slice ah nh ch) ∧ w'.cell? ⟨B, 2, none⟩ = some (.int .i64 sk) ∧ w'.cell? ⟨B, 3, none⟩ = some (.int .i64 nw) ∧ w'.cell? ⟨B, 4, none⟩ = some (.int .i64 am) ∧ w'.cell? ⟨B, 5, none⟩ = some (.slice aa na ca) ∧ w'.cell? ⟨B, 6, none⟩ = some (.int .i64 rm) ∧ w'.cell? ⟨B, 7, none⟩ = some (.slice ar nr cr) ∧ w'.cell? ⟨M, 0, none⟩ = some (.string ⟨#[]⟩) ∧ w'.cell? ⟨M, 1, none⟩ = some (.slice none 0 0) ∧ w'.cell? ⟨M, 2, none⟩ = some (.int .i64 0) ∧ w'.cell? ⟨M, 3, none⟩ = some (.int .i64 0) ∧ w'.cell? ⟨M, 4, none⟩ = some (.int .i64 0) ∧ w'.cell? ⟨M, 5, none⟩ = some (.slice none 0 0) ∧ w'.cell? ⟨M, 6, none⟩ = some (.int .i64 0) ∧ w'.cell? ⟨M, 7, none⟩ = some (.slice none 0 0)) from fun w' hk => by
    obtain ⟨q0, q1, q2, q3, q4, q5, q6, q7⟩ := (g_box8f ((hk.block B (lt_of_heap HZ12.out) (fun e => by have e' : B = B + 1 := e; omega)).trans HZ12.out)).1
    obtain ⟨p0, p1, p2, p3, p4, p5, p6, p7⟩ := (g_box8f ((hk.block M (lt_of_heap HMM.out) (fun e => by have e' : M = B + 1 := e; have := HMB.out; omega)).trans HMM.out)).1
    exact ⟨q0, q1, q2, q3, q4, q5, q6, q7, p0, p1, p2, p3, p4, p5, p6, p7⟩)
  go_region_held3 (fun w' => (w'.cell? ⟨B, 0, none⟩ = some (.string x) ∧ w'.cell? ⟨B, 1, none⟩ = some (.slice ah nh ch) ∧ w'.cell? ⟨B, 2, none⟩ = some (.int .i64 sk) ∧ w'.cell? ⟨B, 3, none⟩ = some (.int .i64 nw) ∧ w'.cell? ⟨B, 4, none⟩ = some (.int .i64 am) ∧ w'.cell? ⟨B, 5, none⟩ = some (.slice aa na ca) ∧ w'.cell? ⟨B, 6, none⟩ = some (.int .i64 rm) ∧ w'.cell? ⟨B, 7, none⟩ = some (.slice ar nr cr) ∧ w'.cell? ⟨M, 0, none⟩ = some (.string ⟨#[]⟩) ∧ w'.cell? ⟨M, 1, none⟩ = some (.slice none 0 0) ∧ w'.cell? ⟨M, 2, none⟩ = some (.int .i64 0) ∧ w'.cell? ⟨M, 3, none⟩ = some (.int .i64 0) ∧ w'.cell? ⟨M, 4, none⟩ = some (.int .i64 0) ∧ w'.cell? ⟨M, 5, none⟩ = some (.slice none 0 0) ∧ w'.cell? ⟨M, 6, none⟩ = some (.int .i64 0) ∧ w'.cell? ⟨M, 7, none⟩ = some (.slice none 0 0))) (first | with_reducible exact HSX.out _ HBc.out | with_reducible exact HSX.out _ (HBc.out.trans (keep8 _ _ _ _ _ _ _ _ _ _)))
    ((go_at_call 27; with_reducible refine (CS.out _ (bb HBi.out (bb HB2.out HBb.out))).mono ?_; rintro e w3 ⟨h1, e1, h2, e2, h3, e3, rfl, ho3, hb3⟩; replace HBb := hid (bb HBb.out hb3); replace HBc := hid (u_KeepB.of_below (fun b => b = B + 1) HBb.out); have HZ3 := hid (u_blk_below HZ2.out HBb.out); obtain ⟨⟨k0, k1, k2, k3, k4, k5, k6, k7⟩, kf⟩ := g_box8f HZ3.out; have kf0 := kf 0; have kf1 := kf 1; have kf2 := kf 2; have kf3 := kf 3; have kf4 := kf 4; have kf5 := kf 5; have kf6 := kf 6; have kf7 := kf 7; clear kf; have HO3 := hid ho3; have HP3 := hid HBb.out.size; clear ho3 hb3))
  go_wp2_with fail
  refine bodyPost_ret (v := .tuple #[.agg #[.string x, .slice h1 nh e1, .int .i64 sk, .int .i64 nw, .int .i64 am, .slice h2 na e2, .int .i64 rm, .slice h3 nr e3], .bool false]) (by simp [results, Tryz.results7, go_sem, k0, k1, k2, k3, k4, k5, k6, k7]) rfl ⟨h1, e1, h2, e2, h3, e3, rfl, ?_, ?_⟩
  · refine (HOWN.out _ _ _ _ _ HO3.out (B + 1) (by have := HLT.out; have := HB2.out.size; have := ((Below.refl w2.heap.size w2).drew).size; omega) _ _ _ _ _ _ _ _).mono ?_
    exact (bb HBi.out (bb HB2.out ((Below.refl w2.heap.size w2).drew))).size
  · iterate 8 refine Below.setCell ?_ (show w.heap.size ≤ B + 1 by omega) _
    exact bb HBi.out (bb HB2.out HBb.out)

set_option maxRecDepth 8000 in
set_option maxHeartbeats 16000000 in
theorem cTickedLate (g : Gt) (ah : Option Addr) (ch : Nat) (aa : Option Addr) (ca : Nat) (ar : Option Addr) (cr : Nat) (d : Int) (a0 a1 : Addr) (w : World) (hS : SenAt a0 a1 w) (hR : GtRow w g ah aa ar) (hz : GtSz 1048576 g) (hg : gateB g = true) (hd : 0 ≤ d ∧ d ≤ 3155759999) :
    Calls Tryz.prog 7 #[gtV g ah ch aa ca ar cr, .int .i64 d] w fun e w' => ∃ ah' ch' aa' ca' ar' cr', e = .returned (.tuple #[gtV (lateG g (laterOf g.now d)) ah' ch' aa' ca' ar' cr', .bool true]) ∧ GtOwn w' w.heap.size (lateG g (laterOf g.now d)) ah' aa' ar' ∧ Below w.heap.size w w' := by
  have CL := hid (fun wx (h : Below w.heap.size w wx) => cLaterYes g ah ch aa ca ar cr d wx (hR.below h) hz hg hd)
  have HGL := hid (show ∀ a1 c1 a2 c2 a3 c3, gtV (lateG g (laterOf g.now d)) a1 c1 a2 c2 a3 c3 = .agg #[.string g.name, .slice a1 g.hands.length c1, .int .i64 g.skew, .int .i64 (laterOf g.now d), .int .i64 g.ask.most, .slice a2 (sweepR g.ask.rows (laterOf g.now d)).length c2, .int .i64 g.hrd.most, .slice a3 (sweepR g.hrd.rows (laterOf g.now d)).length c3] from fun a1 c1 a2 c2 a3 c3 => rfl)
  have HOWN := hid (fun (wx : World) (Bx : Nat) (a b c : Option Addr) (h : GtOwn wx Bx (lateG g (laterOf g.now d)) a b c) (R : Nat) (hR : R < Bx) => own_set8 h hR)
  have HSZ := hid (show ∀ wx a b c, GtOwn wx w.heap.size (lateG g (laterOf g.now d)) a b c → True from fun _ _ _ _ _ => trivial)
  have CS := hid (fun (x : ByteArray) (nh : Nat) (sk nw am : Int) (na : Nat) (rm : Int) (nr : Nat) (h1 : Option Addr) (e1 : Nat) (L : Int) (h2 : Option Addr) (n2 e2 : Nat) (h3 : Option Addr) (n3 e3 : Nat) wx => cSettledNil x ah nh ch sk nw am aa na ca rm ar nr cr x h1 nh e1 sk L am h2 n2 e2 rm h3 n3 e3 wx)
  obtain ⟨N, hN⟩ : ∃ N, lateG g (laterOf g.now d) = N := ⟨_, rfl⟩
  rw [hN] at CL HOWN HSZ ⊢
  simp only [hN] at HGL
  have HSB := hid (show ∀ (wx wy : World) (Bx : Nat) (a b c : Option Addr), GtOwn wx Bx N a b c → Below wx.heap.size wx wy → GtOwn wy Bx N a b c from fun wx wy Bx a b c h hb => h.below hb)
  simp only [HGL.out] at CL ⊢
  clear hN hg
  rw [show gtV g ah ch aa ca ar cr = .agg #[.string g.name, .slice ah g.hands.length ch, .int .i64 g.skew, .int .i64 g.now, .int .i64 g.ask.most, .slice aa g.ask.rows.length ca, .int .i64 g.hrd.most, .slice ar g.hrd.rows.length cr] from rfl] at CL
  generalize laterOf g.now d = L at *
  generalize sweepR g.ask.rows L = sa at *
  generalize sweepR g.hrd.rows L = sr at *
  rw [show gtV g ah ch aa ca ar cr = .agg #[.string g.name, .slice ah g.hands.length ch, .int .i64 g.skew, .int .i64 g.now, .int .i64 g.ask.most, .slice aa g.ask.rows.length ca, .int .i64 g.hrd.most, .slice ar g.hrd.rows.length cr] from rfl]
  clear hR hz hS
  generalize g.name = x at *
  generalize g.skew = sk at *
  generalize g.now = nw at *
  generalize g.ask.most = am at *
  generalize g.hrd.most = rm at *
  generalize g.hands.length = nh at *
  generalize g.ask.rows.length = na at *
  generalize g.hrd.rows.length = nr at *
  obtain ⟨b1, b2⟩ := u_heap2 w (.cells #[.string x, .slice ah nh ch, .int .i64 sk, .int .i64 nw, .int .i64 am, .slice aa na ca, .int .i64 rm, .slice ar nr cr] 29) (.cells #[.string ⟨#[]⟩, .slice none 0 0, .int .i64 0, .int .i64 0, .int .i64 0, .slice none 0 0, .int .i64 0, .slice none 0 0] 29)
  have HB0 := hid (((Below.refl w.heap.size w).alloc (Nat.le_refl _) (.cells #[.string x, .slice ah nh ch, .int .i64 sk, .int .i64 nw, .int .i64 am, .slice aa na ca, .int .i64 rm, .slice ar nr cr] 29)).alloc (by simp) (.cells #[.string ⟨#[]⟩, .slice none 0 0, .int .i64 0, .int .i64 0, .int .i64 0, .slice none 0 0, .int .i64 0, .slice none 0 0] 29))
  obtain ⟨W0, hW0⟩ : ∃ W0, (w.alloc (.cells #[.string x, .slice ah nh ch, .int .i64 sk, .int .i64 nw, .int .i64 am, .slice aa na ca, .int .i64 rm, .slice ar nr cr] 29)).alloc (.cells #[.string ⟨#[]⟩, .slice none 0 0, .int .i64 0, .int .i64 0, .int .i64 0, .slice none 0 0, .int .i64 0, .slice none 0 0] 29) = W0 := ⟨_, rfl⟩
  rw [hW0] at b1 b2 HB0
  obtain ⟨B, hB⟩ : ∃ B, w.heap.size = B := ⟨_, rfl⟩
  have HBE := hid hB
  rw [hB] at b1 b2
  have HM1 := hid b1
  have HM2 := hid b2
  clear b1 b2
  obtain ⟨⟨f0, f1, f2, f3, f4, f5, f6, f7⟩, ff⟩ := g_box8f HM1.out
  clear ff

  go_enter Tryz.func7, Tryz.ntmps7
  go_wp2_with fail
  refine (CL.out _ HB0.out).mono ?_
  rintro e w1 ⟨h1, e1, h2, e2, h3, e3, rfl, ho1, hb1⟩
  have HO1 := hid ho1
  clear ho1
  have HBi := hid (bb HB0.out hb1)
  have HZ := hid (u_blk_below HM2.out hb1)
  have HZ1 := hid (u_blk_below HM1.out hb1)
  have HLT := hid (show B + 1 < w1.heap.size from lt_of_heap HZ.out)
  clear hb1 CL f0 f1 f2 f3 f4 f5 f6 f7 hW0
  go_upto_region 2 with fail
  have HB2 := hid ((Below.refl w1.heap.size w1).alloc (Nat.le_refl _) (.cells #[.string x, .slice h1 nh e1, .int .i64 sk, .int .i64 L, .int .i64 am, .slice h2 sa.length e2, .int .i64 rm, .slice h3 sr.length e3] 29))
  have HMM := hid (heap_alloc_new w1 (.cells #[.string x, .slice h1 nh e1, .int .i64 sk, .int .i64 L, .int .i64 am, .slice h2 sa.length e2, .int .i64 rm, .slice h3 sr.length e3] 29))
  obtain ⟨w2, hw2⟩ : ∃ w2, w1.alloc (.cells #[.string x, .slice h1 nh e1, .int .i64 sk, .int .i64 L, .int .i64 am, .slice h2 sa.length e2, .int .i64 rm, .slice h3 sr.length e3] 29) = w2 := ⟨_, rfl⟩
  rw [hw2] at HB2 HMM ⊢
  clear hw2
  obtain ⟨M, hM⟩ : ∃ M, w1.heap.size = M := ⟨_, rfl⟩
  have HME := hid hM
  rw [hM] at HMM ⊢
  clear hM
  have HMB := hid (show B + 1 < M from HME.out ▸ HLT.out)
  have HZ2 := hid (u_blk_below HZ.out HB2.out)
  have HZ12 := hid (u_blk_below HZ1.out HB2.out)
  have HBc := hid (u_KeepB.of_below (fun b => b = B + 1) ((Below.refl w2.heap.size w2).drew))
  have HBb := hid ((Below.refl w2.heap.size w2).drew)
  have HSX := hid (show ∀ w', u_KeepB (fun b => b = B + 1) w2 w' → (w'.cell? ⟨B, 0, none⟩ = some (.string x) ∧ w'.cell? ⟨B, 1, none⟩ = some (.slice ah nh ch) ∧ w'.cell? ⟨B, 2, none⟩ = some (.int .i64 sk) ∧ w'.cell? ⟨B, 3, none⟩ = some (.int .i64 nw) ∧ w'.cell? ⟨B, 4, none⟩ = some (.int .i64 am) ∧ w'.cell? ⟨B, 5, none⟩ = some (.slice aa na ca) ∧ w'.cell? ⟨B, 6, none⟩ = some (.int .i64 rm) ∧ w'.cell? ⟨B, 7, none⟩ = some (.slice ar nr cr) ∧ w'.cell? ⟨M, 0, none⟩ = some (.string x) ∧ w'.cell? ⟨M, 1, none⟩ = some (.slice h1 nh e1) ∧ w'.cell? ⟨M, 2, none⟩ = some (.int .i64 sk) ∧ w'.cell? ⟨M, 3, none⟩ = some (.int .i64 L) ∧ w'.cell? ⟨M, 4, none⟩ = some (.int .i64 am) ∧ w'.cell? ⟨M, 5, none⟩ = some (.slice h2 sa.length e2) ∧ w'.cell? ⟨M, 6, none⟩ = some (.int .i64 rm) ∧ w'.cell? ⟨M, 7, none⟩ = some (.slice h3 sr.length e3)) from fun w' hk => by
    obtain ⟨q0, q1, q2, q3, q4, q5, q6, q7⟩ := (g_box8f ((hk.block B (lt_of_heap HZ12.out) (fun e => by have e' : B = B + 1 := e; omega)).trans HZ12.out)).1
    obtain ⟨p0, p1, p2, p3, p4, p5, p6, p7⟩ := (g_box8f ((hk.block M (lt_of_heap HMM.out) (fun e => by have e' : M = B + 1 := e; have := HMB.out; omega)).trans HMM.out)).1
    exact ⟨q0, q1, q2, q3, q4, q5, q6, q7, p0, p1, p2, p3, p4, p5, p6, p7⟩)
  go_region_held3 (fun w' => (w'.cell? ⟨B, 0, none⟩ = some (.string x) ∧ w'.cell? ⟨B, 1, none⟩ = some (.slice ah nh ch) ∧ w'.cell? ⟨B, 2, none⟩ = some (.int .i64 sk) ∧ w'.cell? ⟨B, 3, none⟩ = some (.int .i64 nw) ∧ w'.cell? ⟨B, 4, none⟩ = some (.int .i64 am) ∧ w'.cell? ⟨B, 5, none⟩ = some (.slice aa na ca) ∧ w'.cell? ⟨B, 6, none⟩ = some (.int .i64 rm) ∧ w'.cell? ⟨B, 7, none⟩ = some (.slice ar nr cr) ∧ w'.cell? ⟨M, 0, none⟩ = some (.string x) ∧ w'.cell? ⟨M, 1, none⟩ = some (.slice h1 nh e1) ∧ w'.cell? ⟨M, 2, none⟩ = some (.int .i64 sk) ∧ w'.cell? ⟨M, 3, none⟩ = some (.int .i64 L) ∧ w'.cell? ⟨M, 4, none⟩ = some (.int .i64 am) ∧ w'.cell? ⟨M, 5, none⟩ = some (.slice h2 sa.length e2) ∧ w'.cell? ⟨M, 6, none⟩ = some (.int .i64 rm) ∧ w'.cell? ⟨M, 7, none⟩ = some (.slice h3 sr.length e3))) (first | with_reducible exact HSX.out _ HBc.out | with_reducible exact HSX.out _ (HBc.out.trans (keep8 _ _ _ _ _ _ _ _ _ _)))
    ((go_at_call 27; with_reducible refine (CS.out _ _ _ _ _ _ _ _ _ _ _ _ _ _ _ _ _ _).mono ?_; rintro e w3 ⟨rfl, hb3⟩; replace HBb := hid (bb HBb.out hb3); replace HBc := hid (u_KeepB.of_below (fun b => b = B + 1) HBb.out); have HZ3 := hid (u_blk_below HZ2.out HBb.out); obtain ⟨⟨k0, k1, k2, k3, k4, k5, k6, k7⟩, kf⟩ := g_box8f HZ3.out; have kf0 := kf 0; have kf1 := kf 1; have kf2 := kf 2; have kf3 := kf 3; have kf4 := kf 4; have kf5 := kf 5; have kf6 := kf 6; have kf7 := kf 7; clear kf; clear hb3))
  go_wp2_with fail
  refine bodyPost_ret (v := .tuple #[.agg #[.string x, .slice h1 nh e1, .int .i64 sk, .int .i64 L, .int .i64 am, .slice h2 sa.length e2, .int .i64 rm, .slice h3 sr.length e3], .bool true]) (by simp [results, Tryz.results7, go_sem, k0, k1, k2, k3, k4, k5, k6, k7]) rfl ⟨h1, e1, h2, e2, h3, e3, rfl, ?_, ?_⟩
  · refine (HOWN.out _ _ _ _ _ (HSB.out _ _ _ _ _ _ (HSB.out _ _ _ _ _ _ HO1.out HB2.out) HBb.out) (B + 1) (lt_of_heap HM2.out) _ _ _ _ _ _ _ _).mono ?_
    exact HB0.out.size
  · iterate 8 refine Below.setCell ?_ (show w.heap.size ≤ B + 1 by omega) _
    exact bb HBi.out (bb HB2.out HBb.out)

set_option maxHeartbeats 1000000 in
theorem cTickedI (g : Gt) (ah : Option Addr) (ch : Nat) (aa : Option Addr) (ca : Nat) (ar : Option Addr) (cr : Nat) (d : Int) (a0 a1 : Addr) (w : World) (hS : SenAt a0 a1 w) (hR : GtRow w g ah aa ar) (hz : GtSz 1048576 g) :
    Calls Tryz.prog 7 #[gtV g ah ch aa ca ar cr, .int .i64 d] w fun e w' => ∃ ah' ch' aa' ca' ar' cr', e = .returned (.tuple #[gtV (tickG g d).1 ah' ch' aa' ca' ar' cr', .bool (tickG g d).2]) ∧ GtOwn w' w.heap.size (tickG g d).1 ah' aa' ar' ∧ Below w.heap.size w w' := by
  cases hg : gateB g with
  | false =>
    rw [tickG_bad hg]
    refine (cTickedBad g ah ch aa ca ar cr d a0 a1 w hS hR hz hg).mono ?_
    rintro e w' ⟨rfl, hb⟩
    exact ⟨none, 0, none, 0, none, 0, rfl, ⟨OwnHd.nil _ _ _, OwnRo.nil _ _ _, OwnRo.nil _ _ _, fun h => absurd h (Nat.lt_irrefl 0)⟩, hb⟩
  | true =>
    by_cases hd : 0 ≤ d ∧ d ≤ 3155759999
    · rw [tickG_yes hg hd]
      exact cTickedLate g ah ch aa ca ar cr d a0 a1 w hS hR hz hg hd
    · rw [tickG_no hg hd]
      exact cTickedOld g ah ch aa ca ar cr d a0 a1 w hS hR hz hg hd

end Go.Proofs.YtajlgnlifffanaaGreatDoor

namespace Go.Proofs.YtajlgnlifffanaaGreatDoor
open Go.RowKit
set_option linter.unusedVariables false

/-- The two sentinels lie somewhere. -/
def SenW (w : World) : Prop := ∃ a0 a1, SenAt a0 a1 w

theorem sen_heap {P : Program} {w : World} {name : String} {g : Nat} {cs : Array Value} (hg : P.globalNamed name = some g) (h : w.var? P name = some cs) : ∃ t fr, w.heap[g]? = some (.cells cs t fr) := by
  unfold World.var? at h
  rw [hg] at h
  simp only [Option.bind_some] at h
  split at h
  · rename_i c t fr hh
    cases h
    exact ⟨t, fr, hh⟩
  · cases h

theorem gt_star : "*" ++ "errors.errorString" = "*errors.errorString" := by decide

theorem gt_row (u : TypeId) (h : Tryz.prog.typeName? 3 u = some "*errors.errorString") : u = 229 :=
  typeName_ptr_named (nm := "errors.errorString") (by rw [gt_star]; kernel_rfl) (by kernel_rfl) (by decide) u (by rw [gt_star]; exact h)

theorem sen_of {t0 t1 : List UInt8} {r : List (String × DataW Unit)} {w : World} (h : laidMet Tryz.prog (("loop.example/g00379/impl.errNotRight", .iface "*errors.errorString" (.ptr (.agg [.lit (.string t0)]))) :: ("loop.example/g00379/impl.errNotSo", .iface "*errors.errorString" (.ptr (.agg [.lit (.string t1)]))) :: r) w) : SenW w := by
  obtain ⟨a0, a1, s0, s1, c0, c1, t0, t1, hv0, hv1, _, _, _, _, _, _, hne, hb0, hb1⟩ := laid_sentinels2 (g0 := 0) (g1 := 1) (ti := 58) (tp := 229) (te := 249) (ts := 9) h (by kernel_rfl) (by kernel_rfl) (by kernel_rfl) (by kernel_rfl) Tryz.underlying58 gt_row Tryz.underlying229 Tryz.underlying249 rfl rfl Tryz.underlying9 (by kernel_rfl) (by kernel_rfl)
  exact ⟨a0, a1, sen_heap (by kernel_rfl) hv0, sen_heap (by kernel_rfl) hv1, hne, ⟨c0, t0, hb0⟩, c1, t1, hb1⟩

theorem sen_ticked {w : World} (h : laidMetH Tryz.prog Rows.fnExactTickedRow.laid w) : SenW w := by
  rw [MakeChecks.laidMetH_plain _ _ _ (by kernel_rfl)] at h
  exact sen_of h

end Go.Proofs.YtajlgnlifffanaaGreatDoor
