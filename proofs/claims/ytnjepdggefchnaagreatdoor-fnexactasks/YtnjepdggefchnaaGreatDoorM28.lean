/- The program's Asks. From a row's listed variables to what the walks of Asks ask: three sentinels and the library's type of errors. -/
import Derived.Test.YtnjepdggefchnaaGreatDoorM27
import Derived.Test.YtnjepdggefchnaaGreatDoorM26
import Derived.Test.YtnjepdggefchnaaGreatDoorRows
import Derived.Stop.LaidTwo
import Derived.MakeChecks
import Derived.LaidSub
import Derived.LaidHandle
import Derived.Lay
import Derived.OpenShut
namespace Go.Proofs.YtnjepdggefchnaaGreatDoor
open Go.RowKit
set_option linter.unusedVariables false
set_option linter.unusedSimpArgs false

set_option maxRecDepth 8000 in
set_option maxHeartbeats 16000000 in
theorem cAsksBad (g : Gt) (ah : Option Addr) (ch : Nat) (aa : Option Addr) (ca : Nat) (ar : Option Addr) (cr : Nat) (id : ByteArray) (til : Int) (a0 a1 a2 : Addr) (c : Int) (w : World) (hS : SenA a0 a1 a2 w) (hR : GtRow w g ah aa ar) (hz : GtSz 1048576 g)
    (hA : ∀ wx, Below w.heap.size w wx → Calls Tryz.prog 20 #[gtV g ah ch aa ca ar cr, .string id, .int .i64 til] wx fun e w' => e = .returned (.tuple #[.agg #[.string ⟨#[]⟩, .slice none 0 0, .int .i64 0, .int .i64 0, .int .i64 0, .slice none 0 0, .int .i64 0, .slice none 0 0], erV (.wrap c (.base a0))]) ∧ Below wx.heap.size wx w') :
    Calls Tryz.prog 7 #[gtV g ah ch aa ca ar cr, .string id, .int .i64 til] w fun e w' => e = .returned (.tuple #[.agg #[.string ⟨#[]⟩, .slice none 0 0, .int .i64 0, .int .i64 0, .int .i64 0, .slice none 0 0, .int .i64 0, .slice none 0 0], .int .i64 c]) ∧ Below w.heap.size w w' := by
  have HS := hid hS
  have CA := hid hA
  have CS := hid (fun (x : ByteArray) (nh : Nat) (sk nw am : Int) (na : Nat) (rm : Int) (nr : Nat) wx (h : SenA a0 a1 a2 wx) => cSetBadW x ah nh ch sk nw am aa na ca rm ar nr cr ⟨#[]⟩ none 0 0 0 0 0 none 0 0 0 none 0 0 c a0 a1 a2 wx h)
  have CC := hid (fun wx (h : SenA a0 a1 a2 wx) => cCodeOf c a0 wx h.2.2.2)
  unfold gtV at CA
  unfold erV at CA CS CC
  unfold erV at CA CS CC
  rw [show gtV g ah ch aa ca ar cr = .agg #[.string g.name, .slice ah g.hands.length ch, .int .i64 g.skew, .int .i64 g.now, .int .i64 g.ask.most, .slice aa g.ask.rows.length ca, .int .i64 g.hrd.most, .slice ar g.hrd.rows.length cr] from rfl]
  clear hR hz hS hA
  generalize g.name = x at *
  generalize g.skew = sk at *
  generalize g.now = nw at *
  generalize g.ask.most = am at *
  generalize g.hrd.most = rm at *
  generalize g.hands.length = nh at *
  generalize g.ask.rows.length = na at *
  generalize g.hrd.rows.length = nr at *
  obtain ⟨b1, b2⟩ := u_heap2 w (.cells #[.string x, .slice ah nh ch, .int .i64 sk, .int .i64 nw, .int .i64 am, .slice aa na ca, .int .i64 rm, .slice ar nr cr] 34) (.cells #[.string ⟨#[]⟩, .slice none 0 0, .int .i64 0, .int .i64 0, .int .i64 0, .slice none 0 0, .int .i64 0, .slice none 0 0] 34)
  have HB0 := hid (((Below.refl w.heap.size w).alloc (Nat.le_refl _) (.cells #[.string x, .slice ah nh ch, .int .i64 sk, .int .i64 nw, .int .i64 am, .slice aa na ca, .int .i64 rm, .slice ar nr cr] 34)).alloc (by simp) (.cells #[.string ⟨#[]⟩, .slice none 0 0, .int .i64 0, .int .i64 0, .int .i64 0, .slice none 0 0, .int .i64 0, .slice none 0 0] 34))
  obtain ⟨W0, hW0⟩ : ∃ W0, (w.alloc (.cells #[.string x, .slice ah nh ch, .int .i64 sk, .int .i64 nw, .int .i64 am, .slice aa na ca, .int .i64 rm, .slice ar nr cr] 34)).alloc (.cells #[.string ⟨#[]⟩, .slice none 0 0, .int .i64 0, .int .i64 0, .int .i64 0, .slice none 0 0, .int .i64 0, .slice none 0 0] 34) = W0 := ⟨_, rfl⟩
  rw [hW0] at b1 b2 HB0
  obtain ⟨B, hB⟩ : ∃ B, w.heap.size = B := ⟨_, rfl⟩
  have HBE := hid hB
  rw [hB] at b1 b2
  have HM1 := hid b1
  have HM2 := hid b2
  clear b1 b2
  obtain ⟨⟨f0, f1, f2, f3, f4, f5, f6, f7⟩, ff⟩ := g_box8f HM1.out
  clear ff

  go_enter Tryz.func7, Tryz.ntmps7
  go_wp2_with fail
  refine (CA.out _ HB0.out).mono ?_
  rintro e w1 ⟨rfl, hb1⟩
  have HB1 := hid (bb HB0.out hb1)
  have HA := hid ((Below.refl w1.heap.size w1).alloc (Nat.le_refl _) (.cells #[.string ⟨#[]⟩, .slice none 0 0, .int .i64 0, .int .i64 0, .int .i64 0, .slice none 0 0, .int .i64 0, .slice none 0 0] 34))
  have HMM := hid (heap_alloc_new w1 (.cells #[.string ⟨#[]⟩, .slice none 0 0, .int .i64 0, .int .i64 0, .int .i64 0, .slice none 0 0, .int .i64 0, .slice none 0 0] 34))
  obtain ⟨w2, hw2⟩ : ∃ w2, w1.alloc (.cells #[.string ⟨#[]⟩, .slice none 0 0, .int .i64 0, .int .i64 0, .int .i64 0, .slice none 0 0, .int .i64 0, .slice none 0 0] 34) = w2 := ⟨_, rfl⟩
  have HW2 := hid hw2
  rw [hw2] at HA HMM
  obtain ⟨M, hM⟩ : ∃ M, w1.heap.size = M := ⟨_, rfl⟩
  have HME := hid hM
  rw [hM] at HMM
  have HB2 := hid (bb HB1.out HA.out)
  have HZ2 := hid (u_blk_below HM2.out (bb hb1 HA.out))
  have HF2 := hid (u_blk_below HM1.out (bb hb1 HA.out))
  have HLT := hid (show B + 1 < W0.heap.size from lt_of_heap HM2.out)
  have HS12 := hid hb1.size
  clear hb1 CA hw2 hW0 f0 f1 f2 f3 f4 f5 f6 f7
  go_upto_region 2 with fail
  rw [HW2.out]
  clear HW2 hM
  obtain ⟨⟨f0, f1, f2, f3, f4, f5, f6, f7⟩, ff⟩ := g_box8f HF2.out
  clear ff
  obtain ⟨⟨n0, n1, n2, n3, n4, n5, n6, n7⟩, nf⟩ := g_box8f HMM.out
  clear nf

  go_wp2_with fail
  refine (CS.out _ _ _ _ _ _ _ _ _ (HS.out.below HB2.out)).mono ?_
  rintro e w3 ⟨rfl, hb3⟩
  have HB3 := hid (bb HB2.out hb3)
  have HZ3 := hid (u_blk_below HZ2.out hb3)
  clear hb3 CS f0 f1 f2 f3 f4 f5 f6 f7 n0 n1 n2 n3 n4 n5 n6 n7
  go_wp2_with fail
  refine (CC.out _ (HS.out.below HB3.out)).mono ?_
  rintro e w4 ⟨rfl, hb4⟩
  have HB4 := hid (bb HB3.out hb4)
  have HX4 := hid hb4
  have HZ4 := hid (u_blk_below HZ3.out hb4)
  clear hb4 CC
  obtain ⟨⟨k0, k1, k2, k3, k4, k5, k6, k7⟩, kf⟩ := g_box8f HZ4.out
  have kf0 := kf 0
  have kf1 := kf 1
  have kf2 := kf 2
  have kf3 := kf 3
  have kf4 := kf 4
  have kf5 := kf 5
  have kf6 := kf 6
  have kf7 := kf 7
  clear kf

  go_wp2_with fail
  refine bodyPost_ret (v := .tuple #[.agg #[.string ⟨#[]⟩, .slice none 0 0, .int .i64 0, .int .i64 0, .int .i64 0, .slice none 0 0, .int .i64 0, .slice none 0 0], .int .i64 c]) (by simp [results, Tryz.results7, go_sem, k0, k1, k2, k3, k4, k5, k6, k7]) rfl ⟨rfl, ?_⟩
  · iterate 8 refine Below.setCell ?_ (show w.heap.size ≤ B + 1 by omega) _
    exact HB4.out

set_option maxRecDepth 8000 in
set_option maxHeartbeats 16000000 in
theorem cAsksOld (g : Gt) (ah : Option Addr) (ch : Nat) (aa : Option Addr) (ca : Nat) (ar : Option Addr) (cr : Nat) (id : ByteArray) (til : Int) (a0 a1 a2 : Addr) (c : Int) (b : Addr) (hb : b = a1 ∨ b = a2) (w : World) (hS : SenA a0 a1 a2 w) (hR : GtRow w g ah aa ar) (hz : GtSz 1048576 g) (hg : gateB g = true)
    (hA : ∀ wx, Below w.heap.size w wx → Calls Tryz.prog 20 #[gtV g ah ch aa ca ar cr, .string id, .int .i64 til] wx fun e w' => e = .returned (.tuple #[.agg #[.string ⟨#[]⟩, .slice none 0 0, .int .i64 0, .int .i64 0, .int .i64 0, .slice none 0 0, .int .i64 0, .slice none 0 0], erV (.wrap c (.base b))]) ∧ Below wx.heap.size wx w') :
    Calls Tryz.prog 7 #[gtV g ah ch aa ca ar cr, .string id, .int .i64 til] w fun e w' => ∃ ah' ch' aa' ca' ar' cr', e = .returned (.tuple #[gtV g ah' ch' aa' ca' ar' cr', .int .i64 c]) ∧ GtOwn w' w.heap.size g ah' aa' ar' ∧ Below w.heap.size w w' := by
  have HS := hid hS
  have CA := hid hA
  have CS := hid (fun wx (h : Below w.heap.size w wx) => cSetOldW g ah ch aa ca ar cr ⟨#[]⟩ none 0 0 0 0 0 none 0 0 0 none 0 0 c a0 a1 a2 b wx (hS.below h) hb (hR.below h) hz (gate_rowsA hg).1 (gate_rowsA hg).2.1 (gate_rowsA hg).2.2)
  have CC := hid (fun wx (h : SenA a0 a1 a2 wx) => cCodeOf c b wx h.2.2.2)
  have HGV := hid (show ∀ a1 c1 a2 c2 a3 c3, gtV g a1 c1 a2 c2 a3 c3 = .agg #[.string g.name, .slice a1 g.hands.length c1, .int .i64 g.skew, .int .i64 g.now, .int .i64 g.ask.most, .slice a2 g.ask.rows.length c2, .int .i64 g.hrd.most, .slice a3 g.hrd.rows.length c3] from fun a1 c1 a2 c2 a3 c3 => rfl)
  have HOWN := hid (fun (wx : World) (Bx : Nat) (a b c : Option Addr) (h : GtOwn wx Bx g a b c) (R : Nat) (hR : R < Bx) => own_set8 h hR)
  have HSB := hid (show ∀ (wx wy : World) (Bx : Nat) (a b c : Option Addr), GtOwn wx Bx g a b c → Below wx.heap.size wx wy → GtOwn wy Bx g a b c from fun wx wy Bx a b c h hb => h.below hb)
  unfold gtV at CA CS
  unfold erV at CA CS CC
  unfold erV at CA CS CC
  simp only [HGV.out]
  clear hR hz hS hA
  generalize g.name = x at *
  generalize g.skew = sk at *
  generalize g.now = nw at *
  generalize g.ask.most = am at *
  generalize g.hrd.most = rm at *
  generalize g.hands.length = nh at *
  generalize g.ask.rows.length = na at *
  generalize g.hrd.rows.length = nr at *
  obtain ⟨b1, b2⟩ := u_heap2 w (.cells #[.string x, .slice ah nh ch, .int .i64 sk, .int .i64 nw, .int .i64 am, .slice aa na ca, .int .i64 rm, .slice ar nr cr] 34) (.cells #[.string ⟨#[]⟩, .slice none 0 0, .int .i64 0, .int .i64 0, .int .i64 0, .slice none 0 0, .int .i64 0, .slice none 0 0] 34)
  have HB0 := hid (((Below.refl w.heap.size w).alloc (Nat.le_refl _) (.cells #[.string x, .slice ah nh ch, .int .i64 sk, .int .i64 nw, .int .i64 am, .slice aa na ca, .int .i64 rm, .slice ar nr cr] 34)).alloc (by simp) (.cells #[.string ⟨#[]⟩, .slice none 0 0, .int .i64 0, .int .i64 0, .int .i64 0, .slice none 0 0, .int .i64 0, .slice none 0 0] 34))
  obtain ⟨W0, hW0⟩ : ∃ W0, (w.alloc (.cells #[.string x, .slice ah nh ch, .int .i64 sk, .int .i64 nw, .int .i64 am, .slice aa na ca, .int .i64 rm, .slice ar nr cr] 34)).alloc (.cells #[.string ⟨#[]⟩, .slice none 0 0, .int .i64 0, .int .i64 0, .int .i64 0, .slice none 0 0, .int .i64 0, .slice none 0 0] 34) = W0 := ⟨_, rfl⟩
  rw [hW0] at b1 b2 HB0
  obtain ⟨B, hB⟩ : ∃ B, w.heap.size = B := ⟨_, rfl⟩
  have HBE := hid hB
  rw [hB] at b1 b2
  have HM1 := hid b1
  have HM2 := hid b2
  clear b1 b2
  obtain ⟨⟨f0, f1, f2, f3, f4, f5, f6, f7⟩, ff⟩ := g_box8f HM1.out
  clear ff

  go_enter Tryz.func7, Tryz.ntmps7
  go_wp2_with fail
  refine (CA.out _ HB0.out).mono ?_
  rintro e w1 ⟨rfl, hb1⟩
  have HB1 := hid (bb HB0.out hb1)
  have HA := hid ((Below.refl w1.heap.size w1).alloc (Nat.le_refl _) (.cells #[.string ⟨#[]⟩, .slice none 0 0, .int .i64 0, .int .i64 0, .int .i64 0, .slice none 0 0, .int .i64 0, .slice none 0 0] 34))
  have HMM := hid (heap_alloc_new w1 (.cells #[.string ⟨#[]⟩, .slice none 0 0, .int .i64 0, .int .i64 0, .int .i64 0, .slice none 0 0, .int .i64 0, .slice none 0 0] 34))
  obtain ⟨w2, hw2⟩ : ∃ w2, w1.alloc (.cells #[.string ⟨#[]⟩, .slice none 0 0, .int .i64 0, .int .i64 0, .int .i64 0, .slice none 0 0, .int .i64 0, .slice none 0 0] 34) = w2 := ⟨_, rfl⟩
  have HW2 := hid hw2
  rw [hw2] at HA HMM
  obtain ⟨M, hM⟩ : ∃ M, w1.heap.size = M := ⟨_, rfl⟩
  have HME := hid hM
  rw [hM] at HMM
  have HB2 := hid (bb HB1.out HA.out)
  have HZ2 := hid (u_blk_below HM2.out (bb hb1 HA.out))
  have HF2 := hid (u_blk_below HM1.out (bb hb1 HA.out))
  have HLT := hid (show B + 1 < W0.heap.size from lt_of_heap HM2.out)
  have HS12 := hid hb1.size
  clear hb1 CA hw2 hW0 f0 f1 f2 f3 f4 f5 f6 f7
  go_upto_region 2 with fail
  rw [HW2.out]
  clear HW2 hM
  obtain ⟨⟨f0, f1, f2, f3, f4, f5, f6, f7⟩, ff⟩ := g_box8f HF2.out
  clear ff
  obtain ⟨⟨n0, n1, n2, n3, n4, n5, n6, n7⟩, nf⟩ := g_box8f HMM.out
  clear nf

  go_wp2_with fail
  refine (CS.out _ HB2.out).mono ?_
  rintro e w3 ⟨h1, e1, h2, e2, h3, e3, rfl, ho3, hb3⟩
  have HO3 := hid ho3
  have HS3 := hid HB2.out.size
  clear ho3
  have HB3 := hid (bb HB2.out hb3)
  have HZ3 := hid (u_blk_below HZ2.out hb3)
  clear hb3 CS f0 f1 f2 f3 f4 f5 f6 f7 n0 n1 n2 n3 n4 n5 n6 n7
  go_wp2_with fail
  refine (CC.out _ (HS.out.below HB3.out)).mono ?_
  rintro e w4 ⟨rfl, hb4⟩
  have HB4 := hid (bb HB3.out hb4)
  have HX4 := hid hb4
  have HZ4 := hid (u_blk_below HZ3.out hb4)
  clear hb4 CC
  obtain ⟨⟨k0, k1, k2, k3, k4, k5, k6, k7⟩, kf⟩ := g_box8f HZ4.out
  have kf0 := kf 0
  have kf1 := kf 1
  have kf2 := kf 2
  have kf3 := kf 3
  have kf4 := kf 4
  have kf5 := kf 5
  have kf6 := kf 6
  have kf7 := kf 7
  clear kf

  go_wp2_with fail
  refine bodyPost_ret (v := .tuple #[.agg #[.string x, .slice h1 nh e1, .int .i64 sk, .int .i64 nw, .int .i64 am, .slice h2 na e2, .int .i64 rm, .slice h3 nr e3], .int .i64 c]) (by simp [results, Tryz.results7, go_sem, k0, k1, k2, k3, k4, k5, k6, k7]) rfl ⟨h1, e1, h2, e2, h3, e3, rfl, ?_, ?_⟩
  · refine (HOWN.out _ _ _ _ _ (HSB.out _ _ _ _ _ _ HO3.out HX4.out) (B + 1) (by have := HLT.out; have := HS12.out; have := HA.out.size; omega) _ _ _ _ _ _ _ _).mono ?_
    exact HB2.out.size
  · iterate 8 refine Below.setCell ?_ (show w.heap.size ≤ B + 1 by omega) _
    exact HB4.out

set_option maxRecDepth 8000 in
set_option maxHeartbeats 16000000 in
theorem cAsksIn (g : Gt) (ah : Option Addr) (ch : Nat) (aa : Option Addr) (ca : Nat) (ar : Option Addr) (cr : Nat) (id : ByteArray) (til : Int) (a0 a1 a2 : Addr) (T : Tb) (w : World) (hS : SenA a0 a1 a2 w) (hR : GtRow w g ah aa ar) (hz : GtSz 1048576 g)
    (hA : ∀ wx, Below w.heap.size w wx → Calls Tryz.prog 20 #[gtV g ah ch aa ca ar cr, .string id, .int .i64 til] wx fun e w' => ∃ ah' ch' aa' ca' ar' cr', e = .returned (.tuple #[gtV (askedG g T) ah' ch' aa' ca' ar' cr', .nilIface]) ∧ GtOwn w' wx.heap.size (askedG g T) ah' aa' ar' ∧ Below wx.heap.size wx w') :
    Calls Tryz.prog 7 #[gtV g ah ch aa ca ar cr, .string id, .int .i64 til] w fun e w' => ∃ ah' ch' aa' ca' ar' cr', e = .returned (.tuple #[gtV (askedG g T) ah' ch' aa' ca' ar' cr', .int .i64 0]) ∧ GtOwn w' w.heap.size (askedG g T) ah' aa' ar' ∧ Below w.heap.size w w' := by
  have HS := hid hS
  have CA := hid hA
  have CS := hid (fun (x : ByteArray) (nh : Nat) (sk nw am : Int) (na : Nat) (rm : Int) (nr : Nat) (h1 : Option Addr) (e1 : Nat) (tm : Int) (h2 : Option Addr) (n2 e2 : Nat) (h3 : Option Addr) (n3 e3 : Nat) wx => cSetNil x ah nh ch sk nw am aa na ca rm ar nr cr x h1 nh e1 sk nw tm h2 n2 e2 rm h3 n3 e3 wx)
  have CC := hid (fun wx => cCodeNil wx)
  have HGL := hid (show ∀ a1 c1 a2 c2 a3 c3, gtV (askedG g T) a1 c1 a2 c2 a3 c3 = .agg #[.string g.name, .slice a1 g.hands.length c1, .int .i64 g.skew, .int .i64 g.now, .int .i64 T.most, .slice a2 T.rows.length c2, .int .i64 g.hrd.most, .slice a3 g.hrd.rows.length c3] from fun a1 c1 a2 c2 a3 c3 => rfl)
  have HOWN := hid (fun (wx : World) (Bx : Nat) (a b c : Option Addr) (h : GtOwn wx Bx (askedG g T) a b c) (R : Nat) (hR : R < Bx) => own_set8 h hR)
  have HSB := hid (show ∀ (wx wy : World) (Bx : Nat) (a b c : Option Addr), GtOwn wx Bx (askedG g T) a b c → Below wx.heap.size wx wy → GtOwn wy Bx (askedG g T) a b c from fun wx wy Bx a b c h hb => h.below hb)
  obtain ⟨N, hN⟩ : ∃ N, askedG g T = N := ⟨_, rfl⟩
  rw [hN] at CA HOWN HSB ⊢
  simp only [hN] at HGL
  simp only [HGL.out] at CA ⊢
  clear hN
  rw [show gtV g ah ch aa ca ar cr = .agg #[.string g.name, .slice ah g.hands.length ch, .int .i64 g.skew, .int .i64 g.now, .int .i64 g.ask.most, .slice aa g.ask.rows.length ca, .int .i64 g.hrd.most, .slice ar g.hrd.rows.length cr] from rfl] at CA
  rw [show gtV g ah ch aa ca ar cr = .agg #[.string g.name, .slice ah g.hands.length ch, .int .i64 g.skew, .int .i64 g.now, .int .i64 g.ask.most, .slice aa g.ask.rows.length ca, .int .i64 g.hrd.most, .slice ar g.hrd.rows.length cr] from rfl]
  clear hR hz hS hA
  generalize T.most = tm at *
  generalize T.rows.length = tn at *
  generalize g.name = x at *
  generalize g.skew = sk at *
  generalize g.now = nw at *
  generalize g.ask.most = am at *
  generalize g.hrd.most = rm at *
  generalize g.hands.length = nh at *
  generalize g.ask.rows.length = na at *
  generalize g.hrd.rows.length = nr at *
  obtain ⟨b1, b2⟩ := u_heap2 w (.cells #[.string x, .slice ah nh ch, .int .i64 sk, .int .i64 nw, .int .i64 am, .slice aa na ca, .int .i64 rm, .slice ar nr cr] 34) (.cells #[.string ⟨#[]⟩, .slice none 0 0, .int .i64 0, .int .i64 0, .int .i64 0, .slice none 0 0, .int .i64 0, .slice none 0 0] 34)
  have HB0 := hid (((Below.refl w.heap.size w).alloc (Nat.le_refl _) (.cells #[.string x, .slice ah nh ch, .int .i64 sk, .int .i64 nw, .int .i64 am, .slice aa na ca, .int .i64 rm, .slice ar nr cr] 34)).alloc (by simp) (.cells #[.string ⟨#[]⟩, .slice none 0 0, .int .i64 0, .int .i64 0, .int .i64 0, .slice none 0 0, .int .i64 0, .slice none 0 0] 34))
  obtain ⟨W0, hW0⟩ : ∃ W0, (w.alloc (.cells #[.string x, .slice ah nh ch, .int .i64 sk, .int .i64 nw, .int .i64 am, .slice aa na ca, .int .i64 rm, .slice ar nr cr] 34)).alloc (.cells #[.string ⟨#[]⟩, .slice none 0 0, .int .i64 0, .int .i64 0, .int .i64 0, .slice none 0 0, .int .i64 0, .slice none 0 0] 34) = W0 := ⟨_, rfl⟩
  rw [hW0] at b1 b2 HB0
  obtain ⟨B, hB⟩ : ∃ B, w.heap.size = B := ⟨_, rfl⟩
  have HBE := hid hB
  rw [hB] at b1 b2
  have HM1 := hid b1
  have HM2 := hid b2
  clear b1 b2
  obtain ⟨⟨f0, f1, f2, f3, f4, f5, f6, f7⟩, ff⟩ := g_box8f HM1.out
  clear ff

  go_enter Tryz.func7, Tryz.ntmps7
  go_wp2_with fail
  refine (CA.out _ HB0.out).mono ?_
  rintro e w1 ⟨h1, e1, h2, e2, h3, e3, rfl, ho1, hb1⟩
  have HO1 := hid ho1
  clear ho1
  have HB1 := hid (bb HB0.out hb1)
  have HA := hid ((Below.refl w1.heap.size w1).alloc (Nat.le_refl _) (.cells #[.string x, .slice h1 nh e1, .int .i64 sk, .int .i64 nw, .int .i64 tm, .slice h2 tn e2, .int .i64 rm, .slice h3 nr e3] 34))
  have HMM := hid (heap_alloc_new w1 (.cells #[.string x, .slice h1 nh e1, .int .i64 sk, .int .i64 nw, .int .i64 tm, .slice h2 tn e2, .int .i64 rm, .slice h3 nr e3] 34))
  obtain ⟨w2, hw2⟩ : ∃ w2, w1.alloc (.cells #[.string x, .slice h1 nh e1, .int .i64 sk, .int .i64 nw, .int .i64 tm, .slice h2 tn e2, .int .i64 rm, .slice h3 nr e3] 34) = w2 := ⟨_, rfl⟩
  have HW2 := hid hw2
  rw [hw2] at HA HMM
  obtain ⟨M, hM⟩ : ∃ M, w1.heap.size = M := ⟨_, rfl⟩
  have HME := hid hM
  rw [hM] at HMM
  have HB2 := hid (bb HB1.out HA.out)
  have HZ2 := hid (u_blk_below HM2.out (bb hb1 HA.out))
  have HF2 := hid (u_blk_below HM1.out (bb hb1 HA.out))
  have HLT := hid (show B + 1 < W0.heap.size from lt_of_heap HM2.out)
  have HS12 := hid hb1.size
  clear hb1 CA hw2 hW0 f0 f1 f2 f3 f4 f5 f6 f7
  go_upto_region 2 with fail
  rw [HW2.out]
  clear HW2 hM
  obtain ⟨⟨f0, f1, f2, f3, f4, f5, f6, f7⟩, ff⟩ := g_box8f HF2.out
  clear ff
  obtain ⟨⟨n0, n1, n2, n3, n4, n5, n6, n7⟩, nf⟩ := g_box8f HMM.out
  clear nf

  go_wp2_with fail
  refine (CS.out _ _ _ _ _ _ _ _ _ _ _ _ _ _ _ _ _ _).mono ?_
  rintro e w3 ⟨rfl, hb3⟩
  have HX3 := hid hb3
  have HB3 := hid (bb HB2.out hb3)
  have HZ3 := hid (u_blk_below HZ2.out hb3)
  clear hb3 CS f0 f1 f2 f3 f4 f5 f6 f7 n0 n1 n2 n3 n4 n5 n6 n7
  go_wp2_with fail
  refine (CC.out _).mono ?_
  rintro e w4 ⟨rfl, hb4⟩
  have HB4 := hid (bb HB3.out hb4)
  have HX4 := hid hb4
  have HZ4 := hid (u_blk_below HZ3.out hb4)
  clear hb4 CC
  obtain ⟨⟨k0, k1, k2, k3, k4, k5, k6, k7⟩, kf⟩ := g_box8f HZ4.out
  have kf0 := kf 0
  have kf1 := kf 1
  have kf2 := kf 2
  have kf3 := kf 3
  have kf4 := kf 4
  have kf5 := kf 5
  have kf6 := kf 6
  have kf7 := kf 7
  clear kf

  go_wp2_with fail
  refine bodyPost_ret (v := .tuple #[.agg #[.string x, .slice h1 nh e1, .int .i64 sk, .int .i64 nw, .int .i64 tm, .slice h2 tn e2, .int .i64 rm, .slice h3 nr e3], .int .i64 0]) (by simp [results, Tryz.results7, go_sem, k0, k1, k2, k3, k4, k5, k6, k7]) rfl ⟨h1, e1, h2, e2, h3, e3, rfl, ?_, ?_⟩
  · refine (HOWN.out _ _ _ _ _ (HSB.out _ _ _ _ _ _ (HSB.out _ _ _ _ _ _ (HSB.out _ _ _ _ _ _ HO1.out HA.out) HX3.out) HX4.out) (B + 1) HLT.out _ _ _ _ _ _ _ _).mono ?_
    exact HB0.out.size
  · iterate 8 refine Below.setCell ?_ (show w.heap.size ≤ B + 1 by omega) _
    exact HB4.out

/-- What the table tells. -/
theorem entered_codes (t : Tb) (id : ByteArray) (til : Int) : (enteredT t id til).2 = 0 ∨ ((enteredT t id til).2 = 1 ∧ enteredT t id til = (t, 1)) ∨ ((enteredT t id til).2 = 2 ∧ enteredT t id til = (t, 2)) ∨ ((enteredT t id til).2 = 3 ∧ (tableB t && u_idOk id && utmB til) = false) := by
  unfold enteredT
  by_cases h : (tableB t && u_idOk id && utmB til) = true
  · rw [if_pos h]
    unfold enterT
    split
    · exact .inr (.inl ⟨rfl, rfl⟩)
    · split
      · exact .inr (.inr (.inl ⟨rfl, rfl⟩))
      · exact .inl rfl
  · rw [if_neg h]
    exact .inr (.inr (.inr ⟨rfl, by simpa using h⟩))

theorem asked_same (g : Gt) : askedG g g.ask = g := rfl

set_option maxHeartbeats 2000000 in
theorem cAsksI (g : Gt) (ah : Option Addr) (ch : Nat) (aa : Option Addr) (ca : Nat) (ar : Option Addr) (cr : Nat) (id : ByteArray) (til : Int) (a0 a1 a2 : Addr) (w : World) (hS : SenA a0 a1 a2 w) (hR : GtRow w g ah aa ar) (hz : GtSz 1048576 g) (hi : id.size ≤ 1048576) :
    Calls Tryz.prog 7 #[gtV g ah ch aa ca ar cr, .string id, .int .i64 til] w fun e w' => ∃ ah' ch' aa' ca' ar' cr', e = .returned (.tuple #[gtV (asksG g id til).1 ah' ch' aa' ca' ar' cr', .int .i64 (asksG g id til).2]) ∧ GtOwn w' w.heap.size (asksG g id til).1 ah' aa' ar' ∧ Below w.heap.size w w' := by
  have none3 : ∀ (h : asksG g id til = (zeroG, 3)), (∀ wx, Below w.heap.size w wx → Calls Tryz.prog 20 #[gtV g ah ch aa ca ar cr, .string id, .int .i64 til] wx fun e w' => e = .returned (.tuple #[.agg #[.string ⟨#[]⟩, .slice none 0 0, .int .i64 0, .int .i64 0, .int .i64 0, .slice none 0 0, .int .i64 0, .slice none 0 0], erV (.wrap 3 (.base a0))]) ∧ Below wx.heap.size wx w') →
      Calls Tryz.prog 7 #[gtV g ah ch aa ca ar cr, .string id, .int .i64 til] w fun e w' => ∃ ah' ch' aa' ca' ar' cr', e = .returned (.tuple #[gtV (asksG g id til).1 ah' ch' aa' ca' ar' cr', .int .i64 (asksG g id til).2]) ∧ GtOwn w' w.heap.size (asksG g id til).1 ah' aa' ar' ∧ Below w.heap.size w w' := fun h hA => by
    rw [h]
    refine (cAsksBad g ah ch aa ca ar cr id til a0 a1 a2 3 w hS hR hz hA).mono ?_
    rintro e w' ⟨rfl, hb⟩
    exact ⟨none, 0, none, 0, none, 0, rfl, ⟨OwnHd.nil _ _ _, OwnRo.nil _ _ _, OwnRo.nil _ _ _, fun h => absurd h (Nat.lt_irrefl 0)⟩, hb⟩
  cases hg : gateB g with
  | false =>
    exact none3 (asksG_no (by rw [hg]; rfl)) (fun wx h => cAskNo g ah ch aa ca ar cr id til a0 a1 a2 wx (hS.below h) (hR.below h) hz hg)
  | true =>
    have ht := (gate_pA hg).2.1
    have hl : g.ask.rows.length ≤ 1048576 := Nat.le_trans (gate_rowsA hg).2.1 (by decide)
    have hbad : (tableB g.ask && u_idOk id && utmB til) = false → asksG g id til = (zeroG, 3) := fun h => asksG_no (by rw [hg]; rw [ht] at h; exact h)
    have hyes : ¬ (enteredT g.ask id til).2 = 3 → asksG g id til = (askedG g (enteredT g.ask id til).1, (enteredT g.ask id til).2) := fun h => by
      by_cases hb : (tableB g.ask && u_idOk id && utmB til) = true
      · have e : enteredT g.ask id til = enterT g.ask id til := if_pos hb
        rw [asksG_yes (by rw [hg]; rw [ht] at hb; exact hb), e]
      · have e : enteredT g.ask id til = (zeroT, 3) := if_neg hb
        exact absurd (by rw [e]) h
    rcases entered_codes g.ask id til with h0 | ⟨h1, e1⟩ | ⟨h2, e2⟩ | ⟨h3, e3⟩
    · rw [hyes (by rw [h0]; decide), h0]
      exact cAsksIn g ah ch aa ca ar cr id til a0 a1 a2 (enteredT g.ask id til).1 w hS hR hz (fun wx h => cAskIn g ah ch aa ca ar cr id til (enteredT g.ask id til).1 wx (hR.below h) hz hg (fun wy hy => cRowIn g.ask aa ca id til a0 a1 a2 wy ((hS.below h).below hy) ((hR.below h).below hy).2.1 hz.2.2.2.1 hl hi h0))
    · rw [hyes (by rw [h1]; decide), e1]
      exact cAsksOld g ah ch aa ca ar cr id til a0 a1 a2 1 a2 (.inr rfl) w hS hR hz hg (fun wx h => cAskErr g ah ch aa ca ar cr id til 1 a2 wx (hR.below h) hz hg (fun wy hy => cRowThere g.ask aa ca id til a0 a1 a2 wy ((hS.below h).below hy) ((hR.below h).below hy).2.1 hz.2.2.2.1 hl hi h1))
    · rw [hyes (by rw [h2]; decide), e2]
      exact cAsksOld g ah ch aa ca ar cr id til a0 a1 a2 2 a1 (.inl rfl) w hS hR hz hg (fun wx h => cAskErr g ah ch aa ca ar cr id til 2 a1 wx (hR.below h) hz hg (fun wy hy => cRowFull g.ask aa ca id til a0 a1 a2 wy ((hS.below h).below hy) ((hR.below h).below hy).2.1 hz.2.2.2.1 hl hi h2))
    · exact none3 (hbad e3) (fun wx h => cAskErr g ah ch aa ca ar cr id til 3 a0 wx (hR.below h) hz hg (fun wy hy => cRowBad g.ask aa ca id til a0 a1 a2 wy ((hS.below h).below hy) ((hR.below h).below hy).2.1 hz.2.2.2.1 hl hi h3))

end Go.Proofs.YtnjepdggefchnaaGreatDoor

namespace Go.Proofs.YtnjepdggefchnaaGreatDoor
open Go.RowKit
set_option linter.unusedVariables false

/-- The sentinels and the type lie somewhere. -/
def SenWA (w : World) : Prop := ∃ a0 a1 a2, SenA a0 a1 a2 w

theorem senA_heap {P : Program} {w : World} {name : String} {g : Nat} {cs : Array Value} (hg : P.globalNamed name = some g) (h : w.var? P name = some cs) : ∃ t fr, w.heap[g]? = some (.cells cs t fr) := by
  unfold World.var? at h
  rw [hg] at h
  simp only [Option.bind_some] at h
  split at h
  · rename_i c t fr hh
    cases h
    exact ⟨t, fr, hh⟩
  · cases h

theorem ga_star : "*" ++ "errors.errorString" = "*errors.errorString" := by decide

theorem ga_row (u : TypeId) (h : Tryz.prog.typeName? 3 u = some "*errors.errorString") : u = 161 :=
  typeName_ptr_named (nm := "errors.errorString") (by rw [ga_star]; kernel_rfl) (by kernel_rfl) (by decide) u (by rw [ga_star]; exact h)

/-- Two sentinels, by their names. -/
theorem two_of {n0 n1 : String} {g0 g1 : Nat} {t0 t1 : List UInt8} {w : World} (h : laidMet Tryz.prog [(n0, .iface "*errors.errorString" (.ptr (.agg [.lit (.string t0)]))), (n1, .iface "*errors.errorString" (.ptr (.agg [.lit (.string t1)])))] w)
    (hg0 : Tryz.prog.globalNamed n0 = some g0) (ht0 : (Tryz.prog.globals[g0]?).map (·.type) = some 52) (hg1 : Tryz.prog.globalNamed n1 = some g1) (ht1 : (Tryz.prog.globals[g1]?).map (·.type) = some 52) :
    ∃ a0 a1 : Addr, w.var? Tryz.prog n0 = some #[erV (.base a0)] ∧ w.var? Tryz.prog n1 = some #[erV (.base a1)] ∧ a0 ≠ a1 ∧ (∃ c t, w.heap[a0.block]? = some (.cells c t (0, 0))) ∧ ∃ c t, w.heap[a1.block]? = some (.cells c t (0, 0)) := by
  obtain ⟨a0, a1, s0, s1, c0, c1, t0, t1, hv0, hv1, _, _, _, _, _, _, hne, hb0, hb1⟩ := laid_sentinels2 (tp := 161) (te := 182) (ts := 9) h hg0 ht0 hg1 ht1 Tryz.underlying52 ga_row Tryz.underlying161 Tryz.underlying182 rfl rfl Tryz.underlying9 (by kernel_rfl) (by kernel_rfl)
  exact ⟨a0, a1, hv0, hv1, hne, ⟨c0, t0, hb0⟩, c1, t1, hb1⟩

theorem han_rt : (Tryz.prog.cutTypes.find? (·.1 == "internal/reflectlite.rtype")).map (·.2) = some 132 := by kernel_rfl
theorem han_row : ((List.range 194).filter fun t => Tryz.prog.rowNamed t [101, 114, 114, 111, 114]) = [52] := by kernel_rfl
theorem han_size : Tryz.prog.types.size = 194 := by kernel_rfl
theorem han_name : Tryz.prog.globalNamed "errors.errorType" = some 2 := by kernel_rfl

/-- The library's type of errors. -/
theorem han_of {w : World} (h : laidMetH Tryz.prog [("errors.errorType", .iface "internal/reflectlite.rtype" (.agg [.ptr (.lit (.string [101, 114, 114, 111, 114]))]))] w) : HanAt w := by
  have h' : laidMet Tryz.prog [] w ∧ handlesMet Tryz.prog [("errors.errorType", .iface "internal/reflectlite.rtype" (.agg [.ptr (.lit (.string [101, 114, 114, 111, 114]))]))] w := h
  obtain ⟨name, u, ty, e1, e2, e3, e4, e5⟩ := h'.2 _ (List.mem_singleton.2 rfl)
  have en : name = [101, 114, 114, 111, 114] := (Option.some.inj e1).symm
  subst en
  obtain rfl := Option.some.inj (han_rt.symm.trans e2)
  have hm : ty ∈ (List.range 194).filter fun t => Tryz.prog.rowNamed t [101, 114, 114, 111, 114] := List.mem_filter.2 ⟨List.mem_range.2 (by rw [← han_size]; exact e3), e4⟩
  rw [han_row] at hm
  obtain rfl := List.mem_singleton.1 hm
  have hh : typeHandle Tryz.prog 52 = .pointer (some ⟨5, 52, none⟩) := by kernel_rfl
  rw [hh] at e5
  unfold HanAt
  simpa using World.var?_cell han_name e5 0

theorem senA_of {t0 t1 t2 : List UInt8} {w : World}
    (h0 : laidMetH Tryz.prog [("errors.errorType", .iface "internal/reflectlite.rtype" (.agg [.ptr (.lit (.string [101, 114, 114, 111, 114]))]))] w)
    (h1 : laidMet Tryz.prog [("loop.example/g00379/impl.errNotRight", .iface "*errors.errorString" (.ptr (.agg [.lit (.string t0)]))), ("loop.example/g00379/impl.errNotSo", .iface "*errors.errorString" (.ptr (.agg [.lit (.string t1)])))] w)
    (h2 : laidMet Tryz.prog [("loop.example/g00379/impl.errNotRight", .iface "*errors.errorString" (.ptr (.agg [.lit (.string t0)]))), ("loop.example/g00379/impl.errThere", .iface "*errors.errorString" (.ptr (.agg [.lit (.string t2)])))] w) : SenWA w := by
  obtain ⟨a0, a1, v0, v1, n1, k0, k1⟩ := two_of (g0 := 0) (g1 := 3) h1 (by kernel_rfl) (by kernel_rfl) (by kernel_rfl) (by kernel_rfl)
  obtain ⟨b0, a2, u0, v2, n2, _, k2⟩ := two_of (g0 := 0) (g1 := 1) h2 (by kernel_rfl) (by kernel_rfl) (by kernel_rfl) (by kernel_rfl)
  have e : a0 = b0 := by
    have := v0.symm.trans u0
    have h := congrArg Array.toList (Option.some.inj this)
    have h3 := (List.cons.inj h).1
    unfold erV at h3
    injection h3 with _ h4
    injection h4 with h5
    exact Option.some.inj h5
  subst e
  exact ⟨a0, a1, a2, ⟨senA_heap (by kernel_rfl) v0, senA_heap (by kernel_rfl) v1, senA_heap (by kernel_rfl) v2⟩, ⟨fun e => n1 e.symm, fun e => n2 e.symm⟩, ⟨k0, k1, k2⟩, han_of h0⟩

/-- The listed variables but the type. -/
def plainA : List (String × DataW Unit) := [("loop.example/g00379/impl.errNotRight", Rows.laid_loop_example_g00379_impl_errNotRight), ("loop.example/g00379/impl.errThere", Rows.laid_loop_example_g00379_impl_errThere), ("loop.example/g00379/impl.errNotSo", Rows.laid_loop_example_g00379_impl_errNotSo)]

def laidA : List (String × DataW Unit) := ("errors.errorType", Rows.laid_errors_errorType) :: plainA

/-- A world in which the type is laid. -/
noncomputable def hanWorld0 (os : Os) : World :=
  let w0 := World.holding Tryz.prog os ⟨#[], #[], []⟩
  { w0 with heap := w0.heap.modify 2 fun
      | .cells _ t frozen => .cells #[.iface 132 (.agg #[.pointer (some ⟨5, 52, none⟩)])] t frozen
      | o => o }

/-- .. and the sentinels. -/
noncomputable def hanWorldA (os : Os) : World := (hanWorld0 os).layVars Tryz.prog plainA

theorem hanWorldA_os (os : Os) : (hanWorldA os).os = os := World.layVars_os _ _ _

theorem plainA_met (os : Os) : laidMet Tryz.prog plainA (hanWorldA os) := by
  have e1 : (plainA.filter fun x => (plainA.map (·.1)).contains x.1) = plainA := List.filter_eq_self.2 fun x hx => List.contains_iff_mem.2 (List.mem_map.2 ⟨x, hx, rfl⟩)
  have e2 : (plainA.filter fun x => !(plainA.map (·.1)).contains x.1) = [] := List.filter_eq_nil_iff.2 fun x hx => by rw [List.contains_iff_mem.2 (List.mem_map.2 ⟨x, hx, rfl⟩)]; simp
  exact laidMet_layVars (w0 := hanWorld0 os) (plainA.map (·.1)) [] (by rw [e1]; rfl) (by rw [e1]; kernel_rfl) (by rw [e1]; kernel_rfl) (by rw [e2]; exact LaidIn.none)

theorem laidA_met (os : Os) (args : Array Value) : laidMetH Tryz.prog laidA ((hanWorldA os).forCall (fun _ _ => 0) ⟨#[], args, []⟩).memory := by
  refine laidMetH_of_parts ?_ (by kernel_rfl)
  have e : (laidA.filter fun x => x.2.handleName?.isNone) = plainA := by kernel_rfl
  rw [e]
  exact (plainA_met os).of_heap (by simp [World.memory, World.forCall, Input.heap])

theorem vars3 {H : Type} {enc : TypeId × Value → H} {P : Program} {w : World} {spare : Nat → Bool} {n0 n1 n2 : String} {gs : List (DataW H)} {ps : List MemPlace} (h : DataW.TrodVars enc P w spare [n0, n1, n2] gs ps) : ∃ d0 d1 d2, gs = [d0, d1, d2] := by
  cases gs with
  | nil => simp [DataW.TrodVars] at h
  | cons d ds =>
    obtain ⟨_, _, _, _, _, q, _, _, _, _, hs, _⟩ := h
    obtain ⟨_, _, _, _, e0, _, _, _, _, _, e1, _, rfl, _⟩ := trodVars_two hs
    exact ⟨_, _, _, rfl⟩

theorem senA_laid {w : World} (h : laidMetH Tryz.prog laidA w) : SenWA w := by
  have h0 := h.filter (fun x => x.1 == "errors.errorType")
  have h1 := h.filter (fun x => x.1 == "loop.example/g00379/impl.errNotRight" || x.1 == "loop.example/g00379/impl.errNotSo")
  have h2 := h.filter (fun x => x.1 == "loop.example/g00379/impl.errNotRight" || x.1 == "loop.example/g00379/impl.errThere")
  rw [show laidA.filter (fun x => x.1 == "errors.errorType") = [("errors.errorType", Rows.laid_errors_errorType)] by kernel_rfl] at h0
  rw [show laidA.filter (fun x => x.1 == "loop.example/g00379/impl.errNotRight" || x.1 == "loop.example/g00379/impl.errNotSo") = [("loop.example/g00379/impl.errNotRight", Rows.laid_loop_example_g00379_impl_errNotRight), ("loop.example/g00379/impl.errNotSo", Rows.laid_loop_example_g00379_impl_errNotSo)] by kernel_rfl, MakeChecks.laidMetH_plain _ _ _ (by kernel_rfl)] at h1
  rw [show laidA.filter (fun x => x.1 == "loop.example/g00379/impl.errNotRight" || x.1 == "loop.example/g00379/impl.errThere") = [("loop.example/g00379/impl.errNotRight", Rows.laid_loop_example_g00379_impl_errNotRight), ("loop.example/g00379/impl.errThere", Rows.laid_loop_example_g00379_impl_errThere)] by kernel_rfl, MakeChecks.laidMetH_plain _ _ _ (by kernel_rfl)] at h2
  exact senA_of h0 h1 h2

end Go.Proofs.YtnjepdggefchnaaGreatDoor
