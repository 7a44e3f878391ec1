/- The program's askingGate. The program's Asks. The specification's Asks. -/
import Derived.Test.YtgdfeicojgnoaaaGreatDoorM35
import Derived.Test.YtgdfeicojgnoaaaGreatDoorM32
import Derived.Test.YtgdfeicojgnoaaaGreatDoorM6
import Derived.Test.YtgdfeicojgnoaaaGreatDoorM13
import Derived.Test.YtgdfeicojgnoaaaGreatDoorM16
import Derived.Test.YtgdfeicojgnoaaaGreatDoorM12
import Derived.Test.YtgdfeicojgnoaaaGreatDoorM3
import Derived.Deep.RegionHeld3
namespace Go.Proofs.YtgdfeicojgnoaaaGreatDoor
open Go.RowKit
set_option linter.unusedVariables false
set_option linter.unusedSimpArgs false

theorem blk_allocA {w : World} {B : Nat} {o : Obj} (h : w.heap[B]? = some o) (o' : Obj) : (w.alloc o').heap[B]? = some o := (Below.heap_alloc w o' B (lt_of_heap h)).trans h

set_option maxRecDepth 8000 in
set_option maxHeartbeats 16000000 in
theorem cAskNo (g : Gt) (ah : Option Addr) (ch : Nat) (aa : Option Addr) (ca : Nat) (ar : Option Addr) (cr : Nat) (id : ByteArray) (til : Int) (a0 a1 a2 : Addr) (w : World) (hS : SenA a0 a1 a2 w) (hR : GtRow w g ah aa ar) (hz : GtSz 1048576 g) (hg : gateB g = false) :
    Calls Tryz.prog 30 #[gtV g ah ch aa ca ar cr, .string id, .int .i64 til] w fun e w' => e = .returned (.tuple #[.agg #[.string ⟨#[]⟩, .slice none 0 0, .int .i64 0, .int .i64 0, .int .i64 0, .slice none 0 0, .int .i64 0, .slice none 0 0], erV (.wrap 3 (.base a0))]) ∧ Below w.heap.size w w' := by
  have CO := hid (fun wx (h : Below w.heap.size w wx) => cGateOkI g ah ch aa ca ar cr wx (hR.below h) hz)
  have HS := hid hS
  rw [hg] at CO
  unfold gtV at CO
  rw [show gtV g ah ch aa ca ar cr = .agg #[.string g.name, .slice ah g.hands.length ch, .int .i64 g.skew, .int .i64 g.now, .int .i64 g.ask.most, .slice aa g.ask.rows.length ca, .int .i64 g.hrd.most, .slice ar g.hrd.rows.length cr] from rfl]
  clear hR hz hg hS
  generalize g.name = x at *
  generalize g.skew = sk at *
  generalize g.now = nw at *
  generalize g.ask.most = am at *
  generalize g.hrd.most = rm at *
  generalize g.hands.length = nh at *
  generalize g.ask.rows.length = na at *
  generalize g.hrd.rows.length = nr at *
  obtain ⟨b1, b2⟩ := u_heap2 w (.cells #[.string x, .slice ah nh ch, .int .i64 sk, .int .i64 nw, .int .i64 am, .slice aa na ca, .int .i64 rm, .slice ar nr cr] 29) (.cells #[.string ⟨#[]⟩, .slice none 0 0, .int .i64 0, .int .i64 0, .int .i64 0, .slice none 0 0, .int .i64 0, .slice none 0 0] 29)
  have HB0 := hid (((Below.refl w.heap.size w).alloc (Nat.le_refl _) (.cells #[.string x, .slice ah nh ch, .int .i64 sk, .int .i64 nw, .int .i64 am, .slice aa na ca, .int .i64 rm, .slice ar nr cr] 29)).alloc (by simp) (.cells #[.string ⟨#[]⟩, .slice none 0 0, .int .i64 0, .int .i64 0, .int .i64 0, .slice none 0 0, .int .i64 0, .slice none 0 0] 29))
  obtain ⟨W0, hW0⟩ : ∃ W0, (w.alloc (.cells #[.string x, .slice ah nh ch, .int .i64 sk, .int .i64 nw, .int .i64 am, .slice aa na ca, .int .i64 rm, .slice ar nr cr] 29)).alloc (.cells #[.string ⟨#[]⟩, .slice none 0 0, .int .i64 0, .int .i64 0, .int .i64 0, .slice none 0 0, .int .i64 0, .slice none 0 0] 29) = W0 := ⟨_, rfl⟩
  rw [hW0] at b1 b2 HB0
  obtain ⟨B, hB⟩ : ∃ B, w.heap.size = B := ⟨_, rfl⟩
  have HBE := hid hB
  rw [hB] at b1 b2
  have HM1 := hid b1
  have HM2 := hid b2
  clear b1 b2
  have hgB : ¬ 0 = B + 1 := by have := lt_of_cell HS.out.cells.1; omega
  have hgC := hgB
  have hgD : ¬ B + 1 = 0 := fun e => hgB e.symm
  (try simp at hgC)
  obtain ⟨⟨f0, f1, f2, f3, f4, f5, f6, f7⟩, ff⟩ := g_box8f HM1.out
  clear ff

  unfold erV
  unfold erV
  go_enter Tryz.func30, Tryz.ntmps30
  go_wp2_with fail
  refine (CO.out _ HB0.out).mono ?_
  rintro e w1 ⟨rfl, hb1⟩
  have HBf := hid (bb HB0.out hb1)
  have HZ := hid (u_blk_below HM2.out hb1)
  have e0 := (HS.out.below HBf.out).cells.1
  unfold erV at e0
  clear hb1 CO f0 f1 f2 f3 f4 f5 f6 f7 hW0
  obtain ⟨⟨k0, k1, k2, k3, k4, k5, k6, k7⟩, kf⟩ := g_box8f HZ.out
  have kf0 := kf 0
  have kf1 := kf 1
  have kf2 := kf 2
  have kf3 := kf 3
  have kf4 := kf 4
  have kf5 := kf 5
  have kf6 := kf 6
  have kf7 := kf 7
  clear kf

  go_wp2_with fail
  go_region
  go_wp2_with fail
  refine bodyPost_ret (v := .tuple #[.agg #[.string ⟨#[]⟩, .slice none 0 0, .int .i64 0, .int .i64 0, .int .i64 0, .slice none 0 0, .int .i64 0, .slice none 0 0], .iface 102 (.agg #[.int .i64 3, .iface 229 (.pointer (some a0))])]) (by simp [results, Tryz.results30, go_sem, k0, k1, k2, k3, k4, k5, k6, k7]) rfl ⟨rfl, ?_⟩
  refine Below.drew ?_
  iterate 8 refine Below.setCell ?_ (show w.heap.size ≤ B + 1 by omega) _
  exact HBf.out

set_option maxRecDepth 8000 in
set_option maxHeartbeats 16000000 in
theorem cAskErr (g : Gt) (ah : Option Addr) (ch : Nat) (aa : Option Addr) (ca : Nat) (ar : Option Addr) (cr : Nat) (id : ByteArray) (til : Int) (c : Int) (b : Addr) (w : World) (hR : GtRow w g ah aa ar) (hz : GtSz 1048576 g) (hg : gateB g = true)
    (hW : ∀ wx, Below w.heap.size w wx → Calls Tryz.prog 68 #[tbV g.ask aa ca, .string id, .int .i64 til] wx fun e w' => e = .returned (.tuple #[.agg #[.int .i64 0, .slice none 0 0], erV (.wrap c (.base b))]) ∧ Below wx.heap.size wx w') :
    Calls Tryz.prog 30 #[gtV g ah ch aa ca ar cr, .string id, .int .i64 til] w fun e w' => e = .returned (.tuple #[.agg #[.string ⟨#[]⟩, .slice none 0 0, .int .i64 0, .int .i64 0, .int .i64 0, .slice none 0 0, .int .i64 0, .slice none 0 0], erV (.wrap c (.base b))]) ∧ Below w.heap.size w w' := by
  have CO := hid (fun wx (h : Below w.heap.size w wx) => cGateOkI g ah ch aa ca ar cr wx (hR.below h) hz)
  have CW := hid hW
  rw [hg] at CO
  unfold gtV at CO
  unfold tbV at CW
  unfold erV at CW ⊢
  unfold erV
  unfold erV at CW
  rw [show gtV g ah ch aa ca ar cr = .agg #[.string g.name, .slice ah g.hands.length ch, .int .i64 g.skew, .int .i64 g.now, .int .i64 g.ask.most, .slice aa g.ask.rows.length ca, .int .i64 g.hrd.most, .slice ar g.hrd.rows.length cr] from rfl]
  clear hR hz hg hW
  generalize g.name = x at *
  generalize g.skew = sk at *
  generalize g.now = nw at *
  generalize g.ask.most = am at *
  generalize g.hrd.most = rm at *
  generalize g.hands.length = nh at *
  generalize g.ask.rows.length = na at *
  generalize g.hrd.rows.length = nr at *
  obtain ⟨b1, b2⟩ := u_heap2 w (.cells #[.string x, .slice ah nh ch, .int .i64 sk, .int .i64 nw, .int .i64 am, .slice aa na ca, .int .i64 rm, .slice ar nr cr] 29) (.cells #[.string ⟨#[]⟩, .slice none 0 0, .int .i64 0, .int .i64 0, .int .i64 0, .slice none 0 0, .int .i64 0, .slice none 0 0] 29)
  have HB0 := hid (((Below.refl w.heap.size w).alloc (Nat.le_refl _) (.cells #[.string x, .slice ah nh ch, .int .i64 sk, .int .i64 nw, .int .i64 am, .slice aa na ca, .int .i64 rm, .slice ar nr cr] 29)).alloc (by simp) (.cells #[.string ⟨#[]⟩, .slice none 0 0, .int .i64 0, .int .i64 0, .int .i64 0, .slice none 0 0, .int .i64 0, .slice none 0 0] 29))
  obtain ⟨W0, hW0⟩ : ∃ W0, (w.alloc (.cells #[.string x, .slice ah nh ch, .int .i64 sk, .int .i64 nw, .int .i64 am, .slice aa na ca, .int .i64 rm, .slice ar nr cr] 29)).alloc (.cells #[.string ⟨#[]⟩, .slice none 0 0, .int .i64 0, .int .i64 0, .int .i64 0, .slice none 0 0, .int .i64 0, .slice none 0 0] 29) = W0 := ⟨_, rfl⟩
  rw [hW0] at b1 b2 HB0
  obtain ⟨B, hB⟩ : ∃ B, w.heap.size = B := ⟨_, rfl⟩
  have HBE := hid hB
  rw [hB] at b1 b2
  have HM1 := hid b1
  have HM2 := hid b2
  clear b1 b2
  obtain ⟨⟨f0, f1, f2, f3, f4, f5, f6, f7⟩, ff⟩ := g_box8f HM1.out
  clear ff

  go_enter Tryz.func30, Tryz.ntmps30
  go_wp2_with fail
  refine (CO.out _ HB0.out).mono ?_
  rintro e w1 ⟨rfl, hb1⟩
  have HB1 := hid (bb HB0.out hb1)
  have HZ1 := hid (u_blk_below HM2.out hb1)
  have HF1 := hid (u_blk_below HM1.out hb1)
  clear hb1 CO f0 f1 f2 f3 f4 f5 f6 f7 hW0
  obtain ⟨⟨f0, f1, f2, f3, f4, f5, f6, f7⟩, ff⟩ := g_box8f HF1.out
  clear ff

  go_wp2_with fail
  refine (CW.out _ HB1.out).mono ?_
  rintro e w2 ⟨rfl, hb2⟩
  have HB2 := hid ((bb HB1.out hb2).alloc (bb HB1.out hb2).size (.cells #[.int .i64 0, .slice none 0 0] 27))
  have HZ := hid (blk_allocA (u_blk_below HZ1.out hb2) (.cells #[.int .i64 0, .slice none 0 0] 27))
  clear hb2 CW f0 f1 f2 f3 f4 f5 f6 f7
  obtain ⟨⟨k0, k1, k2, k3, k4, k5, k6, k7⟩, kf⟩ := g_box8f HZ.out
  have kf0 := kf 0
  have kf1 := kf 1
  have kf2 := kf 2
  have kf3 := kf 3
  have kf4 := kf 4
  have kf5 := kf 5
  have kf6 := kf 6
  have kf7 := kf 7
  clear kf

  go_wp2_with fail
  refine bodyPost_ret (v := .tuple #[.agg #[.string ⟨#[]⟩, .slice none 0 0, .int .i64 0, .int .i64 0, .int .i64 0, .slice none 0 0, .int .i64 0, .slice none 0 0], .iface 102 (.agg #[.int .i64 c, .iface 229 (.pointer (some b))])]) (by simp [results, Tryz.results30, go_sem, k0, k1, k2, k3, k4, k5, k6, k7]) rfl ⟨rfl, ?_⟩
  iterate 8 refine Below.setCell ?_ (show w.heap.size ≤ B + 1 by omega) _
  exact HB2.out

set_option maxRecDepth 8000 in
set_option maxHeartbeats 16000000 in
theorem cAskIn (g : Gt) (ah : Option Addr) (ch : Nat) (aa : Option Addr) (ca : Nat) (ar : Option Addr) (cr : Nat) (id : ByteArray) (til : Int) (T : Tb) (w : World) (hR : GtRow w g ah aa ar) (hz : GtSz 1048576 g) (hg : gateB g = true)
    (hW : ∀ wx, Below w.heap.size w wx → Calls Tryz.prog 68 #[tbV g.ask aa ca, .string id, .int .i64 til] wx fun e w' => ∃ a' c', e = .returned (.tuple #[tbV T a' c', .nilIface]) ∧ OwnRo w' wx.heap.size a' T.rows ∧ Below wx.heap.size wx w') :
    Calls Tryz.prog 30 #[gtV g ah ch aa ca ar cr, .string id, .int .i64 til] w fun e w' => ∃ ah' ch' aa' ca' ar' cr', e = .returned (.tuple #[gtV (askedG g T) ah' ch' aa' ca' ar' cr', .nilIface]) ∧ GtOwn w' w.heap.size (askedG g T) ah' aa' ar' ∧ Below w.heap.size w w' := by
  have CO := hid (fun wx (h : Below w.heap.size w wx) => cGateOkI g ah ch aa ca ar cr wx (hR.below h) hz)
  have CW := hid hW
  have C1 := hid (fun wx (h : Below w.heap.size w wx) => (cCopiedTable g.hrd ar cr wx (hR.2.2.below h) hz.2.2.2.2.2.1 (gate_rowsA hg).2.2).mono (R' := fun e w' => ∃ a' c', e = .returned (tbV g.hrd a' c') ∧ OwnRo w' wx.heap.size a' g.hrd.rows ∧ Below wx.heap.size wx w') (fun e w' hh => by
    obtain ⟨a', c', h1, h2, h3⟩ := hh
    obtain ⟨a2, c2, e2, o2⟩ := own_ro h2 rfl
    cases e2
    exact ⟨a', c', h1, o2, h3⟩))
  have CG := hid (fun (am' : Int) (aa' : Option Addr) (na' ca' : Nat) (rm' : Int) (ar' : Option Addr) (nr' cr' : Nat) wx (h : Below w.heap.size w wx) => (cGateWith g.name g.hands ah ch g.skew g.now g.ask.most aa g.ask.rows.length ca g.hrd.most ar g.hrd.rows.length cr am' aa' na' ca' rm' ar' nr' cr' wx (hR.1.below h) hz.2.1 (gate_rowsA hg).1 hz.1).mono (R' := fun e w' => ∃ ah' ch', e = .returned (.agg #[.string g.name, .slice ah' g.hands.length ch', .int .i64 g.skew, .int .i64 g.now, .int .i64 am', .slice aa' na' ca', .int .i64 rm', .slice ar' nr' cr']) ∧ OwnHd w' wx.heap.size ah' g.hands ∧ Below wx.heap.size wx w') (fun e w' hh => by
    obtain ⟨a', c', h1, h2, h3⟩ := hh
    obtain ⟨a2, c2, e2, h4⟩ := own_hd h2 rfl
    cases e2
    exact ⟨a', c', h1, h4, h3⟩))
  have HGA := hid (show ∀ a1 c1 a2 c2 a3 c3, gtV (askedG g T) a1 c1 a2 c2 a3 c3 = .agg #[.string g.name, .slice a1 g.hands.length c1, .int .i64 g.skew, .int .i64 g.now, .int .i64 T.most, .slice a2 T.rows.length c2, .int .i64 g.hrd.most, .slice a3 g.hrd.rows.length c3] from fun a1 c1 a2 c2 a3 c3 => rfl)
  have HFIN := hid (fun (w2 w3 w4 w5 wz : World) (K2 K4 K5 Bx R : Nat) (a2 a4 a5 : Option Addr) (o2 : OwnRo w2 K2 a2 T.rows) (b24 : Below w2.heap.size w2 w4) (hK : w2.heap.size ≤ K4) (o4 : OwnRo w4 K4 a4 g.hrd.rows) (b45 : Below w4.heap.size w4 w5) (o5 : OwnHd w5 K5 a5 g.hands) (hk : u_KeepB (fun b => b = R) w5 wz) (r2 : R < K2) (r4 : R < K4) (r5 : R < K5) (q2 : Bx ≤ K2) (q4 : Bx ≤ K4) (q5 : Bx ≤ K5) => (show GtOwn wz Bx (askedG g T) a5 a2 a4 from
    ⟨(hd_stands o5 (Below.refl _ _) hk (.inl r5)).mono q5, (ro_stands o2 (bb b24 b45) hk (.inl r2)).mono q2, (ro_stands o4 b45 hk (.inl r4)).mono q4, apart_of o2 hK o4⟩))
  rw [hg] at CO
  obtain ⟨N, hN⟩ : ∃ N, askedG g T = N := ⟨_, rfl⟩
  rw [hN] at HFIN ⊢
  simp only [hN] at HGA
  clear hN
  unfold gtV at CO
  unfold tbV at CW C1
  rw [show gtV g ah ch aa ca ar cr = .agg #[.string g.name, .slice ah g.hands.length ch, .int .i64 g.skew, .int .i64 g.now, .int .i64 g.ask.most, .slice aa g.ask.rows.length ca, .int .i64 g.hrd.most, .slice ar g.hrd.rows.length cr] from rfl]
  clear hR hz hg hW
  generalize T.most = tm at *
  generalize T.rows = tr at *
  generalize tr.length = tn at *
  generalize g.name = x at *
  generalize g.skew = sk at *
  generalize g.now = nw at *
  generalize g.ask.most = am at *
  generalize g.hrd.most = rm at *
  generalize g.hands.length = nh at *
  generalize g.ask.rows.length = na at *
  generalize g.hrd.rows.length = nr at *
  obtain ⟨b1, b2⟩ := u_heap2 w (.cells #[.string x, .slice ah nh ch, .int .i64 sk, .int .i64 nw, .int .i64 am, .slice aa na ca, .int .i64 rm, .slice ar nr cr] 29) (.cells #[.string ⟨#[]⟩, .slice none 0 0, .int .i64 0, .int .i64 0, .int .i64 0, .slice none 0 0, .int .i64 0, .slice none 0 0] 29)
  have HB0 := hid (((Below.refl w.heap.size w).alloc (Nat.le_refl _) (.cells #[.string x, .slice ah nh ch, .int .i64 sk, .int .i64 nw, .int .i64 am, .slice aa na ca, .int .i64 rm, .slice ar nr cr] 29)).alloc (by simp) (.cells #[.string ⟨#[]⟩, .slice none 0 0, .int .i64 0, .int .i64 0, .int .i64 0, .slice none 0 0, .int .i64 0, .slice none 0 0] 29))
  obtain ⟨W0, hW0⟩ : ∃ W0, (w.alloc (.cells #[.string x, .slice ah nh ch, .int .i64 sk, .int .i64 nw, .int .i64 am, .slice aa na ca, .int .i64 rm, .slice ar nr cr] 29)).alloc (.cells #[.string ⟨#[]⟩, .slice none 0 0, .int .i64 0, .int .i64 0, .int .i64 0, .slice none 0 0, .int .i64 0, .slice none 0 0] 29) = W0 := ⟨_, rfl⟩
  rw [hW0] at b1 b2 HB0
  obtain ⟨B, hB⟩ : ∃ B, w.heap.size = B := ⟨_, rfl⟩
  have HBE := hid hB
  rw [hB] at b1 b2
  have HM1 := hid b1
  have HM2 := hid b2
  clear b1 b2
  obtain ⟨⟨f0, f1, f2, f3, f4, f5, f6, f7⟩, ff⟩ := g_box8f HM1.out
  clear ff

  go_enter Tryz.func30, Tryz.ntmps30
  go_wp2_with fail
  refine (CO.out _ HB0.out).mono ?_
  rintro e w1 ⟨rfl, hb1⟩
  have HB1 := hid (bb HB0.out hb1)
  have HZ1 := hid (u_blk_below HM2.out hb1)
  have HF1 := hid (u_blk_below HM1.out hb1)
  have HLT := hid (show B + 1 < w1.heap.size from lt_of_heap HZ1.out)
  clear hb1 CO f0 f1 f2 f3 f4 f5 f6 f7 hW0
  obtain ⟨⟨f0, f1, f2, f3, f4, f5, f6, f7⟩, ff⟩ := g_box8f HF1.out
  clear ff

  go_wp2_with fail
  refine (CW.out _ HB1.out).mono ?_
  rintro e w2 ⟨h2, e2, rfl, ho2, hb2⟩
  have HO2 := hid ho2
  have HA := hid ((Below.refl w2.heap.size w2).alloc (Nat.le_refl _) (.cells #[.int .i64 tm, .slice h2 tn e2] 27))
  have HMM := hid (heap_alloc_new w2 (.cells #[.int .i64 tm, .slice h2 tn e2] 27))
  obtain ⟨w3, hw3⟩ : ∃ w3, w2.alloc (.cells #[.int .i64 tm, .slice h2 tn e2] 27) = w3 := ⟨_, rfl⟩
  have HW3 := hid hw3
  rw [hw3] at HA HMM
  obtain ⟨M, hM⟩ : ∃ M, w2.heap.size = M := ⟨_, rfl⟩
  have HME := hid hM
  rw [hM] at HMM
  have HMB := hid (show B + 1 < M by have h1 := hb2.size; have h3 := HLT.out; omega)
  have HS12 := hid hb2.size
  have HB3 := hid (bb HB1.out (bb hb2 HA.out))
  have HZ3 := hid (u_blk_below HZ1.out (bb hb2 HA.out))
  have HF3 := hid (u_blk_below HF1.out (bb hb2 HA.out))
  clear ho2 hb2 CW hw3 f0 f1 f2 f3 f4 f5 f6 f7
  go_upto_region 6 with fail
  rw [HW3.out]
  clear HW3 hM
  have HBc := hid (u_KeepB.of_below (fun b => b = B + 1) ((Below.refl w3.heap.size w3).drew))
  have HBb := hid ((Below.refl w3.heap.size w3).drew)
  have HSX := hid (show ∀ w', u_KeepB (fun b => b = B + 1) w3 w' → (w'.cell? ⟨B, 0, none⟩ = some (.string x) ∧ w'.cell? ⟨B, 1, none⟩ = some (.slice ah nh ch) ∧ w'.cell? ⟨B, 2, none⟩ = some (.int .i64 sk) ∧ w'.cell? ⟨B, 3, none⟩ = some (.int .i64 nw) ∧ w'.cell? ⟨B, 4, none⟩ = some (.int .i64 am) ∧ w'.cell? ⟨B, 5, none⟩ = some (.slice aa na ca) ∧ w'.cell? ⟨B, 6, none⟩ = some (.int .i64 rm) ∧ w'.cell? ⟨B, 7, none⟩ = some (.slice ar nr cr) ∧ w'.cell? ⟨M, 0, none⟩ = some (.int .i64 tm) ∧ w'.cell? ⟨M, 1, none⟩ = some (.slice h2 tn e2)) from fun w' hk => by
    obtain ⟨q0, q1, q2, q3, q4, q5, q6, q7⟩ := (g_box8f ((hk.block B (lt_of_heap HF3.out) (fun e => by have e' : B = B + 1 := e; omega)).trans HF3.out)).1
    obtain ⟨⟨p0, p1⟩, _⟩ := u_box2f ((hk.block M (lt_of_heap HMM.out) (fun e => by have e' : M = B + 1 := e; have := HMB.out; omega)).trans HMM.out)
    exact ⟨q0, q1, q2, q3, q4, q5, q6, q7, p0, p1⟩)
  go_region_held3 (fun w' => (w'.cell? ⟨B, 0, none⟩ = some (.string x) ∧ w'.cell? ⟨B, 1, none⟩ = some (.slice ah nh ch) ∧ w'.cell? ⟨B, 2, none⟩ = some (.int .i64 sk) ∧ w'.cell? ⟨B, 3, none⟩ = some (.int .i64 nw) ∧ w'.cell? ⟨B, 4, none⟩ = some (.int .i64 am) ∧ w'.cell? ⟨B, 5, none⟩ = some (.slice aa na ca) ∧ w'.cell? ⟨B, 6, none⟩ = some (.int .i64 rm) ∧ w'.cell? ⟨B, 7, none⟩ = some (.slice ar nr cr) ∧ w'.cell? ⟨M, 0, none⟩ = some (.int .i64 tm) ∧ w'.cell? ⟨M, 1, none⟩ = some (.slice h2 tn e2))) (first | with_reducible exact HSX.out _ HBc.out | with_reducible exact HSX.out _ (HBc.out.trans (keep8 _ _ _ _ _ _ _ _ _ _)))
    (first
      | (go_at_call 69; with_reducible refine (C1.out _ (bb HB3.out HBb.out)).mono ?_; rintro e w4 ⟨h4, e4, rfl, ho4, hb4⟩; have HO4 := hid ho4; have HK4 := hid HBb.out.size; replace HBb := hid (bb HBb.out hb4); replace HBc := hid (u_KeepB.of_below (fun b => b = B + 1) HBb.out); have HX4 := hid (show Below w3.heap.size w3 w4 from HBb.out); clear ho4 hb4)
      | (go_at_call 64; with_reducible refine (CG.out tm h2 tn e2 rm h4 nr e4 _ (bb HB3.out HBb.out)).mono ?_; rintro e w5 ⟨h5, e5, rfl, ho5, hb5⟩; have HO5 := hid ho5; have HK5 := hid HBb.out.size; have HX5 := hid hb5; replace HBb := hid (bb HBb.out hb5); replace HBc := hid (u_KeepB.of_below (fun b => b = B + 1) HBb.out); have HZ5 := hid (u_blk_below HZ3.out HBb.out); obtain ⟨⟨k0, k1, k2, k3, k4, k5, k6, k7⟩, kf⟩ := g_box8f HZ5.out; have kf0 := kf 0; have kf1 := kf 1; have kf2 := kf 2; have kf3 := kf 3; have kf4 := kf 4; have kf5 := kf 5; have kf6 := kf 6; have kf7 := kf 7; clear kf ho5 hb5))
  go_wp2_with fail
  refine bodyPost_ret (v := .tuple #[.agg #[.string x, .slice h5 nh e5, .int .i64 sk, .int .i64 nw, .int .i64 tm, .slice h2 tn e2, .int .i64 rm, .slice h4 nr e4], .nilIface]) (by simp [results, Tryz.results30, go_sem, k0, k1, k2, k3, k4, k5, k6, k7]) rfl ⟨h5, e5, h2, e2, h4, e4, by rw [HGA.out], ?_, ?_⟩
  · have hA := HA.out.size
    have q1 := HS12.out
    have q3 := HLT.out
    have q4 := HK4.out
    have q5 := HK5.out
    exact HFIN.out w2 w3 w4 w5 _ _ _ _ w.heap.size (B + 1) h2 h4 h5 HO2.out (bb HA.out HX4.out) (by omega) HO4.out HX5.out HO5.out (keep8 _ (B + 1) _ _ _ _ _ _ _ _) (by omega) (by omega) (by omega) (by have := HB1.out.size; omega) (by have := HB1.out.size; omega) (by have := HB1.out.size; omega)
  · iterate 8 refine Below.setCell ?_ (show w.heap.size ≤ B + 1 by omega) _
    exact bb HB3.out HBb.out

end Go.Proofs.YtgdfeicojgnoaaaGreatDoor

namespace Go.Proofs.YtgdfeicojgnoaaaGreatDoor
open Go.RowKit
set_option linter.unusedVariables false
set_option linter.unusedSimpArgs false

set_option maxRecDepth 8000 in
set_option maxHeartbeats 16000000 in
theorem cAsksBad (g : Gt) (ah : Option Addr) (ch : Nat) (aa : Option Addr) (ca : Nat) (ar : Option Addr) (cr : Nat) (id : ByteArray) (til : Int) (a0 a1 a2 : Addr) (c : Int) (w : World) (hS : SenA a0 a1 a2 w) (hR : GtRow w g ah aa ar) (hz : GtSz 1048576 g)
    (hA : ∀ wx, Below w.heap.size w wx → Calls Tryz.prog 30 #[gtV g ah ch aa ca ar cr, .string id, .int .i64 til] wx fun e w' => e = .returned (.tuple #[.agg #[.string ⟨#[]⟩, .slice none 0 0, .int .i64 0, .int .i64 0, .int .i64 0, .slice none 0 0, .int .i64 0, .slice none 0 0], erV (.wrap c (.base a0))]) ∧ Below wx.heap.size wx w') :
    Calls Tryz.prog 9 #[gtV g ah ch aa ca ar cr, .string id, .int .i64 til] w fun e w' => e = .returned (.tuple #[.agg #[.string ⟨#[]⟩, .slice none 0 0, .int .i64 0, .int .i64 0, .int .i64 0, .slice none 0 0, .int .i64 0, .slice none 0 0], .int .i64 c]) ∧ Below w.heap.size w w' := by
  have HS := hid hS
  have CA := hid hA
  have CS := hid (fun (x : ByteArray) (nh : Nat) (sk nw am : Int) (na : Nat) (rm : Int) (nr : Nat) wx (h : SenA a0 a1 a2 wx) => cSetBadW x ah nh ch sk nw am aa na ca rm ar nr cr ⟨#[]⟩ none 0 0 0 0 0 none 0 0 0 none 0 0 c a0 a1 a2 wx h)
  have CC := hid (fun wx (h : SenA a0 a1 a2 wx) => cCodeOf c a0 wx h.2.2.2)
  unfold gtV at CA
  unfold erV at CA CS CC
  unfold erV at CA CS CC
  rw [show gtV g ah ch aa ca ar cr = .agg #[.string g.name, .slice ah g.hands.length ch, .int .i64 g.skew, .int .i64 g.now, .int .i64 g.ask.most, .slice aa g.ask.rows.length ca, .int .i64 g.hrd.most, .slice ar g.hrd.rows.length cr] from rfl]
  clear hR hz hS hA
  generalize g.name = x at *
  generalize g.skew = sk at *
  generalize g.now = nw at *
  generalize g.ask.most = am at *
  generalize g.hrd.most = rm at *
  generalize g.hands.length = nh at *
  generalize g.ask.rows.length = na at *
  generalize g.hrd.rows.length = nr at *
  obtain ⟨b1, b2⟩ := u_heap2 w (.cells #[.string x, .slice ah nh ch, .int .i64 sk, .int .i64 nw, .int .i64 am, .slice aa na ca, .int .i64 rm, .slice ar nr cr] 29) (.cells #[.string ⟨#[]⟩, .slice none 0 0, .int .i64 0, .int .i64 0, .int .i64 0, .slice none 0 0, .int .i64 0, .slice none 0 0] 29)
  have HB0 := hid (((Below.refl w.heap.size w).alloc (Nat.le_refl _) (.cells #[.string x, .slice ah nh ch, .int .i64 sk, .int .i64 nw, .int .i64 am, .slice aa na ca, .int .i64 rm, .slice ar nr cr] 29)).alloc (by simp) (.cells #[.string ⟨#[]⟩, .slice none 0 0, .int .i64 0, .int .i64 0, .int .i64 0, .slice none 0 0, .int .i64 0, .slice none 0 0] 29))
  obtain ⟨W0, hW0⟩ : ∃ W0, (w.alloc (.cells #[.string x, .slice ah nh ch, .int .i64 sk, .int .i64 nw, .int .i64 am, .slice aa na ca, .int .i64 rm, .slice ar nr cr] 29)).alloc (.cells #[.string ⟨#[]⟩, .slice none 0 0, .int .i64 0, .int .i64 0, .int .i64 0, .slice none 0 0, .int .i64 0, .slice none 0 0] 29) = W0 := ⟨_, rfl⟩
  rw [hW0] at b1 b2 HB0
  obtain ⟨B, hB⟩ : ∃ B, w.heap.size = B := ⟨_, rfl⟩
  have HBE := hid hB
  rw [hB] at b1 b2
  have HM1 := hid b1
  have HM2 := hid b2
  clear b1 b2
  obtain ⟨⟨f0, f1, f2, f3, f4, f5, f6, f7⟩, ff⟩ := g_box8f HM1.out
  clear ff

  go_enter Tryz.func9, Tryz.ntmps9
  go_wp2_with fail
  refine (CA.out _ HB0.out).mono ?_
  rintro e w1 ⟨rfl, hb1⟩
  have HB1 := hid (bb HB0.out hb1)
  have HA := hid ((Below.refl w1.heap.size w1).alloc (Nat.le_refl _) (.cells #[.string ⟨#[]⟩, .slice none 0 0, .int .i64 0, .int .i64 0, .int .i64 0, .slice none 0 0, .int .i64 0, .slice none 0 0] 29))
  have HMM := hid (heap_alloc_new w1 (.cells #[.string ⟨#[]⟩, .slice none 0 0, .int .i64 0, .int .i64 0, .int .i64 0, .slice none 0 0, .int .i64 0, .slice none 0 0] 29))
  obtain ⟨w2, hw2⟩ : ∃ w2, w1.alloc (.cells #[.string ⟨#[]⟩, .slice none 0 0, .int .i64 0, .int .i64 0, .int .i64 0, .slice none 0 0, .int .i64 0, .slice none 0 0] 29) = w2 := ⟨_, rfl⟩
  have HW2 := hid hw2
  rw [hw2] at HA HMM
  obtain ⟨M, hM⟩ : ∃ M, w1.heap.size = M := ⟨_, rfl⟩
  have HME := hid hM
  rw [hM] at HMM
  have HB2 := hid (bb HB1.out HA.out)
  have HZ2 := hid (u_blk_below HM2.out (bb hb1 HA.out))
  have HF2 := hid (u_blk_below HM1.out (bb hb1 HA.out))
  have HLT := hid (show B + 1 < W0.heap.size from lt_of_heap HM2.out)
  have HS12 := hid hb1.size
  clear hb1 CA hw2 hW0 f0 f1 f2 f3 f4 f5 f6 f7
  go_upto_region 2 with fail
  rw [HW2.out]
  clear HW2 hM
  obtain ⟨⟨f0, f1, f2, f3, f4, f5, f6, f7⟩, ff⟩ := g_box8f HF2.out
  clear ff
  obtain ⟨⟨n0, n1, n2, n3, n4, n5, n6, n7⟩, nf⟩ := g_box8f HMM.out
  clear nf

  go_wp2_with fail
  refine (CS.out _ _ _ _ _ _ _ _ _ (HS.out.below HB2.out)).mono ?_
  rintro e w3 ⟨rfl, hb3⟩
  have HB3 := hid (bb HB2.out hb3)
  have HZ3 := hid (u_blk_below HZ2.out hb3)
  clear hb3 CS f0 f1 f2 f3 f4 f5 f6 f7 n0 n1 n2 n3 n4 n5 n6 n7
  go_wp2_with fail
  refine (CC.out _ (HS.out.below HB3.out)).mono ?_
  rintro e w4 ⟨rfl, hb4⟩
  have HB4 := hid (bb HB3.out hb4)
  have HX4 := hid hb4
  have HZ4 := hid (u_blk_below HZ3.out hb4)
  clear hb4 CC
  obtain ⟨⟨k0, k1, k2, k3, k4, k5, k6, k7⟩, kf⟩ := g_box8f HZ4.out
  have kf0 := kf 0
  have kf1 := kf 1
  have kf2 := kf 2
  have kf3 := kf 3
  have kf4 := kf 4
  have kf5 := kf 5
  have kf6 := kf 6
  have kf7 := kf 7
  clear kf

  go_wp2_with fail
  refine bodyPost_ret (v := .tuple #[.agg #[.string ⟨#[]⟩, .slice none 0 0, .int .i64 0, .int .i64 0, .int .i64 0, .slice none 0 0, .int .i64 0, .slice none 0 0], .int .i64 c]) (by simp [results, Tryz.results9, go_sem, k0, k1, k2, k3, k4, k5, k6, k7]) rfl ⟨rfl, ?_⟩
  · iterate 8 refine Below.setCell ?_ (show w.heap.size ≤ B + 1 by omega) _
    exact HB4.out

set_option maxRecDepth 8000 in
set_option maxHeartbeats 16000000 in
theorem cAsksOld (g : Gt) (ah : Option Addr) (ch : Nat) (aa : Option Addr) (ca : Nat) (ar : Option Addr) (cr : Nat) (id : ByteArray) (til : Int) (a0 a1 a2 : Addr) (c : Int) (b : Addr) (hb : b = a1 ∨ b = a2) (w : World) (hS : SenA a0 a1 a2 w) (hR : GtRow w g ah aa ar) (hz : GtSz 1048576 g) (hg : gateB g = true)
    (hA : ∀ wx, Below w.heap.size w wx → Calls Tryz.prog 30 #[gtV g ah ch aa ca ar cr, .string id, .int .i64 til] wx fun e w' => e = .returned (.tuple #[.agg #[.string ⟨#[]⟩, .slice none 0 0, .int .i64 0, .int .i64 0, .int .i64 0, .slice none 0 0, .int .i64 0, .slice none 0 0], erV (.wrap c (.base b))]) ∧ Below wx.heap.size wx w') :
    Calls Tryz.prog 9 #[gtV g ah ch aa ca ar cr, .string id, .int .i64 til] w fun e w' => ∃ ah' ch' aa' ca' ar' cr', e = .returned (.tuple #[gtV g ah' ch' aa' ca' ar' cr', .int .i64 c]) ∧ GtOwn w' w.heap.size g ah' aa' ar' ∧ Below w.heap.size w w' := by
  have HS := hid hS
  have CA := hid hA
  have CS := hid (fun wx (h : Below w.heap.size w wx) => cSetOldW g ah ch aa ca ar cr ⟨#[]⟩ none 0 0 0 0 0 none 0 0 0 none 0 0 c a0 a1 a2 b wx (hS.below h) hb (hR.below h) hz (gate_rowsA hg).1 (gate_rowsA hg).2.1 (gate_rowsA hg).2.2)
  have CC := hid (fun wx (h : SenA a0 a1 a2 wx) => cCodeOf c b wx h.2.2.2)
  have HGV := hid (show ∀ a1 c1 a2 c2 a3 c3, gtV g a1 c1 a2 c2 a3 c3 = .agg #[.string g.name, .slice a1 g.hands.length c1, .int .i64 g.skew, .int .i64 g.now, .int .i64 g.ask.most, .slice a2 g.ask.rows.length c2, .int .i64 g.hrd.most, .slice a3 g.hrd.rows.length c3] from fun a1 c1 a2 c2 a3 c3 => rfl)
  have HOWN := hid (fun (wx : World) (Bx : Nat) (a b c : Option Addr) (h : GtOwn wx Bx g a b c) (R : Nat) (hR : R < Bx) => own_set8 h hR)
  have HSB := hid (show ∀ (wx wy : World) (Bx : Nat) (a b c : Option Addr), GtOwn wx Bx g a b c → Below wx.heap.size wx wy → GtOwn wy Bx g a b c from fun wx wy Bx a b c h hb => h.below hb)
  unfold gtV at CA CS
  unfold erV at CA CS CC
  unfold erV at CA CS CC
  simp only [HGV.out]
  clear hR hz hS hA
  generalize g.name = x at *
  generalize g.skew = sk at *
  generalize g.now = nw at *
  generalize g.ask.most = am at *
  generalize g.hrd.most = rm at *
  generalize g.hands.length = nh at *
  generalize g.ask.rows.length = na at *
  generalize g.hrd.rows.length = nr at *
  obtain ⟨b1, b2⟩ := u_heap2 w (.cells #[.string x, .slice ah nh ch, .int .i64 sk, .int .i64 nw, .int .i64 am, .slice aa na ca, .int .i64 rm, .slice ar nr cr] 29) (.cells #[.string ⟨#[]⟩, .slice none 0 0, .int .i64 0, .int .i64 0, .int .i64 0, .slice none 0 0, .int .i64 0, .slice none 0 0] 29)
  have HB0 := hid (((Below.refl w.heap.size w).alloc (Nat.le_refl _) (.cells #[.string x, .slice ah nh ch, .int .i64 sk, .int .i64 nw, .int .i64 am, .slice aa na ca, .int .i64 rm, .slice ar nr cr] 29)).alloc (by simp) (.cells #[.string ⟨#[]⟩, .slice none 0 0, .int .i64 0, .int .i64 0, .int .i64 0, .slice none 0 0, .int .i64 0, .slice none 0 0] 29))
  obtain ⟨W0, hW0⟩ : ∃ W0, (w.alloc (.cells #[.string x, .slice ah nh ch, .int .i64 sk, .int .i64 nw, .int .i64 am, .slice aa na ca, .int .i64 rm, .slice ar nr cr] 29)).alloc (.cells #[.string ⟨#[]⟩, .slice none 0 0, .int .i64 0, .int .i64 0, .int .i64 0, .slice none 0 0, .int .i64 0, .slice none 0 0] 29) = W0 := ⟨_, rfl⟩
  rw [hW0] at b1 b2 HB0
  obtain ⟨B, hB⟩ : ∃ B, w.heap.size = B := ⟨_, rfl⟩
  have HBE := hid hB
  rw [hB] at b1 b2
  have HM1 := hid b1
  have HM2 := hid b2
  clear b1 b2
  obtain ⟨⟨f0, f1, f2, f3, f4, f5, f6, f7⟩, ff⟩ := g_box8f HM1.out
  clear ff

  go_enter Tryz.func9, Tryz.ntmps9
  go_wp2_with fail
  refine (CA.out _ HB0.out).mono ?_
  rintro e w1 ⟨rfl, hb1⟩
  have HB1 := hid (bb HB0.out hb1)
  have HA := hid ((Below.refl w1.heap.size w1).alloc (Nat.le_refl _) (.cells #[.string ⟨#[]⟩, .slice none 0 0, .int .i64 0, .int .i64 0, .int .i64 0, .slice none 0 0, .int .i64 0, .slice none 0 0] 29))
  have HMM := hid (heap_alloc_new w1 (.cells #[.string ⟨#[]⟩, .slice none 0 0, .int .i64 0, .int .i64 0, .int .i64 0, .slice none 0 0, .int .i64 0, .slice none 0 0] 29))
  obtain ⟨w2, hw2⟩ : ∃ w2, w1.alloc (.cells #[.string ⟨#[]⟩, .slice none 0 0, .int .i64 0, .int .i64 0, .int .i64 0, .slice none 0 0, .int .i64 0, .slice none 0 0] 29) = w2 := ⟨_, rfl⟩
  have HW2 := hid hw2
  rw [hw2] at HA HMM
  obtain ⟨M, hM⟩ : ∃ M, w1.heap.size = M := ⟨_, rfl⟩
  have HME := hid hM
  rw [hM] at HMM
  have HB2 := hid (bb HB1.out HA.out)
  have HZ2 := hid (u_blk_below HM2.out (bb hb1 HA.out))
  have HF2 := hid (u_blk_below HM1.out (bb hb1 HA.out))
  have HLT := hid (show B + 1 < W0.heap.size from lt_of_heap HM2.out)
  have HS12 := hid hb1.size
  clear hb1 CA hw2 hW0 f0 f1 f2 f3 f4 f5 f6 f7
  go_upto_region 2 with fail
  rw [HW2.out]
  clear HW2 hM
  obtain ⟨⟨f0, f1, f2, f3, f4, f5, f6, f7⟩, ff⟩ := g_box8f HF2.out
  clear ff
  obtain ⟨⟨n0, n1, n2, n3, n4, n5, n6, n7⟩, nf⟩ := g_box8f HMM.out
  clear nf

  go_wp2_with fail
  refine (CS.out _ HB2.out).mono ?_
  rintro e w3 ⟨h1, e1, h2, e2, h3, e3, rfl, ho3, hb3⟩
  have HO3 := hid ho3
  have HS3 := hid HB2.out.size
  clear ho3
  have HB3 := hid (bb HB2.out hb3)
  have HZ3 := hid (u_blk_below HZ2.out hb3)
  clear hb3 CS f0 f1 f2 f3 f4 f5 f6 f7 n0 n1 n2 n3 n4 n5 n6 n7
  go_wp2_with fail
  refine (CC.out _ (HS.out.below HB3.out)).mono ?_
  rintro e w4 ⟨rfl, hb4⟩
  have HB4 := hid (bb HB3.out hb4)
  have HX4 := hid hb4
  have HZ4 := hid (u_blk_below HZ3.out hb4)
  clear hb4 CC
  obtain ⟨⟨k0, k1, k2, k3, k4, k5, k6, k7⟩, kf⟩ := g_box8f HZ4.out
  have kf0 := kf 0
  have kf1 := kf 1
  have kf2 := kf 2
  have kf3 := kf 3
  have kf4 := kf 4
  have kf5 := kf 5
  have kf6 := kf 6
  have kf7 := kf 7
  clear kf

  go_wp2_with fail
  refine bodyPost_ret (v := .tuple #[.agg #[.string x, .slice h1 nh e1, .int .i64 sk, .int .i64 nw, .int .i64 am, .slice h2 na e2, .int .i64 rm, .slice h3 nr e3], .int .i64 c]) (by simp [results, Tryz.results9, go_sem, k0, k1, k2, k3, k4, k5, k6, k7]) rfl ⟨h1, e1, h2, e2, h3, e3, rfl, ?_, ?_⟩
  · refine (HOWN.out _ _ _ _ _ (HSB.out _ _ _ _ _ _ HO3.out HX4.out) (B + 1) (by have := HLT.out; have := HS12.out; have := HA.out.size; omega) _ _ _ _ _ _ _ _).mono ?_
    exact HB2.out.size
  · iterate 8 refine Below.setCell ?_ (show w.heap.size ≤ B + 1 by omega) _
    exact HB4.out

set_option maxRecDepth 8000 in
set_option maxHeartbeats 16000000 in
theorem cAsksIn (g : Gt) (ah : Option Addr) (ch : Nat) (aa : Option Addr) (ca : Nat) (ar : Option Addr) (cr : Nat) (id : ByteArray) (til : Int) (a0 a1 a2 : Addr) (T : Tb) (w : World) (hS : SenA a0 a1 a2 w) (hR : GtRow w g ah aa ar) (hz : GtSz 1048576 g)
    (hA : ∀ wx, Below w.heap.size w wx → Calls Tryz.prog 30 #[gtV g ah ch aa ca ar cr, .string id, .int .i64 til] wx fun e w' => ∃ ah' ch' aa' ca' ar' cr', e = .returned (.tuple #[gtV (askedG g T) ah' ch' aa' ca' ar' cr', .nilIface]) ∧ GtOwn w' wx.heap.size (askedG g T) ah' aa' ar' ∧ Below wx.heap.size wx w') :
    Calls Tryz.prog 9 #[gtV g ah ch aa ca ar cr, .string id, .int .i64 til] w fun e w' => ∃ ah' ch' aa' ca' ar' cr', e = .returned (.tuple #[gtV (askedG g T) ah' ch' aa' ca' ar' cr', .int .i64 0]) ∧ GtOwn w' w.heap.size (askedG g T) ah' aa' ar' ∧ Below w.heap.size w w' := by
  have HS := hid hS
  have CA := hid hA
  have CS := hid (fun (x : ByteArray) (nh : Nat) (sk nw am : Int) (na : Nat) (rm : Int) (nr : Nat) (h1 : Option Addr) (e1 : Nat) (tm : Int) (h2 : Option Addr) (n2 e2 : Nat) (h3 : Option Addr) (n3 e3 : Nat) wx => cSetNil x ah nh ch sk nw am aa na ca rm ar nr cr x h1 nh e1 sk nw tm h2 n2 e2 rm h3 n3 e3 wx)
  have CC := hid (fun wx => cCodeNil wx)
  have HGL := hid (show ∀ a1 c1 a2 c2 a3 c3, gtV (askedG g T) a1 c1 a2 c2 a3 c3 = .agg #[.string g.name, .slice a1 g.hands.length c1, .int .i64 g.skew, .int .i64 g.now, .int .i64 T.most, .slice a2 T.rows.length c2, .int .i64 g.hrd.most, .slice a3 g.hrd.rows.length c3] from fun a1 c1 a2 c2 a3 c3 => rfl)
  have HOWN := hid (fun (wx : World) (Bx : Nat) (a b c : Option Addr) (h : GtOwn wx Bx (askedG g T) a b c) (R : Nat) (hR : R < Bx) => own_set8 h hR)
  have HSB := hid (show ∀ (wx wy : World) (Bx : Nat) (a b c : Option Addr), GtOwn wx Bx (askedG g T) a b c → Below wx.heap.size wx wy → GtOwn wy Bx (askedG g T) a b c from fun wx wy Bx a b c h hb => h.below hb)
  obtain ⟨N, hN⟩ : ∃ N, askedG g T = N := ⟨_, rfl⟩
  rw [hN] at CA HOWN HSB ⊢
  simp only [hN] at HGL
  simp only [HGL.out] at CA ⊢
  clear hN
  rw [show gtV g ah ch aa ca ar cr = .agg #[.string g.name, .slice ah g.hands.length ch, .int .i64 g.skew, .int .i64 g.now, .int .i64 g.ask.most, .slice aa g.ask.rows.length ca, .int .i64 g.hrd.most, .slice ar g.hrd.rows.length cr] from rfl] at CA
  rw [show gtV g ah ch aa ca ar cr = .agg #[.string g.name, .slice ah g.hands.length ch, .int .i64 g.skew, .int .i64 g.now, .int .i64 g.ask.most, .slice aa g.ask.rows.length ca, .int .i64 g.hrd.most, .slice ar g.hrd.rows.length cr] from rfl]
  clear hR hz hS hA
  generalize T.most = tm at *
  generalize T.rows.length = tn at *
  generalize g.name = x at *
  generalize g.skew = sk at *
  generalize g.now = nw at *
  generalize g.ask.most = am at *
  generalize g.hrd.most = rm at *
  generalize g.hands.length = nh at *
  generalize g.ask.rows.length = na at *
  generalize g.hrd.rows.length = nr at *
  obtain ⟨b1, b2⟩ := u_heap2 w (.cells #[.string x, .slice ah nh ch, .int .i64 sk, .int .i64 nw, .int .i64 am, .slice aa na ca, .int .i64 rm, .slice ar nr cr] 29) (.cells #[.string ⟨#[]⟩, .slice none 0 0, .int .i64 0, .int .i64 0, .int .i64 0, .slice none 0 0, .int .i64 0, .slice none 0 0] 29)
  have HB0 := hid (((Below.refl w.heap.size w).alloc (Nat.le_refl _) (.cells #[.string x, .slice ah nh ch, .int .i64 sk, .int .i64 nw, .int .i64 am, .slice aa na ca, .int .i64 rm, .slice ar nr cr] 29)).alloc (by simp) (.cells #[.string ⟨#[]⟩, .slice none 0 0, .int .i64 0, .int .i64 0, .int .i64 0, .slice none 0 0, .int .i64 0, .slice none 0 0] 29))
  obtain ⟨W0, hW0⟩ : ∃ W0, (w.alloc (.cells #[.string x, .slice ah nh ch, .int .i64 sk, .int .i64 nw, .int .i64 am, .slice aa na ca, .int .i64 rm, .slice ar nr cr] 29)).alloc (.cells #[.string ⟨#[]⟩, .slice none 0 0, .int .i64 0, .int .i64 0, .int .i64 0, .slice none 0 0, .int .i64 0, .slice none 0 0] 29) = W0 := ⟨_, rfl⟩
  rw [hW0] at b1 b2 HB0
  obtain ⟨B, hB⟩ : ∃ B, w.heap.size = B := ⟨_, rfl⟩
  have HBE := hid hB
  rw [hB] at b1 b2
  have HM1 := hid b1
  have HM2 := hid b2
  clear b1 b2
  obtain ⟨⟨f0, f1, f2, f3, f4, f5, f6, f7⟩, ff⟩ := g_box8f HM1.out
  clear ff

  go_enter Tryz.func9, Tryz.ntmps9
  go_wp2_with fail
  refine (CA.out _ HB0.out).mono ?_
  rintro e w1 ⟨h1, e1, h2, e2, h3, e3, rfl, ho1, hb1⟩
  have HO1 := hid ho1
  clear ho1
  have HB1 := hid (bb HB0.out hb1)
  have HA := hid ((Below.refl w1.heap.size w1).alloc (Nat.le_refl _) (.cells #[.string x, .slice h1 nh e1, .int .i64 sk, .int .i64 nw, .int .i64 tm, .slice h2 tn e2, .int .i64 rm, .slice h3 nr e3] 29))
  have HMM := hid (heap_alloc_new w1 (.cells #[.string x, .slice h1 nh e1, .int .i64 sk, .int .i64 nw, .int .i64 tm, .slice h2 tn e2, .int .i64 rm, .slice h3 nr e3] 29))
  obtain ⟨w2, hw2⟩ : ∃ w2, w1.alloc (.cells #[.string x, .slice h1 nh e1, .int .i64 sk, .int .i64 nw, .int .i64 tm, .slice h2 tn e2, .int .i64 rm, .slice h3 nr e3] 29) = w2 := ⟨_, rfl⟩
  have HW2 := hid hw2
  rw [hw2] at HA HMM
  obtain ⟨M, hM⟩ : ∃ M, w1.heap.size = M := ⟨_, rfl⟩
  have HME := hid hM
  rw [hM] at HMM
  have HB2 := hid (bb HB1.out HA.out)
  have HZ2 := hid (u_blk_below HM2.out (bb hb1 HA.out))
  have HF2 := hid (u_blk_below HM1.out (bb hb1 HA.out))
  have HLT := hid (show B + 1 < W0.heap.size from lt_of_heap HM2.out)
  have HS12 := hid hb1.size
  clear hb1 CA hw2 hW0 f0 f1 f2 f3 f4 f5 f6 f7
  go_upto_region 2 with fail
  rw [HW2.out]
  clear HW2 hM
  obtain ⟨⟨f0, f1, f2, f3, f4, f5, f6, f7⟩, ff⟩ := g_box8f HF2.out
  clear ff
  obtain ⟨⟨n0, n1, n2, n3, n4, n5, n6, n7⟩, nf⟩ := g_box8f HMM.out
  clear nf

  go_wp2_with fail
  refine (CS.out _ _ _ _ _ _ _ _ _ _ _ _ _ _ _ _ _ _).mono ?_
  rintro e w3 ⟨rfl, hb3⟩
  have HX3 := hid hb3
  have HB3 := hid (bb HB2.out hb3)
  have HZ3 := hid (u_blk_below HZ2.out hb3)
  clear hb3 CS f0 f1 f2 f3 f4 f5 f6 f7 n0 n1 n2 n3 n4 n5 n6 n7
  go_wp2_with fail
  refine (CC.out _).mono ?_
  rintro e w4 ⟨rfl, hb4⟩
  have HB4 := hid (bb HB3.out hb4)
  have HX4 := hid hb4
  have HZ4 := hid (u_blk_below HZ3.out hb4)
  clear hb4 CC
  obtain ⟨⟨k0, k1, k2, k3, k4, k5, k6, k7⟩, kf⟩ := g_box8f HZ4.out
  have kf0 := kf 0
  have kf1 := kf 1
  have kf2 := kf 2
  have kf3 := kf 3
  have kf4 := kf 4
  have kf5 := kf 5
  have kf6 := kf 6
  have kf7 := kf 7
  clear kf

  go_wp2_with fail
  refine bodyPost_ret (v := .tuple #[.agg #[.string x, .slice h1 nh e1, .int .i64 sk, .int .i64 nw, .int .i64 tm, .slice h2 tn e2, .int .i64 rm, .slice h3 nr e3], .int .i64 0]) (by simp [results, Tryz.results9, go_sem, k0, k1, k2, k3, k4, k5, k6, k7]) rfl ⟨h1, e1, h2, e2, h3, e3, rfl, ?_, ?_⟩
  · refine (HOWN.out _ _ _ _ _ (HSB.out _ _ _ _ _ _ (HSB.out _ _ _ _ _ _ (HSB.out _ _ _ _ _ _ HO1.out HA.out) HX3.out) HX4.out) (B + 1) HLT.out _ _ _ _ _ _ _ _).mono ?_
    exact HB0.out.size
  · iterate 8 refine Below.setCell ?_ (show w.heap.size ≤ B + 1 by omega) _
    exact HB4.out

/-- What the table tells. -/
theorem entered_codes (t : Tb) (id : ByteArray) (til : Int) : (enteredT t id til).2 = 0 ∨ ((enteredT t id til).2 = 1 ∧ enteredT t id til = (t, 1)) ∨ ((enteredT t id til).2 = 2 ∧ enteredT t id til = (t, 2)) ∨ ((enteredT t id til).2 = 3 ∧ (tableB t && u_idOk id && utmB til) = false) := by
  unfold enteredT
  by_cases h : (tableB t && u_idOk id && utmB til) = true
  · rw [if_pos h]
    unfold enterT
    split
    · exact .inr (.inl ⟨rfl, rfl⟩)
    · split
      · exact .inr (.inr (.inl ⟨rfl, rfl⟩))
      · exact .inl rfl
  · rw [if_neg h]
    exact .inr (.inr (.inr ⟨rfl, by simpa using h⟩))

theorem asked_same (g : Gt) : askedG g g.ask = g := rfl

set_option maxHeartbeats 2000000 in
theorem cAsksI (g : Gt) (ah : Option Addr) (ch : Nat) (aa : Option Addr) (ca : Nat) (ar : Option Addr) (cr : Nat) (id : ByteArray) (til : Int) (a0 a1 a2 : Addr) (w : World) (hS : SenA a0 a1 a2 w) (hR : GtRow w g ah aa ar) (hz : GtSz 1048576 g) (hi : id.size ≤ 1048576) :
    Calls Tryz.prog 9 #[gtV g ah ch aa ca ar cr, .string id, .int .i64 til] w fun e w' => ∃ ah' ch' aa' ca' ar' cr', e = .returned (.tuple #[gtV (asksG g id til).1 ah' ch' aa' ca' ar' cr', .int .i64 (asksG g id til).2]) ∧ GtOwn w' w.heap.size (asksG g id til).1 ah' aa' ar' ∧ Below w.heap.size w w' := by
  have none3 : ∀ (h : asksG g id til = (zeroG, 3)), (∀ wx, Below w.heap.size w wx → Calls Tryz.prog 30 #[gtV g ah ch aa ca ar cr, .string id, .int .i64 til] wx fun e w' => e = .returned (.tuple #[.agg #[.string ⟨#[]⟩, .slice none 0 0, .int .i64 0, .int .i64 0, .int .i64 0, .slice none 0 0, .int .i64 0, .slice none 0 0], erV (.wrap 3 (.base a0))]) ∧ Below wx.heap.size wx w') →
      Calls Tryz.prog 9 #[gtV g ah ch aa ca ar cr, .string id, .int .i64 til] w fun e w' => ∃ ah' ch' aa' ca' ar' cr', e = .returned (.tuple #[gtV (asksG g id til).1 ah' ch' aa' ca' ar' cr', .int .i64 (asksG g id til).2]) ∧ GtOwn w' w.heap.size (asksG g id til).1 ah' aa' ar' ∧ Below w.heap.size w w' := fun h hA => by
    rw [h]
    refine (cAsksBad g ah ch aa ca ar cr id til a0 a1 a2 3 w hS hR hz hA).mono ?_
    rintro e w' ⟨rfl, hb⟩
    exact ⟨none, 0, none, 0, none, 0, rfl, ⟨OwnHd.nil _ _ _, OwnRo.nil _ _ _, OwnRo.nil _ _ _, fun h => absurd h (Nat.lt_irrefl 0)⟩, hb⟩
  cases hg : gateB g with
  | false =>
    exact none3 (asksG_no (by rw [hg]; rfl)) (fun wx h => cAskNo g ah ch aa ca ar cr id til a0 a1 a2 wx (hS.below h) (hR.below h) hz hg)
  | true =>
    have ht := (gate_pA hg).2.1
    have hl : g.ask.rows.length ≤ 1048576 := Nat.le_trans (gate_rowsA hg).2.1 (by decide)
    have hbad : (tableB g.ask && u_idOk id && utmB til) = false → asksG g id til = (zeroG, 3) := fun h => asksG_no (by rw [hg]; rw [ht] at h; exact h)
    have hyes : ¬ (enteredT g.ask id til).2 = 3 → asksG g id til = (askedG g (enteredT g.ask id til).1, (enteredT g.ask id til).2) := fun h => by
      by_cases hb : (tableB g.ask && u_idOk id && utmB til) = true
      · have e : enteredT g.ask id til = enterT g.ask id til := if_pos hb
        rw [asksG_yes (by rw [hg]; rw [ht] at hb; exact hb), e]
      · have e : enteredT g.ask id til = (zeroT, 3) := if_neg hb
        exact absurd (by rw [e]) h
    rcases entered_codes g.ask id til with h0 | ⟨h1, e1⟩ | ⟨h2, e2⟩ | ⟨h3, e3⟩
    · rw [hyes (by rw [h0]; decide), h0]
      exact cAsksIn g ah ch aa ca ar cr id til a0 a1 a2 (enteredT g.ask id til).1 w hS hR hz (fun wx h => cAskIn g ah ch aa ca ar cr id til (enteredT g.ask id til).1 wx (hR.below h) hz hg (fun wy hy => cRowIn g.ask aa ca id til a0 a1 a2 wy ((hS.below h).below hy) ((hR.below h).below hy).2.1 hz.2.2.2.1 hl hi h0))
    · rw [hyes (by rw [h1]; decide), e1]
      exact cAsksOld g ah ch aa ca ar cr id til a0 a1 a2 1 a2 (.inr rfl) w hS hR hz hg (fun wx h => cAskErr g ah ch aa ca ar cr id til 1 a2 wx (hR.below h) hz hg (fun wy hy => cRowThere g.ask aa ca id til a0 a1 a2 wy ((hS.below h).below hy) ((hR.below h).below hy).2.1 hz.2.2.2.1 hl hi h1))
    · rw [hyes (by rw [h2]; decide), e2]
      exact cAsksOld g ah ch aa ca ar cr id til a0 a1 a2 2 a1 (.inl rfl) w hS hR hz hg (fun wx h => cAskErr g ah ch aa ca ar cr id til 2 a1 wx (hR.below h) hz hg (fun wy hy => cRowFull g.ask aa ca id til a0 a1 a2 wy ((hS.below h).below hy) ((hR.below h).below hy).2.1 hz.2.2.2.1 hl hi h2))
    · exact none3 (hbad e3) (fun wx h => cAskErr g ah ch aa ca ar cr id til 3 a0 wx (hR.below h) hz hg (fun wy hy => cRowBad g.ask aa ca id til a0 a1 a2 wy ((hS.below h).below hy) ((hR.below h).below hy).2.1 hz.2.2.2.1 hl hi h3))

end Go.Proofs.YtgdfeicojgnoaaaGreatDoor

namespace Go.Proofs.YtgdfeicojgnoaaaGreatDoor
open Go.RowKit
set_option linter.unusedVariables false
set_option linter.unusedSimpArgs false

set_option maxRecDepth 8000 in
set_option maxHeartbeats 16000000 in
theorem cAsksS (g : Gt) (ah : Option Addr) (ch : Nat) (aa : Option Addr) (ca : Nat) (ar : Option Addr) (cr : Nat) (id : ByteArray) (til : Int) (w : World) (hR : GtRow w g ah aa ar) (hz : GtSz 1048576 g) (hi : id.size ≤ 1048576) :
    Calls Tryz.prog 12 #[gtV g ah ch aa ca ar cr, .string id, .int .i64 til] w fun e w' => ∃ ah' ch' aa' ca' ar' cr', e = .returned (.tuple #[gtV (asksG g id til).1 ah' ch' aa' ca' ar' cr', .int .i64 (asksG g id til).2]) ∧ GtOwn w' w.heap.size (asksG g id til).1 ah' aa' ar' ∧ Below w.heap.size w w' := by
  have CO := hid (fun wx (h : Below w.heap.size w wx) => cGateOkS g ah ch aa ca ar cr wx (hR.below h) hz)
  have CI := hid (fun wx => u_c_spec_l12Id id wx hi)
  have CT := hid (fun wx => cTimeS til wx)
  have CC := hid (fun (hg : gateB g = true) wx (h : Below w.heap.size w wx) => cGateCopyR g ah ch aa ca ar cr wx (hR.below h) (gate_rowsA hg).1 (gate_rowsA hg).2.1 (gate_rowsA hg).2.2)
  have CE := hid (fun (hg : gateB g = true) (P Bx ga c : Nat) (v0 v1 v2 v3 v6 v7 : Value) (wx : World) (hP : wx.heap[P]? = some (.cells #[v0, v1, v2, v3, .int .i64 g.ask.most, .slice (some ⟨ga, 0, none⟩) g.ask.rows.length c, v6, v7] 29 (0, 0))) (hO : RoOwn wx Bx ga c g.ask.rows) (hB : Bx ≤ wx.heap.size) => cEnterG P Bx ga c v0 v1 v2 v3 v6 v7 g.ask.most g.ask.rows id til wx hP hO (gate_rowsA hg).2.1 hz.2.2.2.1 hi hB)
  have HE0 := hid (fun (h : (gateB g && u_idOk id && utmB til) = false) => asksG_no h)
  have HE1 := hid (fun (h : (gateB g && u_idOk id && utmB til) = true) => asksG_yes h)
  have HTM := hid (show utmB til = decide (0 ≤ til ∧ til ≤ 3155759999) from rfl)
  have HSY := hid (show enterT g.ask id til = enterT ⟨g.ask.most, g.ask.rows⟩ id til from rfl)
  have HGA := hid (show ∀ T a1 c1 a2 c2 a3 c3, gtV (askedG g T) a1 c1 a2 c2 a3 c3 = .agg #[.string g.name, .slice a1 g.hands.length c1, .int .i64 g.skew, .int .i64 g.now, .int .i64 T.most, .slice a2 T.rows.length c2, .int .i64 g.hrd.most, .slice a3 g.hrd.rows.length c3] from fun T a1 c1 a2 c2 a3 c3 => rfl)
  have HFIN := hid (fun (T : Tb) (w3 W w5 wz : World) (Bx P R ga c : Nat) (a1 a3 : Option Addr) (g' c' : Nat) (ho : GtOwn w3 Bx g a1 (some ⟨ga, 0, none⟩) a3) (h3 : Below w3.heap.size w3 W) (hP : w3.heap.size ≤ P) (hk : u_KeepB (fun b => b = P) W w5) (hr : RoOwn w5 Bx g' c' T.rows) (hg : (g' = ga ∧ T.rows = g.ask.rows) ∨ W.heap.size ≤ g') (hRz : u_KeepB (fun b => b = R) w5 wz) (hRB : R < Bx) => (show GtOwn wz Bx (askedG g T) a1 (some ⟨g', 0, none⟩) a3 from by
    have o1 := hd_stands (p := P) ho.1 h3 hk (.inr hP)
    have o3 := ro_stands (p := P) ho.2.2.1 h3 hk (.inr hP)
    obtain ⟨a, c2, e, o2⟩ := own_ro hr rfl
    cases e
    have k : ∀ b, (fun b => b = R) b → b < Bx := fun b e => by rw [show b = R from e]; exact hRB
    refine ⟨o1.keep hRz k, o2.keep hRz k, o3.keep hRz k, fun q1 q2 x o y p e1 e2 => ?_⟩
    cases e1
    cases e2
    rcases hg with ⟨rfl, hl⟩ | hg
    · exact ho.2.2.2 (by rw [← hl]; exact q1) q2 _ _ _ _ rfl rfl
    · intro e
      obtain ⟨y2, _, _, e5, e6, e7, _⟩ := ho.2.2.1 q2
      cases e5
      have := lt_of_heap e7
      have := h3.size
      omega))
  clear hR hz
  obtain ⟨N0, hN0⟩ : ∃ N, asksG g id til = N := ⟨_, rfl⟩
  rw [hN0]
  simp only [hN0] at HE0 HE1
  clear hN0
  rw [show gtV g ah ch aa ca ar cr = .agg #[.string g.name, .slice ah g.hands.length ch, .int .i64 g.skew, .int .i64 g.now, .int .i64 g.ask.most, .slice aa g.ask.rows.length ca, .int .i64 g.hrd.most, .slice ar g.hrd.rows.length cr] from rfl]
  unfold gtV at CO CC
  obtain ⟨V, hV⟩ : ∃ V, gateB g = V := ⟨_, rfl⟩
  rw [hV] at CO CC CE HE0 HE1
  rw [HTM.out] at HE0 HE1
  obtain ⟨O, hO⟩ : ∃ O, u_idOk id = O := ⟨_, rfl⟩
  rw [hO] at CI HE0 HE1
  obtain ⟨U, hU⟩ : ∃ U, decide (0 ≤ til ∧ til ≤ 3155759999) = U := ⟨_, rfl⟩
  rw [hU] at CT HE0 HE1
  clear hV hO hU HTM
  generalize g.name = x at *
  generalize g.skew = sk at *
  generalize g.now = nw at *
  generalize g.ask.most = am at *
  generalize g.hrd.most = rm at *
  generalize g.hands.length = nh at *
  generalize g.ask.rows.length = na at *
  generalize g.hrd.rows.length = nr at *
  obtain ⟨b1, b2⟩ := u_heap2 w (.cells #[.string x, .slice ah nh ch, .int .i64 sk, .int .i64 nw, .int .i64 am, .slice aa na ca, .int .i64 rm, .slice ar nr cr] 29) (.cells #[.string ⟨#[]⟩, .slice none 0 0, .int .i64 0, .int .i64 0, .int .i64 0, .slice none 0 0, .int .i64 0, .slice none 0 0] 29)
  have HB0 := hid (((Below.refl w.heap.size w).alloc (Nat.le_refl _) (.cells #[.string x, .slice ah nh ch, .int .i64 sk, .int .i64 nw, .int .i64 am, .slice aa na ca, .int .i64 rm, .slice ar nr cr] 29)).alloc (by simp) (.cells #[.string ⟨#[]⟩, .slice none 0 0, .int .i64 0, .int .i64 0, .int .i64 0, .slice none 0 0, .int .i64 0, .slice none 0 0] 29))
  obtain ⟨W0, hW0⟩ : ∃ W0, (w.alloc (.cells #[.string x, .slice ah nh ch, .int .i64 sk, .int .i64 nw, .int .i64 am, .slice aa na ca, .int .i64 rm, .slice ar nr cr] 29)).alloc (.cells #[.string ⟨#[]⟩, .slice none 0 0, .int .i64 0, .int .i64 0, .int .i64 0, .slice none 0 0, .int .i64 0, .slice none 0 0] 29) = W0 := ⟨_, rfl⟩
  rw [hW0] at b1 b2 HB0
  obtain ⟨B, hB⟩ : ∃ B, w.heap.size = B := ⟨_, rfl⟩
  have HBE := hid hB
  rw [hB] at b1 b2
  have HM1 := hid b1
  have HM2 := hid b2
  clear b1 b2
  obtain ⟨⟨f0, f1, f2, f3, f4, f5, f6, f7⟩, ff⟩ := g_box8f HM1.out
  clear ff

  go_enter Tryz.func12, Tryz.ntmps12
  go_wp2_with fail
  refine (CO.out _ HB0.out).mono ?_
  rintro e w1 ⟨rfl, hb1⟩
  have HB1 := hid (bb HB0.out hb1)
  have HZ1 := hid (u_blk_below HM2.out hb1)
  have HF1 := hid (u_blk_below HM1.out hb1)
  clear hb1 CO f0 f1 f2 f3 f4 f5 f6 f7 hW0
  cases V with
  | false =>
    have HE := hid (HE0.out rfl)
    have HZ := HZ1
    have HBf := HB1
    clear CC CE HE0 HE1 CI CT HFIN
    obtain ⟨⟨k0, k1, k2, k3, k4, k5, k6, k7⟩, kf⟩ := g_box8f HZ.out
    have kf0 := kf 0
    have kf1 := kf 1
    have kf2 := kf 2
    have kf3 := kf 3
    have kf4 := kf 4
    have kf5 := kf 5
    have kf6 := kf 6
    have kf7 := kf 7
    clear kf
    go_wp2_with fail
    refine bodyPost_ret (v := .tuple #[.agg #[.string ⟨#[]⟩, .slice none 0 0, .int .i64 0, .int .i64 0, .int .i64 0, .slice none 0 0, .int .i64 0, .slice none 0 0], .int .i64 3]) (by simp [results, Tryz.results12, go_sem, k0, k1, k2, k3, k4, k5, k6, k7]) rfl ⟨none, 0, none, 0, none, 0, by rw [HE.out]; rfl, by rw [HE.out]; exact ⟨OwnHd.nil _ _ _, OwnRo.nil _ _ _, OwnRo.nil _ _ _, fun h => absurd h (Nat.lt_irrefl 0)⟩, ?_⟩
    iterate 8 refine Below.setCell ?_ (show w.heap.size ≤ B + 1 by omega) _
    exact HBf.out
  | true =>
    go_wp2_with fail
    refine (CI.out _).mono ?_
    rintro e w2 ⟨rfl, hb2⟩
    have HB2 := hid (bb HB1.out hb2)
    have HZ2 := hid (u_blk_below HZ1.out hb2)
    have HF2 := hid (u_blk_below HF1.out hb2)
    clear hb2 CI HB1 HZ1 HF1
    cases O with
    | false =>
      have HE := hid (HE0.out rfl)
      have HZ := HZ2
      have HBf := HB2
      clear CC CE HE0 HE1 CT HFIN
      obtain ⟨⟨k0, k1, k2, k3, k4, k5, k6, k7⟩, kf⟩ := g_box8f HZ.out
      have kf0 := kf 0
      have kf1 := kf 1
      have kf2 := kf 2
      have kf3 := kf 3
      have kf4 := kf 4
      have kf5 := kf 5
      have kf6 := kf 6
      have kf7 := kf 7
      clear kf
      go_wp2_with fail
      refine bodyPost_ret (v := .tuple #[.agg #[.string ⟨#[]⟩, .slice none 0 0, .int .i64 0, .int .i64 0, .int .i64 0, .slice none 0 0, .int .i64 0, .slice none 0 0], .int .i64 3]) (by simp [results, Tryz.results12, go_sem, k0, k1, k2, k3, k4, k5, k6, k7]) rfl ⟨none, 0, none, 0, none, 0, by rw [HE.out]; rfl, by rw [HE.out]; exact ⟨OwnHd.nil _ _ _, OwnRo.nil _ _ _, OwnRo.nil _ _ _, fun h => absurd h (Nat.lt_irrefl 0)⟩, ?_⟩
      iterate 8 refine Below.setCell ?_ (show w.heap.size ≤ B + 1 by omega) _
      exact HBf.out
    | true =>
      go_wp2_with fail
      refine (CT.out _).mono ?_
      rintro e w3 ⟨rfl, hw3⟩
      obtain rfl := hw3.symm
      cases U with
      | false =>
        have HE := hid (HE0.out rfl)
        have HZ := HZ2
        have HBf := HB2
        clear CC CE HE0 HE1 CT HFIN
        obtain ⟨⟨k0, k1, k2, k3, k4, k5, k6, k7⟩, kf⟩ := g_box8f HZ.out
        have kf0 := kf 0
        have kf1 := kf 1
        have kf2 := kf 2
        have kf3 := kf 3
        have kf4 := kf 4
        have kf5 := kf 5
        have kf6 := kf 6
        have kf7 := kf 7
        clear kf
        go_wp2_with fail
        refine bodyPost_ret (v := .tuple #[.agg #[.string ⟨#[]⟩, .slice none 0 0, .int .i64 0, .int .i64 0, .int .i64 0, .slice none 0 0, .int .i64 0, .slice none 0 0], .int .i64 3]) (by simp [results, Tryz.results12, go_sem, k0, k1, k2, k3, k4, k5, k6, k7]) rfl ⟨none, 0, none, 0, none, 0, by rw [HE.out]; rfl, by rw [HE.out]; exact ⟨OwnHd.nil _ _ _, OwnRo.nil _ _ _, OwnRo.nil _ _ _, fun h => absurd h (Nat.lt_irrefl 0)⟩, ?_⟩
        iterate 8 refine Below.setCell ?_ (show w.heap.size ≤ B + 1 by omega) _
        exact HBf.out
      | true =>
        have HE := hid (HE1.out rfl)
        clear HE0 HE1 CT
        replace CC := hid (CC.out (by simp))
        replace CE := hid (CE.out (by simp))
        obtain ⟨⟨f0, f1, f2, f3, f4, f5, f6, f7⟩, ff⟩ := g_box8f HF2.out
        clear ff
        go_wp2_with fail
        refine (CC.out _ HB2.out).mono ?_
        rintro e w4 ⟨h1, e1, ga, ca1, gr, cr1, rfl, ⟨ho4, hr4⟩, hb4⟩
        have HP := hid (heap_alloc_new w4 (.cells #[.string x, .slice h1 nh e1, .int .i64 sk, .int .i64 nw, .int .i64 am, .slice (some ⟨ga, 0, none⟩) na ca1, .int .i64 rm, .slice (some ⟨gr, 0, none⟩) nr cr1] 29))
        have HA := hid ((Below.refl w4.heap.size w4).alloc (Nat.le_refl _) (.cells #[.string x, .slice h1 nh e1, .int .i64 sk, .int .i64 nw, .int .i64 am, .slice (some ⟨ga, 0, none⟩) na ca1, .int .i64 rm, .slice (some ⟨gr, 0, none⟩) nr cr1] 29))
        obtain ⟨W, hW⟩ : ∃ W, w4.alloc (.cells #[.string x, .slice h1 nh e1, .int .i64 sk, .int .i64 nw, .int .i64 am, .slice (some ⟨ga, 0, none⟩) na ca1, .int .i64 rm, .slice (some ⟨gr, 0, none⟩) nr cr1] 29) = W := ⟨_, rfl⟩
        rw [hW] at HP HA
        have HWW := hid hW
        obtain ⟨P, hPP⟩ : ∃ P, w4.heap.size = P := ⟨_, rfl⟩
        have HPP := hid hPP
        rw [hPP] at HP
        have HB4 := hid (bb HB2.out (bb hb4 HA.out))
        have HZ4 := hid (u_blk_below HZ2.out (bb hb4 HA.out))
        have HO4 := hid ho4
        have HR4 := hid (hr4.below HA.out)
        have HL2 := hid (show B + 1 < w2.heap.size from lt_of_heap HZ2.out)
        have HS24 := hid hb4.size
        clear hb4 ho4 hr4 CC hW f0 f1 f2 f3 f4 f5 f6 f7 HF2
        go_upto_region 4 with fail
        rw [HWW.out]
        clear HWW hPP
        have CE1 := hid (CE.out P w2.heap.size ga ca1 _ _ _ _ _ _ W HP.out HR4.out (Nat.le_trans HS24.out HA.out.size))
        obtain ⟨T, hT⟩ : ∃ T, enterT ⟨am, g.ask.rows⟩ id til = T := ⟨_, rfl⟩
        rw [hT] at CE1
        rw [HSY.out, hT] at HE
        clear CE HSY
        go_wp2_with fail
        refine CE1.out.mono ?_
        rintro e w5 ⟨g', c', rfl, hp5, hr5, hk5, hg5⟩
        have HP5 := hid hp5
        have HZ := hid ((hk5.block (B + 1) (lt_of_heap HZ4.out) (fun e => by have e' : B + 1 = P := e; have := HL2.out; have := HS24.out; have := HPP.out; omega)).trans HZ4.out)
        have HBf := hid (HB4.out.trans (hk5.below HB4.out.size (fun b e => by rw [show b = P from e, ← HPP.out]; have := HB2.out.size; have := HS24.out; omega)))
        have HFI := hid (fun wz hz => HFIN.out T.1 w4 W w5 wz w2.heap.size P (B + 1) ga ca1 h1 (some ⟨gr, 0, none⟩) g' c' HO4.out HA.out (Nat.le_of_eq HPP.out) hk5 hr5 hg5 hz HL2.out)
        clear hp5 hr5 hk5 hg5 CE1 HFIN hT HP HR4 HO4 HA HB4 HZ4
        obtain ⟨⟨n0, n1, n2, n3, n4, n5, n6, n7⟩, nf⟩ := g_box8f HP5.out
        clear nf
        obtain ⟨⟨k0, k1, k2, k3, k4, k5, k6, k7⟩, kf⟩ := g_box8f HZ.out
        have kf0 := kf 0
        have kf1 := kf 1
        have kf2 := kf 2
        have kf3 := kf 3
        have kf4 := kf 4
        have kf5 := kf 5
        have kf6 := kf 6
        have kf7 := kf 7
        clear kf
        go_wp2_with fail
        refine bodyPost_ret (v := .tuple #[.agg #[.string x, .slice h1 nh e1, .int .i64 sk, .int .i64 nw, .int .i64 T.1.most, .slice (some ⟨g', 0, none⟩) T.1.rows.length c', .int .i64 rm, .slice (some ⟨gr, 0, none⟩) nr cr1], .int .i64 T.2]) (by simp [results, Tryz.results12, go_sem, k0, k1, k2, k3, k4, k5, k6, k7]) rfl ⟨h1, e1, some ⟨g', 0, none⟩, c', some ⟨gr, 0, none⟩, cr1, by rw [HE.out]; show _ = Ending.returned (.tuple #[gtV (askedG g T.1) h1 e1 (some ⟨g', 0, none⟩) c' (some ⟨gr, 0, none⟩) cr1, .int .i64 T.2]); rw [HGA.out], ?_, ?_⟩
        · rw [HE.out]
          refine (HFI.out _ ((keep8 _ (B + 1) _ _ _ _ _ _ _ _))).mono ?_
          exact HB2.out.size
        · iterate 8 refine Below.setCell ?_ (show w.heap.size ≤ B + 1 by omega) _
          exact HBf.out

end Go.Proofs.YtgdfeicojgnoaaaGreatDoor
