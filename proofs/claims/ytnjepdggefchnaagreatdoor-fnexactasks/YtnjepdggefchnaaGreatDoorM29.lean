/- The walk of FnExactAsks. -/
import Derived.Test.YtnjepdggefchnaaGreatDoorM10
import Derived.Test.YtnjepdggefchnaaGreatDoorM13
import Derived.Test.YtnjepdggefchnaaGreatDoorM12
import Derived.Test.YtnjepdggefchnaaGreatDoorM19
import Derived.Test.YtnjepdggefchnaaGreatDoorM23
import Derived.Test.YtnjepdggefchnaaGreatDoorM28
import Derived.Deep.RegionHeld3
namespace Go.Proofs.YtnjepdggefchnaaGreatDoor
open Go.RowKit
set_option linter.unusedVariables false
set_option linter.unusedSimpArgs false

/-- Where the rows of a gate of one's own lie. -/
theorem own_blkT {w : World} {B : Nat} {g : Gt} {ah aa ar : Option Addr} (h : GtOwn w B g ah aa ar) : ∀ b, BlkG ah g.hands.length aa g.ask.rows.length ar g.hrd.rows.length b → B ≤ b ∧ b < w.heap.size := by
  rintro b (⟨o, e, hl⟩ | ⟨o, e, hl⟩ | ⟨o, e, hl⟩)
  · obtain ⟨y, _, _, e1, e2, e3, _⟩ := h.1 hl
    rw [e] at e1
    cases e1
    exact ⟨e2, lt_of_heap e3⟩
  · obtain ⟨y, _, _, e1, e2, e3, _⟩ := h.2.1 hl
    rw [e] at e1
    cases e1
    exact ⟨e2, lt_of_heap e3⟩
  · obtain ⟨y, _, _, e1, e2, e3, _⟩ := h.2.2.1 hl
    rw [e] at e1
    cases e1
    exact ⟨e2, lt_of_heap e3⟩

theorem GtBox.keepT {w w' : World} {p : Nat → Prop} {B : Nat} {x : ByteArray} {vh : Value} {sk nw am : Int} {va : Value} {hm : Int} {vr : Value} (h : GtBox w B x vh sk nw am va hm vr) (hk : u_KeepB p w w') (hp : ¬ p B) : GtBox w' B x vh sk nw am va hm vr := by
  have hb := hk.block B h.lt hp
  exact ⟨Nat.lt_of_lt_of_le h.lt hk.size, (World.cell?_of_block (a := ⟨B, 0, none⟩) hb).trans h.c0, (World.cell?_of_block (a := ⟨B, 1, none⟩) hb).trans h.c1, (World.cell?_of_block (a := ⟨B, 2, none⟩) hb).trans h.c2, (World.cell?_of_block (a := ⟨B, 3, none⟩) hb).trans h.c3, (World.cell?_of_block (a := ⟨B, 4, none⟩) hb).trans h.c4, (World.cell?_of_block (a := ⟨B, 5, none⟩) hb).trans h.c5, (World.cell?_of_block (a := ⟨B, 6, none⟩) hb).trans h.c6, (World.cell?_of_block (a := ⟨B, 7, none⟩) hb).trans h.c7⟩

/-- A copy is a gate of one's own. -/
theorem GtNew.own {w : World} {B : Nat} {g : Gt} {gh ga gr : Nat} (h : GtNew w B g gh ga gr) : GtOwn w B g (some ⟨gh, 0, none⟩) (some ⟨ga, 0, none⟩) (some ⟨gr, 0, none⟩) := by
  obtain ⟨q1, q2, q3, ⟨c1, h1, k1⟩, ⟨c2, h2, k2⟩, c3, h3, k3⟩ := h
  exact ⟨fun _ => ⟨gh, 0, c1, rfl, q1, h1, k1⟩, fun _ => ⟨ga, 0, c2, rfl, by omega, h2, k2⟩, fun _ => ⟨gr, 0, c3, rfl, by omega, h3, k3⟩, fun _ _ a o b p e1 e2 => by cases e1; cases e2; omega⟩


set_option maxRecDepth 16000 in
set_option maxHeartbeats 16000000 in
theorem walk_AWAsk (g0 : Gt) (ah : Option Addr) (ch : Nat) (aa : Option Addr) (ca : Nat) (ar : Option Addr) (cr : Nat) (s1 : ByteArray) (i2 : Int) (w : World) (wr0 : GtRow w g0 ah aa ar) (wz0 : GtSz maxLen g0) (ws1 : s1.size ≤ maxLen) (hM : SenWA w) :
    Calls Tryz.prog 3 #[gtV g0 ah ch aa ca ar cr, .string s1, .int .i64 i2] w fun e w' => e = .returned (.bool true) ∧ Below w.heap.size w w' := by
  unfold maxLen at ws1
  by_cases hs1 : s1.size ≤ 1048576
  case neg =>
    have hs1' : (1048576 : Int) < (s1.size : Int) := by omega
    unfold gtV
    go_enter Tryz.func3, Tryz.ntmps3
    go_wp2_with fail
    go_ret
    exact ⟨rfl, (Below.refl _ _).alloc (Nat.le_refl _) _⟩
  have hs1' : ¬ (1048576 : Int) < (s1.size : Int) := by omega
  have C0 := hid (fun wx (h : Below w.heap.size w wx) => cSzGate g0 ah ch aa ca ar cr wx (wr0.below h) wz0)
  have HR := hid wr0

  obtain ⟨a0, a1, a2, hS⟩ := hM
  have CT := hid (fun (hz : GtSz 1048576 g0) (wx : World) (h : GtRow wx g0 ah aa ar) => cToGate g0 ah ch aa ca ar cr wx h hz)
  have CS := hid (fun (hz : GtSz 1048576 g0) (gh ga gr : Nat) (wx : World) (h : GtRow wx g0 (some ⟨gh, 0, none⟩) (some ⟨ga, 0, none⟩) (some ⟨gr, 0, none⟩)) => cAsksS g0 (some ⟨gh, 0, none⟩) g0.hands.length (some ⟨ga, 0, none⟩) g0.ask.rows.length (some ⟨gr, 0, none⟩) g0.hrd.rows.length s1 i2 wx h hz hs1)
  have CI := hid (fun (hz : GtSz 1048576 g0) (gh ga gr : Nat) (wx : World) (h : GtRow wx g0 (some ⟨gh, 0, none⟩) (some ⟨ga, 0, none⟩) (some ⟨gr, 0, none⟩)) (hb : Below w.heap.size w wx) => cAsksI g0 (some ⟨gh, 0, none⟩) g0.hands.length (some ⟨ga, 0, none⟩) g0.ask.rows.length (some ⟨gr, 0, none⟩) g0.hrd.rows.length s1 i2 a0 a1 a2 wx (hS.below hb) h hz hs1)
  have CE := hid (fun (hz : GtSz 1048576 g0) (gh ga gr gh2 ga2 gr2 : Nat) (wx : World) (h : GtRow wx g0 (some ⟨gh, 0, none⟩) (some ⟨ga, 0, none⟩) (some ⟨gr, 0, none⟩)) (h2 : GtRow wx g0 (some ⟨gh2, 0, none⟩) (some ⟨ga2, 0, none⟩) (some ⟨gr2, 0, none⟩)) => cEqGate g0 (some ⟨gh, 0, none⟩) (some ⟨gh2, 0, none⟩) g0.hands.length g0.hands.length (some ⟨ga, 0, none⟩) (some ⟨ga2, 0, none⟩) g0.ask.rows.length g0.ask.rows.length (some ⟨gr, 0, none⟩) (some ⟨gr2, 0, none⟩) g0.hrd.rows.length g0.hrd.rows.length wx h h2 hz)
  have CMX := hid (fun (hz : GtSz 1048576 g0) (hK : 1 + 4 * g0.hands.length + 2 * g0.ask.rows.length + 2 * g0.hrd.rows.length ≤ 100000000) (gh ga gr B : Nat) (wx : World) (h : GtOwn wx B g0 (some ⟨gh, 0, none⟩) (some ⟨ga, 0, none⟩) (some ⟨gr, 0, none⟩)) => cMarkGate g0 (some ⟨gh, 0, none⟩) g0.hands.length (some ⟨ga, 0, none⟩) g0.ask.rows.length (some ⟨gr, 0, none⟩) g0.hrd.rows.length B wx h hK)
  have OBX := hid (fun (wx : World) (B gh ga gr : Nat) (h : GtOwn wx B g0 (some ⟨gh, 0, none⟩) (some ⟨ga, 0, none⟩) (some ⟨gr, 0, none⟩)) => own_blkT h)
  have HSZ := hid (fun (hz : GtSz 1048576 g0) => (⟨hz.2.2.1, hz.2.2.2.2.1, hz.2.2.2.2.2.2⟩ : g0.hands.length ≤ 1048576 ∧ g0.ask.rows.length ≤ 1048576 ∧ g0.hrd.rows.length ≤ 1048576))
  have CQ := hid (fun (hz : GtSz 1048576 g0) (p q : Option Addr) (c d : Nat) (p2 q2 : Option Addr) (c2 d2 : Nat) (p3 q3 : Option Addr) (c3 d3 : Nat) (wx : World) (h : GtRow wx (asksG g0 s1 i2).1 p p2 p3) (h2 : GtRow wx (asksG g0 s1 i2).1 q q2 q3) => cEqGate (asksG g0 s1 i2).1 p q c d p2 q2 c2 d2 p3 q3 c3 d3 wx h h2 ((fun h => asksG_sz h hs1) hz))
  have CM := hid (fun (hK : 1 + 4 * (asksG g0 s1 i2).1.hands.length + 2 * (asksG g0 s1 i2).1.ask.rows.length + 2 * (asksG g0 s1 i2).1.hrd.rows.length ≤ 100000000) (p : Option Addr) (c : Nat) (p2 : Option Addr) (c2 : Nat) (p3 : Option Addr) (c3 B : Nat) (wx : World) (h : GtOwn wx B (asksG g0 s1 i2).1 p p2 p3) => cMarkGate (asksG g0 s1 i2).1 p c p2 c2 p3 c3 B wx h hK)
  have CH := hid (fun (hK : 1 + 4 * (asksG g0 s1 i2).1.hands.length + 2 * (asksG g0 s1 i2).1.ask.rows.length + 2 * (asksG g0 s1 i2).1.hrd.rows.length ≤ 100000000) (p : Option Addr) (c : Nat) (p2 : Option Addr) (c2 : Nat) (p3 : Option Addr) (c3 : Nat) (wx : World) (h : HeldG wx p (asksG g0 s1 i2).1.hands.length p2 (asksG g0 s1 i2).1.ask.rows.length p3 (asksG g0 s1 i2).1.hrd.rows.length) => cHeldGate (asksG g0 s1 i2).1 p c p2 c2 p3 c3 wx h hK)
  have HSN := hid (fun (hz : GtSz 1048576 g0) => (⟨((fun h => asksG_sz h hs1) hz).2.2.1, ((fun h => asksG_sz h hs1) hz).2.2.2.2.1, ((fun h => asksG_sz h hs1) hz).2.2.2.2.2.2⟩ : (asksG g0 s1 i2).1.hands.length ≤ 1048576 ∧ (asksG g0 s1 i2).1.ask.rows.length ≤ 1048576 ∧ (asksG g0 s1 i2).1.hrd.rows.length ≤ 1048576))
  have OB := hid (fun (wx : World) (B : Nat) (p p2 p3 : Option Addr) (h : GtOwn wx B (asksG g0 s1 i2).1 p p2 p3) => own_blkT h)
  clear wr0 wz0
  obtain ⟨NG, hNG⟩ : ∃ N, asksG g0 s1 i2 = N := ⟨_, rfl⟩
  rw [hNG] at CS CI CQ CM CH HSN OB
  clear hNG
  unfold gtV at C0 CT CS CI CE CMX CQ CM CH ⊢
  obtain ⟨rx, hrx⟩ : ∃ rx, NG.2 = rx := ⟨_, rfl⟩
  rw [hrx] at CS CI
  clear hrx
  generalize NG.1 = G at *
  generalize G.name = gx at *
  generalize G.hands.length = gn at *
  generalize G.skew = gsk at *
  generalize G.now = gnw at *
  generalize G.ask.most = gam at *
  generalize G.ask.rows.length = gan at *
  generalize G.hrd.most = grm at *
  generalize G.hrd.rows.length = grn at *
  generalize g0.name = x at *
  generalize g0.hands.length = nh at *
  generalize g0.skew = sk at *
  generalize g0.now = nw at *
  generalize g0.ask.most = am at *
  generalize g0.ask.rows.length = na at *
  generalize g0.hrd.most = rm at *
  generalize g0.hrd.rows.length = nr at *
  have HX := hid (GtBox.new w x (.slice ah nh ch) sk nw am (.slice aa na ca) rm (.slice ar nr cr) 27)
  have HB0 := hid ((Below.refl w.heap.size w).alloc (Nat.le_refl _) (.cells #[.string x, .slice ah nh ch, .int .i64 sk, .int .i64 nw, .int .i64 am, .slice aa na ca, .int .i64 rm, .slice ar nr cr] 27))
  obtain ⟨w0, hw0⟩ : ∃ w0, w.alloc (.cells #[.string x, .slice ah nh ch, .int .i64 sk, .int .i64 nw, .int .i64 am, .slice aa na ca, .int .i64 rm, .slice ar nr cr] 27) = w0 := ⟨_, rfl⟩
  rw [hw0] at HX HB0
  obtain ⟨B, hB⟩ : ∃ B, w.heap.size = B := ⟨_, rfl⟩
  rw [hB] at HX
  obtain ⟨f0, f1, f2, f3, f4, f5, f6, f7⟩ := HX.out.cells
  go_enter Tryz.func3, Tryz.ntmps3
  go_wp2_with fail
  refine (C0.out _ HB0.out).mono ?_
  rintro e w1 ⟨r, rfl, hr, hb1⟩
  have HB1 := hid (bb HB0.out hb1)
  have HX1 := hid (HX.out.below hb1)
  clear hb1 C0 hw0 HX HB0 f0 f1 f2 f3 f4 f5 f6 f7
  rcases hr with rfl | ⟨h0, hz⟩
  · go_wp2_with fail
    go_ret
    exact ⟨rfl, hB ▸ HB1.out⟩
  have hd2 : decide (r < 0) = false := by simp; omega
  obtain ⟨s1, s2, s3⟩ := HSZ.out hz
  obtain ⟨t1, t2, t3⟩ := HSN.out hz
  have hKX : 1 + 4 * nh + 2 * na + 2 * nr ≤ 100000000 := by omega
  have hKG : 1 + 4 * gn + 2 * gan + 2 * grn ≤ 100000000 := by omega
  replace CT := hid (CT.out hz)
  replace CS := hid (CS.out hz)
  replace CI := hid (CI.out hz)
  replace CE := hid (CE.out hz)
  replace CMX := hid (CMX.out hz hKX)
  replace CQ := hid (CQ.out hz)
  replace CM := hid (CM.out hKG)
  replace CH := hid (CH.out hKG)
  have HR1 := hid (HR.out.below HB1.out)
  clear hz HR s1 s2 s3 t1 t2 t3 HSZ HSN
  obtain ⟨f0, f1, f2, f3, f4, f5, f6, f7⟩ := HX1.out.cells
  go_wp2_with fail
  refine (CT.out _ HR1.out).mono ?_
  rintro e w2 ⟨gh2, ga2, gr2, rfl, hN2, hb2⟩
  have S2 := hid hN2.row
  have HB2 := hid (bb HB1.out hb2)
  have HX2 := hid (HX1.out.below hb2)
  have HR2 := hid (HR1.out.below hb2)
  clear hb2 hN2 HB1 HX1 HR1 f0 f1 f2 f3 f4 f5 f6 f7
  go_wp2_with fail
  refine (CS.out gh2 ga2 gr2 _ S2.out).mono ?_
  rintro e w3 ⟨p3, c3, q3, d3, r3, e3, rfl, ho3, hb3⟩
  have HQN := hid (GtBox.new w3 gx (.slice p3 gn c3) gsk gnw gam (.slice q3 gan d3) grm (.slice r3 grn e3) 34)
  have HZ := hid ((Below.refl w3.heap.size w3).alloc (Nat.le_refl _) (.cells #[.string gx, .slice p3 gn c3, .int .i64 gsk, .int .i64 gnw, .int .i64 gam, .slice q3 gan d3, .int .i64 grm, .slice r3 grn e3] 34))
  obtain ⟨wb, hwb⟩ : ∃ wb, w3.alloc (.cells #[.string gx, .slice p3 gn c3, .int .i64 gsk, .int .i64 gnw, .int .i64 gam, .slice q3 gan d3, .int .i64 grm, .slice r3 grn e3] 34) = wb := ⟨_, rfl⟩
  have HWB := hid hwb
  rw [hwb] at HQN HZ
  clear hwb
  have HBb := hid (bb HB2.out (bb hb3 HZ.out))
  have HRb := hid (HR2.out.below (bb hb3 HZ.out))
  have HXb := hid (HX2.out.below (bb hb3 HZ.out))
  have HTb := hid (ho3.row.below HZ.out)
  obtain ⟨Bq, hBq⟩ : ∃ Bq, w3.heap.size = Bq := ⟨_, rfl⟩
  rw [hBq] at HQN
  have HQX := hid (fun W' (h : Below wb.heap.size wb W') => HQN.out.below h)
  have HXX := hid (fun W' (h : Below wb.heap.size wb W') => HXb.out.below h)
  have HRX := hid (fun W' (h : Below wb.heap.size wb W') => HRb.out.below h)
  have HTX := hid (fun W' (h : Below wb.heap.size wb W') => HTb.out.below h)
  have D3 := hid (Below.refl wb.heap.size wb)
  clear hb3 ho3 HZ HB2 HR2 HX2 S2 CS HRb HTb HQN
  go_upto_region 8 with fail
  rw [HWB.out]
  clear HWB hBq
  obtain ⟨f0, f1, f2, f3, f4, f5, f6, f7⟩ := (HXX.out _ D3.out).cells
  go_wp2_with fail
  refine (CT.out _ (HRX.out _ D3.out)).mono ?_
  rintro e w5 ⟨gh5, ga5, gr5, rfl, hN5, hb5⟩
  have HY := hid (GtBox.new w5 x (.slice (some ⟨gh5, 0, none⟩) nh nh) sk nw am (.slice (some ⟨ga5, 0, none⟩) na na) rm (.slice (some ⟨gr5, 0, none⟩) nr nr) 34)
  have HZ := hid ((Below.refl w5.heap.size w5).alloc (Nat.le_refl _) (.cells #[.string x, .slice (some ⟨gh5, 0, none⟩) nh nh, .int .i64 sk, .int .i64 nw, .int .i64 am, .slice (some ⟨ga5, 0, none⟩) na na, .int .i64 rm, .slice (some ⟨gr5, 0, none⟩) nr nr] 34))
  obtain ⟨wc, hwc⟩ : ∃ wc, w5.alloc (.cells #[.string x, .slice (some ⟨gh5, 0, none⟩) nh nh, .int .i64 sk, .int .i64 nw, .int .i64 am, .slice (some ⟨ga5, 0, none⟩) na na, .int .i64 rm, .slice (some ⟨gr5, 0, none⟩) nr nr] 34) = wc := ⟨_, rfl⟩
  have HWC := hid hwc
  rw [hwc] at HY HZ
  clear hwc
  have OB5 := hid (OBX.out _ _ _ _ _ hN5.own)
  have HO5 := hid (hN5.own.below HZ.out)
  have D5 := hid (bb hb5 HZ.out)
  have HZ5 := hid HZ.out.size
  clear hb5 hN5 HZ D3 f0 f1 f2 f3 f4 f5 f6 f7
  obtain ⟨By, hBy⟩ : ∃ By, w5.heap.size = By := ⟨_, rfl⟩
  have HBY := hid hBy
  rw [hBy] at HY
  go_upto_region 9 with fail
  rw [HWC.out]
  clear HWC hBy
  obtain ⟨y0, y1, y2, y3, y4, y5, y6, y7⟩ := HY.out.cells
  go_wp2_with fail
  refine (CI.out gh5 ga5 gr5 _ HO5.out.row (bb HBb.out D5.out)).mono ?_
  rintro e w6 ⟨p6, c6, q6, d6, r6, e6, rfl, ho6, hb6⟩
  have HN6 := hid (GtBox.new w6 gx (.slice p6 gn c6) gsk gnw gam (.slice q6 gan d6) grm (.slice r6 grn e6) 34)
  have HZ := hid ((Below.refl w6.heap.size w6).alloc (Nat.le_refl _) (.cells #[.string gx, .slice p6 gn c6, .int .i64 gsk, .int .i64 gnw, .int .i64 gam, .slice q6 gan d6, .int .i64 grm, .slice r6 grn e6] 34))
  obtain ⟨w7, hw7⟩ : ∃ w7, w6.alloc (.cells #[.string gx, .slice p6 gn c6, .int .i64 gsk, .int .i64 gnw, .int .i64 gam, .slice q6 gan d6, .int .i64 grm, .slice r6 grn e6] 34) = w7 := ⟨_, rfl⟩
  have HW7 := hid hw7
  rw [hw7] at HN6 HZ
  clear hw7
  have OB6 := hid (OB.out _ _ _ _ _ ho6)
  have HW56 := hid hb6.size
  have HWb := hid D5.out.size
  have D7 := hid (bb D5.out (bb hb6 HZ.out))
  have HO57 := hid (HO5.out.below (bb hb6 HZ.out))
  have HY7 := hid (HY.out.below (bb hb6 HZ.out))
  have HO7 := hid (ho6.below HZ.out)
  clear hb6 ho6 HZ HY HO5 D5 y0 y1 y2 y3 y4 y5 y6 y7
  obtain ⟨Bg, hBg⟩ : ∃ Bg, w6.heap.size = Bg := ⟨_, rfl⟩
  have HBG := hid hBg
  rw [hBg] at HN6
  go_upto_region 10 with fail
  rw [HW7.out]
  clear HW7 hBg
  obtain ⟨z0, z1, z2, z3, z4, z5, z6, z7⟩ := HN6.out.cells
  obtain ⟨t0, t1, t2, t3, t4, t5, t6, t7⟩ := (HQX.out _ D7.out).cells
  have e9 : (rx != rx) = false := by simp
  go_wp2_with fail
  refine (CQ.out p6 p3 c6 c3 q6 q3 d6 d3 r6 r3 e6 e3 _ HO7.out.row (HTX.out _ D7.out)).mono ?_
  rintro e w8 ⟨rfl, hb8⟩
  have D8 := hid (bb D7.out hb8)
  have HO58 := hid (HO57.out.below hb8)
  have HY8 := hid (HY7.out.below hb8)
  have HN8 := hid (HN6.out.below hb8)
  have HO8 := hid (HO7.out.below hb8)
  clear hb8 D7 HO57 HY7 HN6 HO7 z0 z1 z2 z3 z4 z5 z6 z7 t0 t1 t2 t3 t4 t5 t6 t7
  go_upto_region 12 with fail
  have HBc := hid ((Below.refl w8.heap.size w8).drew)
  have HSX := hid (show ∀ w', Below w8.heap.size w8 w' → w'.cell? ⟨B, 0, none⟩ = some (.string x) ∧ w'.cell? ⟨B, 1, none⟩ = some (.slice ah nh ch) ∧ w'.cell? ⟨B, 2, none⟩ = some (.int .i64 sk) ∧ w'.cell? ⟨B, 3, none⟩ = some (.int .i64 nw) ∧ w'.cell? ⟨B, 4, none⟩ = some (.int .i64 am) ∧ w'.cell? ⟨B, 5, none⟩ = some (.slice aa na ca) ∧ w'.cell? ⟨B, 6, none⟩ = some (.int .i64 rm) ∧ w'.cell? ⟨B, 7, none⟩ = some (.slice ar nr cr) ∧ w'.cell? ⟨By, 0, none⟩ = some (.string x) ∧ w'.cell? ⟨By, 1, none⟩ = some (.slice (some ⟨gh5, 0, none⟩) nh nh) ∧ w'.cell? ⟨By, 2, none⟩ = some (.int .i64 sk) ∧ w'.cell? ⟨By, 3, none⟩ = some (.int .i64 nw) ∧ w'.cell? ⟨By, 4, none⟩ = some (.int .i64 am) ∧ w'.cell? ⟨By, 5, none⟩ = some (.slice (some ⟨ga5, 0, none⟩) na na) ∧ w'.cell? ⟨By, 6, none⟩ = some (.int .i64 rm) ∧ w'.cell? ⟨By, 7, none⟩ = some (.slice (some ⟨gr5, 0, none⟩) nr nr) from fun w' hb => by
    obtain ⟨f0, f1, f2, f3, f4, f5, f6, f7⟩ := (HXX.out _ (bb D8.out hb)).cells
    obtain ⟨y0, y1, y2, y3, y4, y5, y6, y7⟩ := (HY8.out.below hb).cells
    exact ⟨f0, f1, f2, f3, f4, f5, f6, f7, y0, y1, y2, y3, y4, y5, y6, y7⟩)
  go_region_held3 (fun w' => w'.cell? ⟨B, 0, none⟩ = some (.string x) ∧ w'.cell? ⟨B, 1, none⟩ = some (.slice ah nh ch) ∧ w'.cell? ⟨B, 2, none⟩ = some (.int .i64 sk) ∧ w'.cell? ⟨B, 3, none⟩ = some (.int .i64 nw) ∧ w'.cell? ⟨B, 4, none⟩ = some (.int .i64 am) ∧ w'.cell? ⟨B, 5, none⟩ = some (.slice aa na ca) ∧ w'.cell? ⟨B, 6, none⟩ = some (.int .i64 rm) ∧ w'.cell? ⟨B, 7, none⟩ = some (.slice ar nr cr) ∧ w'.cell? ⟨By, 0, none⟩ = some (.string x) ∧ w'.cell? ⟨By, 1, none⟩ = some (.slice (some ⟨gh5, 0, none⟩) nh nh) ∧ w'.cell? ⟨By, 2, none⟩ = some (.int .i64 sk) ∧ w'.cell? ⟨By, 3, none⟩ = some (.int .i64 nw) ∧ w'.cell? ⟨By, 4, none⟩ = some (.int .i64 am) ∧ w'.cell? ⟨By, 5, none⟩ = some (.slice (some ⟨ga5, 0, none⟩) na na) ∧ w'.cell? ⟨By, 6, none⟩ = some (.int .i64 rm) ∧ w'.cell? ⟨By, 7, none⟩ = some (.slice (some ⟨gr5, 0, none⟩) nr nr)) (with_reducible exact HSX.out _ HBc.out)
    (first
      | (go_at_call 6; with_reducible refine (CT.out _ (HRX.out _ (bb D8.out HBc.out))).mono ?_; rintro e wx ⟨gh8, ga8, gr8, rfl, hN8, hbx⟩; replace HBc := hid (bb HBc.out hbx); have T8 := hid hN8.row; clear hN8 hbx)
      | (go_at_call 8; with_reducible refine (CE.out gh5 ga5 gr5 gh8 ga8 gr8 _ (HO58.out.row.below HBc.out) T8.out).mono ?_; rintro e w9 ⟨rfl, hb9⟩; replace HBc := hid (bb HBc.out hb9); clear hb9))
  have D9 := hid (bb D8.out HBc.out)
  have HO59 := hid (HO58.out.below HBc.out)
  have HY9 := hid (HY8.out.below HBc.out)
  have HN9 := hid (HN8.out.below HBc.out)
  have HO9 := hid (HO8.out.below HBc.out)
  clear D8 HO58 HY8 HN8 HO8 HBc HSX T8 CE
  obtain ⟨y0, y1, y2, y3, y4, y5, y6, y7⟩ := HY9.out.cells
  obtain ⟨K1, hK1⟩ : ∃ K1, 1 + 4 * nh + 2 * na + 2 * nr = K1 := ⟨_, rfl⟩
  rw [hK1] at CMX
  have hd9 : decide ((K1 : Int) < 0) = false := by simp
  clear hK1
  go_wp2_with fail
  refine (CMX.out gh5 ga5 gr5 _ _ HO59.out).mono ?_
  rintro e w10 ⟨rfl, _, hkb⟩
  have D10 := hid (D9.out.trans (hkb.below D9.out.size (fun b hb => (OB5.out b hb).1)))
  have HN10 := hid (HN9.out.keepT hkb (fun hb => by have h1 := (OB5.out _ hb).2; have h2 := HZ5.out; have h3 := HW56.out; have h4 := HBG.out; omega))
  have HO10 := hid (HO9.out.keep hkb (fun b hb => by have h1 := (OB5.out b hb).2; have h2 := HZ5.out; omega))
  clear hkb HO59 HY9 HN9 HO9 D9 CMX y0 y1 y2 y3 y4 y5 y6 y7
  obtain ⟨z0, z1, z2, z3, z4, z5, z6, z7⟩ := HN10.out.cells
  obtain ⟨t0, t1, t2, t3, t4, t5, t6, t7⟩ := (HQX.out _ D10.out).cells
  go_wp2_with fail
  refine (CQ.out p6 p3 c6 c3 q6 q3 d6 d3 r6 r3 e6 e3 _ HO10.out.row (HTX.out _ D10.out)).mono ?_
  rintro e w11 ⟨rfl, hb11⟩
  have D11 := hid (bb D10.out hb11)
  have HN11 := hid (HN10.out.below hb11)
  have HO11 := hid (HO10.out.below hb11)
  clear hb11 D10 HN10 HO10 hd9 z0 z1 z2 z3 z4 z5 z6 z7 t0 t1 t2 t3 t4 t5 t6 t7
  obtain ⟨z0, z1, z2, z3, z4, z5, z6, z7⟩ := HN11.out.cells
  go_wp2_with fail
  clear z0 z1 z2 z3 z4 z5 z6 z7
  refine (CM.out p6 c6 q6 d6 r6 e6 _ _ HO11.out).mono ?_
  rintro e w12 ⟨rfl, hh12, hk12⟩
  have D12 := hid (D11.out.trans (hk12.below D11.out.size (fun b hb => by have h1 := (OB6.out b hb).1; have h2 := HWb.out; omega)))
  have HN12 := hid (HN11.out.keepT hk12 (fun hb => by have h1 := (OB6.out Bg hb).2; have h2 := HBG.out; omega))
  have HH12 := hid hh12
  clear hk12 hh12 D11 HN11 HO11 CM
  obtain ⟨z0, z1, z2, z3, z4, z5, z6, z7⟩ := HN12.out.cells
  obtain ⟨K, hK⟩ : ∃ K, 1 + 4 * gn + 2 * gan + 2 * grn = K := ⟨_, rfl⟩
  rw [hK] at CH hKG ⊢
  have hd : decide ((K : Int) < 0) = false := by simp
  have hKK : ((K : Int) != (K : Int)) = false := by simp
  clear hK
  go_wp2_with fail
  clear z0 z1 z2 z3 z4 z5 z6 z7
  refine (CH.out p6 c6 q6 d6 r6 e6 _ HH12.out).mono ?_
  rintro e w13 ⟨rfl, hb13⟩
  have D13 := hid (bb D12.out hb13)
  have HN13 := hid (HN12.out.below hb13)
  have HH13 := hid (HH12.out.below hb13)
  clear hb13 D12 HN12 HH12
  obtain ⟨f0, f1, f2, f3, f4, f5, f6, f7⟩ := (HXX.out _ D13.out).cells
  go_wp2_with fail
  refine (CT.out _ (HRX.out _ D13.out)).mono ?_
  rintro e w14 ⟨gh14, ga14, gr14, rfl, hN14, hb14⟩
  have S14 := hid hN14.row
  have D14 := hid (bb D13.out hb14)
  have HN14 := hid (HN13.out.below hb14)
  have HH14 := hid (HH13.out.below hb14)
  clear hb14 hN14 D13 HN13 HH13 f0 f1 f2 f3 f4 f5 f6 f7
  go_wp2_with fail
  refine (CI.out gh14 ga14 gr14 _ S14.out (bb HBb.out D14.out)).mono ?_
  rintro e w15 ⟨p15, c15, q15, d15, r15, e15, rfl, ho15, hb15⟩
  have HZ := hid ((Below.refl w15.heap.size w15).alloc (Nat.le_refl _) (.cells #[.string gx, .slice p15 gn c15, .int .i64 gsk, .int .i64 gnw, .int .i64 gam, .slice q15 gan d15, .int .i64 grm, .slice r15 grn e15] 34))
  have HW := hid (GtBox.new w15 gx (.slice p15 gn c15) gsk gnw gam (.slice q15 gan d15) grm (.slice r15 grn e15) 34)
  obtain ⟨w16, hw16⟩ : ∃ w16, w15.alloc (.cells #[.string gx, .slice p15 gn c15, .int .i64 gsk, .int .i64 gnw, .int .i64 gam, .slice q15 gan d15, .int .i64 grm, .slice r15 grn e15] 34) = w16 := ⟨_, rfl⟩
  have HW16 := hid hw16
  rw [hw16] at HZ HW
  clear hw16
  have D16 := hid (bb D14.out (bb hb15 HZ.out))
  have HN16 := hid (HN14.out.below (bb hb15 HZ.out))
  have HH16 := hid (HH14.out.below (bb hb15 HZ.out))
  have HO16 := hid (ho15.row.below HZ.out)
  clear hb15 ho15 HZ D14 HN14 HH14 S14
  obtain ⟨Bw, hBw⟩ : ∃ Bw, w15.heap.size = Bw := ⟨_, rfl⟩
  rw [hBw] at HW
  go_upto_region 27 with fail
  rw [HW16.out]
  clear HW16 hBw
  obtain ⟨z0, z1, z2, z3, z4, z5, z6, z7⟩ := HW.out.cells
  obtain ⟨t0, t1, t2, t3, t4, t5, t6, t7⟩ := (HQX.out _ D16.out).cells
  go_wp2_with fail
  refine (CQ.out p15 p3 c15 c3 q15 q3 d15 d3 r15 r3 e15 e3 _ HO16.out (HTX.out _ D16.out)).mono ?_
  rintro e w17 ⟨rfl, hb17⟩
  have D17 := hid (bb D16.out hb17)
  have HN17 := hid (HN16.out.below hb17)
  have HH17 := hid (HH16.out.below hb17)
  clear hb17 D16 HN16 HH16 HO16 HW z0 z1 z2 z3 z4 z5 z6 z7 t0 t1 t2 t3 t4 t5 t6 t7
  obtain ⟨z0, z1, z2, z3, z4, z5, z6, z7⟩ := HN17.out.cells
  go_wp2_with fail
  clear z0 z1 z2 z3 z4 z5 z6 z7
  refine (CH.out p6 c6 q6 d6 r6 e6 _ HH17.out).mono ?_
  rintro e w18 ⟨rfl, hb18⟩
  have D18 := hid (bb D17.out hb18)
  clear hb18
  go_wp2_with fail
  go_ret
  exact ⟨rfl, hB ▸ bb HBb.out D18.out⟩

end Go.Proofs.YtnjepdggefchnaaGreatDoor
