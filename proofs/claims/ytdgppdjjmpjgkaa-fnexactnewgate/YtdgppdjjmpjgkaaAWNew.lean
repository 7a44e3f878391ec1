/- The walk of FnExactNewGate. -/
import Derived.Test.YtdgppdjjmpjgkaaAOpen
import Derived.Test.YtdgppdjjmpjgkaaANewS
import Derived.Test.YtdgppdjjmpjgkaaAMarkG
namespace Go.Proofs.Ytdgppdjjmpjgkaa
open Go.RowKit
set_option linter.unusedVariables false
set_option linter.unusedSimpArgs false

theorem newG_sz {x : ByteArray} {l : List Hd} {sk most : Int} (hx : x.size ≤ 1048576) (hz : HdSz 1048576 l) (hn : l.length ≤ 1048576) : GtSz 1048576 (newG x l sk most).1 := by
  unfold newG
  split
  · exact ⟨hx, hz, hn, fun y hy => absurd hy (List.not_mem_nil), Nat.zero_le _, fun y hy => absurd hy (List.not_mem_nil), Nat.zero_le _⟩
  · exact ⟨Nat.zero_le _, fun y hy => absurd hy (List.not_mem_nil), Nat.zero_le _, fun y hy => absurd hy (List.not_mem_nil), Nat.zero_le _, fun y hy => absurd hy (List.not_mem_nil), Nat.zero_le _⟩

/-- Where the rows of a gate of one's own lie. -/
theorem own_blk {w : World} {B : Nat} {g : Gt} {ah aa ar : Option Addr} (h : GtOwn w B g ah aa ar) : ∀ b, BlkG ah g.hands.length aa g.ask.rows.length ar g.hrd.rows.length b → B ≤ b ∧ b < w.heap.size := by
  rintro b (⟨o, e, hl⟩ | ⟨o, e, hl⟩ | ⟨o, e, hl⟩)
  · obtain ⟨y, _, _, e1, e2, e3, _⟩ := h.1 hl
    rw [e] at e1
    cases e1
    exact ⟨e2, lt_of_heap e3⟩
  · obtain ⟨y, _, _, e1, e2, e3, _⟩ := h.2.1 hl
    rw [e] at e1
    cases e1
    exact ⟨e2, lt_of_heap e3⟩
  · obtain ⟨y, _, _, e1, e2, e3, _⟩ := h.2.2.1 hl
    rw [e] at e1
    cases e1
    exact ⟨e2, lt_of_heap e3⟩

theorem GtBox.keep {w w' : World} {p : Nat → Prop} {B : Nat} {x : ByteArray} {vh : Value} {sk nw am : Int} {va : Value} {hm : Int} {vr : Value} (h : GtBox w B x vh sk nw am va hm vr) (hk : u_KeepB p w w') (hp : ¬ p B) : GtBox w' B x vh sk nw am va hm vr := by
  have hb := hk.block B h.lt hp
  exact ⟨Nat.lt_of_lt_of_le h.lt hk.size, (World.cell?_of_block (a := ⟨B, 0, none⟩) hb).trans h.c0, (World.cell?_of_block (a := ⟨B, 1, none⟩) hb).trans h.c1, (World.cell?_of_block (a := ⟨B, 2, none⟩) hb).trans h.c2, (World.cell?_of_block (a := ⟨B, 3, none⟩) hb).trans h.c3, (World.cell?_of_block (a := ⟨B, 4, none⟩) hb).trans h.c4, (World.cell?_of_block (a := ⟨B, 5, none⟩) hb).trans h.c5, (World.cell?_of_block (a := ⟨B, 6, none⟩) hb).trans h.c6, (World.cell?_of_block (a := ⟨B, 7, none⟩) hb).trans h.c7⟩

set_option maxRecDepth 16000 in
set_option maxHeartbeats 16000000 in
theorem walk_newGate (s0 : ByteArray) (a1 : Option Addr) (cap1 : Nat) (l1 : List Hd) (i2 i3 : Int) (w : World) (ws0 : s0.size ≤ maxLen) (wr1 : HdRow w a1 l1) (wn1 : l1.length ≤ maxLen) (wz1 : HdSz maxLen l1) :
    Calls Try.prog 4 #[.string s0, .slice a1 l1.length cap1, .int .i64 i2, .int .i64 i3] w fun e w' => e = .returned (.bool true) ∧ Below w.heap.size w w' := by
  have C0 := hid (cSzHandS a1 cap1 l1 1048576 w wr1 wz1 wn1 (Nat.le_refl _))
  have HR := hid wr1
  clear wr1 wz1 wn1
  unfold maxLen at ws0
  by_cases hs1 : s0.size ≤ 1048576
  case neg =>
    have hs1' : (1048576 : Int) < (s0.size : Int) := by omega
    go_enter Try.func4, Try.ntmps4
    go_wp2_with fail
    go_ret
    exact ⟨rfl, Below.refl _ _⟩
  have hs1' : ¬ (1048576 : Int) < (s0.size : Int) := by omega
  go_enter Try.func4, Try.ntmps4
  go_wp2_with fail
  refine C0.out.mono ?_
  rintro e w1 ⟨r, rfl, hr, hb1⟩
  have HB1 := hid hb1
  clear hb1 C0
  rcases hr with rfl | ⟨h0, _, hn, hz⟩
  · go_wp2_with fail
    go_ret
    exact ⟨rfl, HB1.out⟩
  have hd2 : decide (r < 0) = false := by simp; omega
  have hSZ : GtSz 1048576 (newG s0 l1 i2 i3).1 := newG_sz hs1 hz hn
  have CT := hid (fun (wx : World) (h : HdRow wx a1 l1) => cToHandS a1 cap1 l1 wx h hn)
  have CS := hid (fun (g : Nat) (wx : World) (h : HdRow wx (some ⟨g, 0, none⟩) l1) => cNewGateS s0 l1 (some ⟨g, 0, none⟩) l1.length i2 i3 wx h hz hn hs1)
  have CI := hid (fun (g : Nat) (wx : World) (h : HdRow wx (some ⟨g, 0, none⟩) l1) => cNewGateI s0 l1 (some ⟨g, 0, none⟩) l1.length i2 i3 wx h hz hn hs1)
  have CE := hid (fun (g g2 : Nat) (wx : World) (h : HdRow wx (some ⟨g, 0, none⟩) l1) (h2 : HdRow wx (some ⟨g2, 0, none⟩) l1) => cEqHandS (some ⟨g, 0, none⟩) (some ⟨g2, 0, none⟩) l1.length l1.length l1 wx h h2 hn)
  have CMH := hid (fun (g B : Nat) (wx : World) (h : OwnHd wx B (some ⟨g, 0, none⟩) l1) => cMarkHands (some ⟨g, 0, none⟩) l1.length B 1 l1 wx h (by omega))
  have CQ := hid (fun (p q : Option Addr) (c d : Nat) (p2 q2 : Option Addr) (c2 d2 : Nat) (p3 q3 : Option Addr) (c3 d3 : Nat) (wx : World) (h : GtRow wx (newG s0 l1 i2 i3).1 p p2 p3) (h2 : GtRow wx (newG s0 l1 i2 i3).1 q q2 q3) => cEqGate (newG s0 l1 i2 i3).1 p q c d p2 q2 c2 d2 p3 q3 c3 d3 wx h h2 hSZ)
  have hKG : 1 + 4 * (newG s0 l1 i2 i3).1.hands.length + 2 * (newG s0 l1 i2 i3).1.ask.rows.length + 2 * (newG s0 l1 i2 i3).1.hrd.rows.length ≤ 100000000 := by
    have h1 := hSZ.2.2.1
    have h2 := hSZ.2.2.2.2.1
    have h3 := hSZ.2.2.2.2.2.2
    omega
  have CM := hid (fun (p : Option Addr) (c : Nat) (p2 : Option Addr) (c2 : Nat) (p3 : Option Addr) (c3 B : Nat) (wx : World) (h : GtOwn wx B (newG s0 l1 i2 i3).1 p p2 p3) => cMarkGate (newG s0 l1 i2 i3).1 p c p2 c2 p3 c3 B wx h hKG)
  have CH := hid (fun (p : Option Addr) (c : Nat) (p2 : Option Addr) (c2 : Nat) (p3 : Option Addr) (c3 : Nat) (wx : World) (h : HeldG wx p (newG s0 l1 i2 i3).1.hands.length p2 (newG s0 l1 i2 i3).1.ask.rows.length p3 (newG s0 l1 i2 i3).1.hrd.rows.length) => cHeldGate (newG s0 l1 i2 i3).1 p c p2 c2 p3 c3 wx h hKG)
  obtain ⟨NG, hNG⟩ : ∃ N, newG s0 l1 i2 i3 = N := ⟨_, rfl⟩
  rw [hNG] at CS CI CQ CM CH hKG
  have hK1 : 1 + 4 * l1.length ≤ 100000000 := by omega
  have OB := hid (fun (wx : World) (B : Nat) (p p2 p3 : Option Addr) (h : GtOwn wx B NG.1 p p2 p3) => own_blk h)
  clear hNG hSZ
  unfold gtV at CS CI CQ CM CH
  obtain ⟨rx, hrx⟩ : ∃ rx, NG.2 = rx := ⟨_, rfl⟩
  rw [hrx] at CS CI
  clear hrx
  generalize NG.1 = G at *
  generalize G.name = gx at *
  generalize G.hands.length = gn at *
  generalize G.skew = gsk at *
  generalize G.now = gnw at *
  generalize G.ask.most = gam at *
  generalize G.ask.rows.length = gan at *
  generalize G.hrd.most = grm at *
  generalize G.hrd.rows.length = grn at *
  generalize hnl : l1.length = n at *
  have HNL := hid hnl
  clear hnl hz hn
  have HR1 := hid (HR.out.below HB1.out)
  go_wp2_with fail
  refine (CT.out _ HR1.out).mono ?_
  rintro e w2 ⟨g, cu2, _, rfl, hh2, hc2, hb2⟩
  have S2 := hid (hc2.row hh2)
  have HB2 := hid (bb HB1.out hb2)
  have HR2 := hid (HR1.out.below hb2)
  clear hb2 hh2 hc2 HB1 HR1
  go_wp2_with fail
  refine (CS.out g _ S2.out).mono ?_
  rintro e w3 ⟨p3, c3, q3, d3, r3, e3, rfl, ho3, hb3⟩
  have HQN := hid (GtBox.new w3 gx (.slice p3 gn c3) gsk gnw gam (.slice q3 gan d3) grm (.slice r3 grn e3) 35)
  have HZ := hid ((Below.refl w3.heap.size w3).alloc (Nat.le_refl _) (.cells #[.string gx, .slice p3 gn c3, .int .i64 gsk, .int .i64 gnw, .int .i64 gam, .slice q3 gan d3, .int .i64 grm, .slice r3 grn e3] 35))
  obtain ⟨wb, hwb⟩ : ∃ wb, w3.alloc (.cells #[.string gx, .slice p3 gn c3, .int .i64 gsk, .int .i64 gnw, .int .i64 gam, .slice q3 gan d3, .int .i64 grm, .slice r3 grn e3] 35) = wb := ⟨_, rfl⟩
  have HWB0 := hid hwb
  rw [hwb] at HQN HZ
  clear hwb
  have HBb := hid (bb HB2.out (bb hb3 HZ.out))
  have HRb := hid (HR2.out.below (bb hb3 HZ.out))
  have HTb := hid (ho3.row.below HZ.out)
  have HW3 := hid HZ.out.size
  obtain ⟨Bq, hBq⟩ : ∃ Bq, w3.heap.size = Bq := ⟨_, rfl⟩
  rw [hBq] at HQN
  have HXX := hid (fun W' (h : Below wb.heap.size wb W') => HQN.out.below h)
  have HRX := hid (fun W' (h : Below wb.heap.size wb W') => HRb.out.below h)
  have HTX := hid (fun W' (h : Below wb.heap.size wb W') => HTb.out.below h)
  have D3 := hid (Below.refl wb.heap.size wb)
  clear hb3 ho3 HZ HB2 HR2 S2 CS HRb HTb HQN
  go_wp2_with fail
  rw [HWB0.out]
  clear HWB0 hBq
  refine (CT.out _ (HRX.out _ D3.out)).mono ?_
  rintro e w5 ⟨g4, cu4, hg4, rfl, hh4, hc4, hb4⟩
  have HG4 := hid hg4
  have D5 := hid hb4
  have M5 := hid hh4
  have MC := hid hc4
  have S5 := hid (hc4.row hh4)
  have HGL := hid (show g4 < w5.heap.size from lt_of_heap hh4)
  have HW5 := hid hb4.size
  clear hb4 hh4 hc4 hg4 D3
  go_wp2_with fail
  refine (CI.out g4 _ S5.out).mono ?_
  rintro e w6 ⟨p6, c6, q6, d6, r6, e6, rfl, ho6, hb6⟩
  have HN6 := hid (GtBox.new w6 gx (.slice p6 gn c6) gsk gnw gam (.slice q6 gan d6) grm (.slice r6 grn e6) 35)
  have HZ := hid ((Below.refl w6.heap.size w6).alloc (Nat.le_refl _) (.cells #[.string gx, .slice p6 gn c6, .int .i64 gsk, .int .i64 gnw, .int .i64 gam, .slice q6 gan d6, .int .i64 grm, .slice r6 grn e6] 35))
  obtain ⟨w7, hw7⟩ : ∃ w7, w6.alloc (.cells #[.string gx, .slice p6 gn c6, .int .i64 gsk, .int .i64 gnw, .int .i64 gam, .slice q6 gan d6, .int .i64 grm, .slice r6 grn e6] 35) = w7 := ⟨_, rfl⟩
  have HW7 := hid hw7
  rw [hw7] at HN6 HZ
  clear hw7
  have OB6 := hid (OB.out _ _ _ _ _ ho6)
  have h57 := bb hb6 HZ.out
  have D7 := hid (bb D5.out h57)
  have S7 := hid (S5.out.below h57)
  have M7 := hid (u_blk_below M5.out h57)
  have HO7 := hid (ho6.below HZ.out)
  have HZB := hid (show w5.heap.size ≤ w6.heap.size from hb6.size)
  clear h57 hb6 ho6 HZ D5 S5 M5
  obtain ⟨Bg, hBg⟩ : ∃ Bg, w6.heap.size = Bg := ⟨_, rfl⟩
  have HBG := hid hBg
  rw [hBg] at HN6
  have X7 := hid (HXX.out _ D7.out)
  obtain ⟨f0, f1, f2, f3, f4, f5, f6, f7⟩ := X7.out.cells
  obtain ⟨z0, z1, z2, z3, z4, z5, z6, z7⟩ := HN6.out.cells
  have e9 : (rx != rx) = false := by simp
  go_upto_region 10 with fail
  rw [HW7.out]
  clear HW7 hBg
  go_wp2_with fail
  refine (CQ.out p6 p3 c6 c3 q6 q3 d6 d3 r6 r3 e6 e3 _ HO7.out.row (HTX.out _ D7.out)).mono ?_
  rintro e w8 ⟨rfl, hb8⟩
  have D8 := hid (bb D7.out hb8)
  have S8 := hid (S7.out.below hb8)
  have M8 := hid (u_blk_below M7.out hb8)
  have HN8 := hid (HN6.out.below hb8)
  have HO8 := hid (HO7.out.below hb8)
  clear hb8 D7 S7 M7 HN6 HO7 X7 f0 f1 f2 f3 f4 f5 f6 f7 z0 z1 z2 z3 z4 z5 z6 z7
  go_wp2_with fail
  refine (CT.out _ (HRX.out _ D8.out)).mono ?_
  rintro e wx ⟨gx9, cux, _, rfl, hhx, hcx, hbx⟩
  have TX := hid (hcx.row hhx)
  have D8b := hid (bb D8.out hbx)
  have S8b := hid (S8.out.below hbx)
  have M8b := hid (u_blk_below M8.out hbx)
  have HN8b := hid (HN8.out.below hbx)
  have HO8b := hid (HO8.out.below hbx)
  clear hhx hcx hbx D8 S8 M8 HN8 HO8
  go_wp2_with fail
  refine (CE.out g4 gx9 _ S8b.out TX.out).mono ?_
  rintro e w9 ⟨rfl, hb9⟩
  have D9 := hid (bb D8b.out hb9)
  have M9 := hid (u_blk_below M8b.out hb9)
  have HN9 := hid (HN8b.out.below hb9)
  have HO9 := hid (HO8b.out.below hb9)
  clear hb9 D8b S8b M8b HN8b HO8b TX CE
  have HOM := hid (show OwnHd w9 0 (some ⟨g4, 0, none⟩) l1 from fun _ => ⟨g4, 0, cu4, rfl, Nat.zero_le _, M9.out, MC.out⟩)
  obtain ⟨K1, hK1'⟩ : ∃ K1, 1 + 4 * n = K1 := ⟨_, rfl⟩
  rw [hK1'] at CMH hK1
  have hd9 : decide ((K1 : Int) < 0) = false := by simp
  clear hK1'
  go_wp2_with fail
  refine (CMH.out g4 0 _ HOM.out).mono ?_
  rintro e w10 ⟨rfl, _, hkb⟩
  have hp4 : ∀ b, BlkOf (some ⟨g4, 0, none⟩) n b → b = g4 := fun b ⟨o, e, _⟩ => by cases e; rfl
  have HK10 := hid (u_KeepB.mono hkb (q := fun b => b = g4) hp4)
  have D10 := hid (D9.out.trans (HK10.out.below D9.out.size (fun b e => by rw [e]; exact HG4.out)))
  have HN10 := hid (HN9.out.keep HK10.out (fun e => by have h1 := HGL.out; have h2 := HZB.out; have h3 := HBG.out; omega))
  have HO10 := hid (HO9.out.keep HK10.out (fun b e => by have h1 := HGL.out; omega))
  clear hkb hp4 HK10 HOM M9 MC HN9 HO9 D9 CMH
  have X10 := hid (HXX.out _ D10.out)
  obtain ⟨f0, f1, f2, f3, f4, f5, f6, f7⟩ := X10.out.cells
  obtain ⟨z0, z1, z2, z3, z4, z5, z6, z7⟩ := HN10.out.cells
  go_wp2_with fail
  refine (CQ.out p6 p3 c6 c3 q6 q3 d6 d3 r6 r3 e6 e3 _ HO10.out.row (HTX.out _ D10.out)).mono ?_
  rintro e w11 ⟨rfl, hb11⟩
  have D11 := hid (bb D10.out hb11)
  have HN11 := hid (HN10.out.below hb11)
  have HO11 := hid (HO10.out.below hb11)
  clear hb11 D10 HN10 HO10 X10 hd9 f0 f1 f2 f3 f4 f5 f6 f7 z0 z1 z2 z3 z4 z5 z6 z7
  obtain ⟨z0, z1, z2, z3, z4, z5, z6, z7⟩ := HN11.out.cells
  go_wp2_with fail
  clear z0 z1 z2 z3 z4 z5 z6 z7
  refine (CM.out p6 c6 q6 d6 r6 e6 _ _ HO11.out).mono ?_
  rintro e w12 ⟨rfl, hh12, hk12⟩
  have D12 := hid (D11.out.trans (hk12.below D11.out.size (fun b h => by have h1 := (OB6.out b h).1; have h2 := HW5.out; omega)))
  have HN12 := hid (HN11.out.keep hk12 (fun h => by have h1 := (OB6.out Bg h).2; have h2 := HBG.out; omega))
  have HH12 := hid hh12
  clear hk12 hh12 D11 HN11 HO11 CM
  obtain ⟨z0, z1, z2, z3, z4, z5, z6, z7⟩ := HN12.out.cells
  obtain ⟨K, hK⟩ : ∃ K, 1 + 4 * gn + 2 * gan + 2 * grn = K := ⟨_, rfl⟩
  rw [hK] at CH hKG ⊢
  have hd : decide ((K : Int) < 0) = false := by simp
  have hKK : ((K : Int) != (K : Int)) = false := by simp
  clear hK
  go_wp2_with fail
  clear z0 z1 z2 z3 z4 z5 z6 z7
  refine (CH.out p6 c6 q6 d6 r6 e6 _ HH12.out).mono ?_
  rintro e w13 ⟨rfl, hb13⟩
  have D13 := hid (bb D12.out hb13)
  have HN13 := hid (HN12.out.below hb13)
  have HH13 := hid (HH12.out.below hb13)
  clear hb13 D12 HN12 HH12
  go_wp2_with fail
  refine (CT.out _ (HRX.out _ D13.out)).mono ?_
  rintro e w14 ⟨g14, cu14, _, rfl, hh14, hc14, hb14⟩
  have S14 := hid (hc14.row hh14)
  have D14 := hid (bb D13.out hb14)
  have HN14 := hid (HN13.out.below hb14)
  have HH14 := hid (HH13.out.below hb14)
  clear hb14 hh14 hc14 D13 HN13 HH13
  go_wp2_with fail
  refine (CI.out g14 _ S14.out).mono ?_
  rintro e w15 ⟨p15, c15, q15, d15, r15, e15, rfl, ho15, hb15⟩
  have HZ := hid ((Below.refl w15.heap.size w15).alloc (Nat.le_refl _) (.cells #[.string gx, .slice p15 gn c15, .int .i64 gsk, .int .i64 gnw, .int .i64 gam, .slice q15 gan d15, .int .i64 grm, .slice r15 grn e15] 35))
  have HW := hid (GtBox.new w15 gx (.slice p15 gn c15) gsk gnw gam (.slice q15 gan d15) grm (.slice r15 grn e15) 35)
  obtain ⟨w16, hw16⟩ : ∃ w16, w15.alloc (.cells #[.string gx, .slice p15 gn c15, .int .i64 gsk, .int .i64 gnw, .int .i64 gam, .slice q15 gan d15, .int .i64 grm, .slice r15 grn e15] 35) = w16 := ⟨_, rfl⟩
  have HW16 := hid hw16
  rw [hw16] at HZ HW
  clear hw16
  have D16 := hid (bb D14.out (bb hb15 HZ.out))
  have HN16 := hid (HN14.out.below (bb hb15 HZ.out))
  have HH16 := hid (HH14.out.below (bb hb15 HZ.out))
  have HO16 := hid (ho15.row.below HZ.out)
  clear hb15 ho15 HZ D14 HN14 HH14 S14
  obtain ⟨Bw, hBw⟩ : ∃ Bw, w15.heap.size = Bw := ⟨_, rfl⟩
  rw [hBw] at HW
  have X16 := hid (HXX.out _ D16.out)
  obtain ⟨f0, f1, f2, f3, f4, f5, f6, f7⟩ := X16.out.cells
  obtain ⟨z0, z1, z2, z3, z4, z5, z6, z7⟩ := HW.out.cells
  go_upto_region 27 with fail
  rw [HW16.out]
  clear HW16 hBw
  go_wp2_with fail
  refine (CQ.out p15 p3 c15 c3 q15 q3 d15 d3 r15 r3 e15 e3 _ HO16.out (HTX.out _ D16.out)).mono ?_
  rintro e w17 ⟨rfl, hb17⟩
  have D17 := hid (bb D16.out hb17)
  have HN17 := hid (HN16.out.below hb17)
  have HH17 := hid (HH16.out.below hb17)
  clear hb17 D16 HN16 HH16 HO16 HW X16 f0 f1 f2 f3 f4 f5 f6 f7 z0 z1 z2 z3 z4 z5 z6 z7
  obtain ⟨z0, z1, z2, z3, z4, z5, z6, z7⟩ := HN17.out.cells
  go_wp2_with fail
  clear z0 z1 z2 z3 z4 z5 z6 z7
  refine (CH.out p6 c6 q6 d6 r6 e6 _ HH17.out).mono ?_
  rintro e w18 ⟨rfl, hb18⟩
  have D18 := hid (bb D17.out hb18)
  clear hb18
  go_wp2_with fail
  go_ret
  exact ⟨rfl, bb HBb.out D18.out⟩

end Go.Proofs.Ytdgppdjjmpjgkaa
