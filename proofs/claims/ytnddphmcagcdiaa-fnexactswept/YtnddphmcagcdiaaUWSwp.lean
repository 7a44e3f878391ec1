/- The walk of FnExactSwept. -/
import Derived.Test.YtnddphmcagcdiaaUOpen
import Derived.Test.YtnddphmcagcdiaaUMark
import Derived.Test.YtnddphmcagcdiaaUSwp
import Derived.Test.YtnddphmcagcdiaaUSzS
import Derived.Deep.RegionHeld3
namespace Go.Proofs.Ytnddphmcagcdiaa
open Go.RowKit
set_option linter.unusedVariables false
set_option linter.unusedSimpArgs false

set_option maxRecDepth 16000 in
set_option maxHeartbeats 16000000 in
theorem walk_swept (t0 : Tb) (a0 : Option Addr) (cap0 : Nat) (a1 : Int) (w : World) (wr0 : RoRow w a0 t0.rows) (wz0 : RoSz maxLen t0.rows) (wn0 : t0.rows.length ≤ maxLen) :
    Calls Try.prog 4 #[tbV t0 a0 cap0, .int .i64 a1] w fun e w' => e = .returned (.bool true) ∧ Below w.heap.size w w' := by
  have C0 := hid (fun wx (h : Below w.heap.size w wx) => cSzTable t0 a0 cap0 wx (wr0.below h) wz0 wn0)
  have HX := hid (TbBox.new w t0.most (.slice a0 t0.rows.length cap0) 38)
  have HB0 := hid ((Below.refl w.heap.size w).alloc (Nat.le_refl _) (.cells #[.int .i64 t0.most, .slice a0 t0.rows.length cap0] 38))
  have HR := hid wr0
  clear wr0 wz0 wn0
  unfold tbV at C0 ⊢
  obtain ⟨w0, hw0⟩ : ∃ w0, w.alloc (.cells #[.int .i64 t0.most, .slice a0 t0.rows.length cap0] 38) = w0 := ⟨_, rfl⟩
  rw [hw0] at HX HB0
  obtain ⟨B, hB⟩ : ∃ B, w.heap.size = B := ⟨_, rfl⟩
  rw [hB] at HX
  obtain ⟨f0, f1⟩ := And.intro HX.out.c0 HX.out.c1
  go_enter Try.func4, Try.ntmps4
  go_wp2_with fail
  refine (C0.out _ HB0.out).mono ?_
  rintro e w1 ⟨r, rfl, hr, hb1⟩
  have HB1 := hid (bb HB0.out hb1)
  have HX1 := hid (HX.out.below hb1)
  clear hb1 C0 hw0 f0 f1 HX HB0
  rcases hr with rfl | ⟨h0, hn, hz⟩
  · go_wp2_with fail
    go_ret
    exact ⟨rfl, hB ▸ HB1.out⟩
  have hd2 : decide (r < 0) = false := by simp; omega
  obtain ⟨hRz, hRn⟩ := sweptT_sz (now := a1) hz hn
  have CT := hid (fun (wx : World) (h : RoRow wx a0 t0.rows) => cToTable t0 a0 cap0 wx h hn)
  have CS := hid (fun (g : Nat) (wx : World) (h : RoRow wx (some ⟨g, 0, none⟩) t0.rows) => cSweptS t0 (some ⟨g, 0, none⟩) t0.rows.length a1 wx h hz hn)
  have CI := hid (fun (g : Nat) (wx : World) (h : RoRow wx (some ⟨g, 0, none⟩) t0.rows) => cSweptI t0 (some ⟨g, 0, none⟩) t0.rows.length a1 wx h hz hn)
  have CE := hid (fun (g g2 : Nat) (wx : World) (h : RoRow wx (some ⟨g, 0, none⟩) t0.rows) (h2 : RoRow wx (some ⟨g2, 0, none⟩) t0.rows) => cEqTable t0 (some ⟨g, 0, none⟩) (some ⟨g2, 0, none⟩) t0.rows.length t0.rows.length wx h h2 hz hn)
  have CQ := hid (fun (x y : Option Addr) (cx cy : Nat) (wx : World) (h : RoRow wx x (sweptT t0 a1).rows) (h2 : RoRow wx y (sweptT t0 a1).rows) => cEqTable (sweptT t0 a1) x y cx cy wx h h2 hRz hRn)
  have CM0 := hid (fun (g cp Bb : Nat) (wx : World) (hO : OwnRo wx Bb (some ⟨g, 0, none⟩) t0.rows) => cMarkTable t0 (some ⟨g, 0, none⟩) cp Bb wx hO (Nat.le_succ_of_le hn))
  have CM := hid (fun (x : Option Addr) (cp Bb : Nat) (wx : World) (hO : OwnRo wx Bb x (sweptT t0 a1).rows) => cMarkTable (sweptT t0 a1) x cp Bb wx hO (Nat.le_succ_of_le hRn))
  have CH := hid (fun (x : Option Addr) (cp : Nat) (wx : World) (hH : HeldR wx x (sweptT t0 a1).rows.length) => cHeldTable (sweptT t0 a1) x cp wx hH (Nat.le_succ_of_le hRn))
  have hKn : t0.rows.length ≤ 1048576 := hn
  have hKr : (sweptT t0 a1).rows.length ≤ 1048577 := Nat.le_succ_of_le hRn
  have HR1 := hid (HR.out.below HB1.out)
  obtain ⟨RR, hRR⟩ : ∃ RR, (sweptT t0 a1) = RR := ⟨_, rfl⟩
  rw [hRR] at CS CI CQ CM CH hRz hRn hKr
  clear hRR
  unfold tbV at CT CS CI CE CQ CM0 CM CH
  generalize hrm : RR.most = rm at *
  obtain ⟨rl, hrr⟩ : ∃ rl, RR.rows = rl := ⟨_, rfl⟩
  rw [hrr] at CS CI CQ CM CH hRz hRn hKr
  obtain ⟨rn, hrl⟩ : ∃ rn, rl.length = rn := ⟨_, rfl⟩
  have HRN := hid hrl
  rw [hrl] at CS CI CQ CM CH hRn hKr
  generalize hnn : t0.rows.length = n at *
  generalize t0.most = m at *
  generalize t0.rows = l at *
  clear hz hn HR hRz hRn hrm hrl hrr hnn
  obtain ⟨f0, f1⟩ := And.intro HX1.out.c0 HX1.out.c1
  go_wp2_with fail
  refine (CT.out _ HR1.out).mono ?_
  rintro e w2 ⟨g, cu2, _, rfl, hh2, hc2, hb2⟩
  have S2 := hid (hc2.row hh2)
  have HB2 := hid (bb HB1.out hb2)
  have HX2 := hid (HX1.out.below hb2)
  have HR2 := hid (HR1.out.below hb2)
  clear hb2 hh2 hc2 HB1 HX1 HR1 f0 f1
  go_wp2_with fail
  refine (CS.out g _ S2.out).mono ?_
  rintro e w3 ⟨a3, c3, rfl, hr3, hb3⟩
  have HQN := hid (TbBox.new w3 rm (.slice a3 rn c3) 26)
  have HZ := hid ((Below.refl w3.heap.size w3).alloc (Nat.le_refl _) (.cells #[.int .i64 rm, .slice a3 rn c3] 26))
  obtain ⟨wb, hwb⟩ : ∃ wb, w3.alloc (.cells #[.int .i64 rm, .slice a3 rn c3] 26) = wb := ⟨_, rfl⟩
  rw [hwb] at HQN HZ
  have HBb := hid (bb HB2.out (bb hb3 HZ.out))
  have HXb := hid (HX2.out.below (bb hb3 HZ.out))
  have HRb := hid (HR2.out.below (bb hb3 HZ.out))
  have HTb := hid (hr3.below HZ.out)
  obtain ⟨Bq, hBq⟩ : ∃ Bq, w3.heap.size = Bq := ⟨_, rfl⟩
  rw [hBq] at HQN
  have HXX := hid (fun W' (h : Below wb.heap.size wb W') => And.intro (And.intro (HXb.out.below h).c0 (HXb.out.below h).c1) (And.intro (HQN.out.below h).c0 (HQN.out.below h).c1))
  have HRX := hid (fun W' (h : Below wb.heap.size wb W') => HRb.out.below h)
  have HTX := hid (fun W' (h : Below wb.heap.size wb W') => HTb.out.below h)
  have D3 := hid (Below.refl wb.heap.size wb)
  clear hb3 hr3 HZ HB2 HX2 HR2 S2 CS HXb HRb HTb HQN
  obtain ⟨⟨f0, f1⟩, k0, k1⟩ := HXX.out _ D3.out
  go_wp2_with fail
  refine (CT.out _ (HRX.out _ D3.out)).mono ?_
  rintro e w4 ⟨g4, cu4, hg4, rfl, hh4, hc4, hb4⟩
  have HG4 := hid hg4
  have HY := hid (TbBox.new w4 m (.slice (some ⟨g4, 0, none⟩) n n) 26)
  have HZ := hid ((Below.refl w4.heap.size w4).alloc (Nat.le_refl _) (.cells #[.int .i64 m, .slice (some ⟨g4, 0, none⟩) n n] 26))
  obtain ⟨w5, hw5⟩ : ∃ w5, w4.alloc (.cells #[.int .i64 m, .slice (some ⟨g4, 0, none⟩) n n] 26) = w5 := ⟨_, rfl⟩
  rw [hw5] at HY HZ
  have D5 := hid (bb hb4 HZ.out)
  have M5 := hid (u_blk_below hh4 HZ.out)
  have MC := hid hc4
  have S5 := hid (hc4.row M5.out)
  have HGL := hid (show g4 < w4.heap.size from lt_of_heap hh4)
  clear hb4 hh4 hc4 hg4 HZ f0 f1 k0 k1 D3
  obtain ⟨B2, hB2⟩ : ∃ B, w4.heap.size = B := ⟨_, rfl⟩
  rw [hB2] at HY HGL
  obtain ⟨y0, y1⟩ := And.intro HY.out.c0 HY.out.c1
  go_wp2_with fail
  refine (CI.out g4 _ S5.out).mono ?_
  rintro e w6 ⟨a6, c6, rfl, ho6, hb6⟩
  have HN6 := hid (TbBox.new w6 rm (.slice a6 rn c6) 26)
  have HZ := hid ((Below.refl w6.heap.size w6).alloc (Nat.le_refl _) (.cells #[.int .i64 rm, .slice a6 rn c6] 26))
  obtain ⟨w7, hw7⟩ : ∃ w7, w6.alloc (.cells #[.int .i64 rm, .slice a6 rn c6] 26) = w7 := ⟨_, rfl⟩
  rw [hw7] at HN6 HZ
  have h57 := bb hb6 HZ.out
  have D7 := hid (bb D5.out h57)
  have S7 := hid (S5.out.below h57)
  have M7 := hid (u_blk_below M5.out h57)
  have HY7 := hid (HY.out.below h57)
  have HO7 := hid (ho6.below HZ.out)
  have HGE := hid (show g4 < w5.heap.size from lt_of_heap M5.out)
  have HWB := hid (show wb.heap.size ≤ w5.heap.size from D5.out.size)
  have HOL := hid (show ∀ b o, a6 = some ⟨b, o, none⟩ → 0 < rl.length → b < w6.heap.size from fun b o e hl => by
    obtain ⟨g', o', cu', e', _, hh', _⟩ := ho6 hl
    rw [e] at e'
    cases e'
    exact lt_of_heap hh')
  have HOG := hid (show ∀ b o, a6 = some ⟨b, o, none⟩ → 0 < rl.length → w5.heap.size ≤ b from fun b o e hl => by
    obtain ⟨g', o', cu', e', hge, _, _⟩ := ho6 hl
    rw [e] at e'
    cases e'
    exact hge)
  have HZB := hid (show w5.heap.size ≤ w6.heap.size from hb6.size)
  clear h57 hb6 ho6 HZ D5 S5 M5 HY hw5 hB2 y0 y1
  obtain ⟨Bg, hBg⟩ : ∃ Bg, w6.heap.size = Bg := ⟨_, rfl⟩
  rw [hBg] at HN6 HOL HZB
  have T7 := hid (HTX.out _ D7.out)
  obtain ⟨⟨f0, f1⟩, k0, k1⟩ := HXX.out _ D7.out
  obtain ⟨y0, y1⟩ := And.intro HY7.out.c0 HY7.out.c1
  obtain ⟨z0, z1⟩ := And.intro HN6.out.c0 HN6.out.c1
  go_wp2_with fail
  refine (CQ.out a6 a3 c6 c3 _ HO7.out.row T7.out).mono ?_
  rintro e w8 ⟨rfl, hb8⟩
  have D8 := hid (bb D7.out hb8)
  have S8 := hid (S7.out.below hb8)
  have M8 := hid (u_blk_below M7.out hb8)
  have HY8 := hid (HY7.out.below hb8)
  have HN8 := hid (HN6.out.below hb8)
  have HO8 := hid (HO7.out.below hb8)
  clear hb8 D7 S7 M7 HY7 HN6 HO7 T7 f0 f1 k0 k1 y0 y1 z0 z1 hw7 hBg
  obtain ⟨⟨f0, f1⟩, k0, k1⟩ := HXX.out _ D8.out
  obtain ⟨y0, y1⟩ := And.intro HY8.out.c0 HY8.out.c1
  go_wp2_with fail
  have HBc := hid ((Below.refl w8.heap.size w8).drew)
  have HSX := hid (show ∀ W', Below w8.heap.size w8 W' → W'.cell? ⟨B, 0, none⟩ = some (.int .i64 m) ∧ W'.cell? ⟨B, 1, none⟩ = some (.slice a0 n cap0) ∧ W'.cell? ⟨B2, 0, none⟩ = some (.int .i64 m) ∧ W'.cell? ⟨B2, 1, none⟩ = some (.slice (some ⟨g4, 0, none⟩) n n) from fun W' hb => ⟨(HXX.out _ (bb D8.out hb)).1.1, (HXX.out _ (bb D8.out hb)).1.2, (HY8.out.below hb).c0, (HY8.out.below hb).c1⟩)
  go_region_held3 (fun w' => w'.cell? ⟨B, 0, none⟩ = some (.int .i64 m) ∧ w'.cell? ⟨B, 1, none⟩ = some (.slice a0 n cap0) ∧ w'.cell? ⟨B2, 0, none⟩ = some (.int .i64 m) ∧ w'.cell? ⟨B2, 1, none⟩ = some (.slice (some ⟨g4, 0, none⟩) n n)) (exact HSX.out _ HBc.out)
    (first
      | (go_at_call 15; refine (CT.out _ (HRX.out _ (bb D8.out HBc.out))).mono ?_; rintro e wx ⟨gx, cux, _, rfl, hhx, hcx, hbx⟩; replace HBc := hid (bb HBc.out hbx); have TX := hid (hcx.row hhx); clear hhx hcx hbx)
      | (go_at_call 16; refine (CE.out g4 gx _ (S8.out.below HBc.out) TX.out).mono ?_; rintro e w9 ⟨rfl, hb9⟩; replace HBc := hid (bb HBc.out hb9); clear hb9))
  have D9 := hid (bb D8.out HBc.out)
  have M9 := hid (u_blk_below M8.out HBc.out)
  have HY9 := hid (HY8.out.below HBc.out)
  have HN9 := hid (HN8.out.below HBc.out)
  have HO9 := hid (HO8.out.below HBc.out)
  clear D8 S8 M8 HY8 HN8 HO8 HBc HSX TX f0 f1 k0 k1 y0 y1 CE
  obtain ⟨y0, y1⟩ := And.intro HY9.out.c0 HY9.out.c1
  have HOM := hid (show OwnRo w9 0 (some ⟨g4, 0, none⟩) l from fun _ => ⟨g4, 0, cu4, rfl, Nat.zero_le _, M9.out, MC.out⟩)
  go_wp2_with fail
  refine (CM0.out g4 n 0 _ HOM.out).mono ?_
  rintro e w10 ⟨rfl, _, hkb⟩
  have hp4 : ∀ b, (∃ o, (some ⟨g4, 0, none⟩ : Option Addr) = some ⟨b, o, none⟩ ∧ 0 < n) → b = g4 := fun b ⟨o, e, _⟩ => by cases e; rfl
  have HK10 := hid (u_KeepB.mono hkb (q := fun b => b = g4) hp4)
  have D10 := hid (D9.out.trans (HK10.out.below D9.out.size (fun b e => by rw [e]; exact HG4.out)))
  have HN10 := hid (show TbBox w10 Bg rm (.slice a6 rn c6) from by
    have hlt := HN9.out.there
    have hne : ¬ Bg = g4 := fun e => by have h1 := HGE.out; have h2 := HZB.out; omega
    exact ⟨Nat.lt_of_lt_of_le hlt HK10.out.size, (World.cell?_of_block (a := ⟨Bg, 0, none⟩) (HK10.out.block Bg hlt hne)).trans HN9.out.c0, (World.cell?_of_block (a := ⟨Bg, 1, none⟩) (HK10.out.block Bg hlt hne)).trans HN9.out.c1⟩)
  have HO10 := hid (HO9.out.keep HK10.out (fun b e => by have h1 := HGE.out; omega))
  clear hkb hp4 HK10 HOM M9 MC HY9 HN9 HO9 D9 CM0 y0 y1
  have T10 := hid (HTX.out _ D10.out)
  obtain ⟨⟨f0, f1⟩, k0, k1⟩ := HXX.out _ D10.out
  obtain ⟨z0, z1⟩ := And.intro HN10.out.c0 HN10.out.c1
  obtain ⟨K1, hK1⟩ : ∃ K1, 1 + 2 * n = K1 := ⟨_, rfl⟩
  have hd9 : decide ((K1 : Int) < 0) = false := by simp
  rw [hK1]
  clear hK1
  go_wp2_with fail
  refine (CQ.out a6 a3 c6 c3 _ HO10.out.row T10.out).mono ?_
  rintro e w11 ⟨rfl, hb11⟩
  have D11 := hid (bb D10.out hb11)
  have HN11 := hid (HN10.out.below hb11)
  have HO11 := hid (HO10.out.below hb11)
  clear hb11 D10 HN10 HO10 T10 f0 f1 k0 k1 z0 z1 hd9
  obtain ⟨z0, z1⟩ := And.intro HN11.out.c0 HN11.out.c1
  go_wp2_with fail
  refine (CM.out a6 c6 _ _ HO11.out).mono ?_
  rintro e w12 ⟨rfl, hh12, hk12⟩
  have D12 := hid (D11.out.trans (hk12.below D11.out.size (fun b ⟨o, e, hl⟩ => by have h1 := HOG.out b o e (by rw [HRN.out]; exact hl); have h2 := HWB.out; omega)))
  have HN12 := hid (show TbBox w12 Bg rm (.slice a6 rn c6) from by
    have hlt := HN11.out.there
    have hne : ¬ ∃ o, a6 = some ⟨Bg, o, none⟩ ∧ 0 < rn := fun ⟨o, e, hl⟩ => by have h1 := HOL.out Bg o e (by rw [HRN.out]; exact hl); exact absurd h1 (Nat.lt_irrefl _)
    exact ⟨Nat.lt_of_lt_of_le hlt hk12.size, (World.cell?_of_block (a := ⟨Bg, 0, none⟩) (hk12.block Bg hlt hne)).trans HN11.out.c0, (World.cell?_of_block (a := ⟨Bg, 1, none⟩) (hk12.block Bg hlt hne)).trans HN11.out.c1⟩)
  have HH12 := hid hh12
  clear hk12 hh12 D11 HN11 HO11 CM z0 z1
  obtain ⟨z0, z1⟩ := And.intro HN12.out.c0 HN12.out.c1
  obtain ⟨K, hK⟩ : ∃ K, 1 + 2 * rn = K := ⟨_, rfl⟩
  rw [hK] at CH ⊢
  have hd : decide ((K : Int) < 0) = false := by simp
  have hKK : ((K : Int) != (K : Int)) = false := by simp
  clear hK
  go_wp2_with fail
  refine (CH.out a6 c6 _ HH12.out).mono ?_
  rintro e w13 ⟨rfl, hb13⟩
  have D13 := hid (bb D12.out hb13)
  have HN13 := hid (HN12.out.below hb13)
  have HH13 := hid (HH12.out.below hb13)
  clear hb13 D12 HN12 HH12 z0 z1
  obtain ⟨⟨f0, f1⟩, k0, k1⟩ := HXX.out _ D13.out
  go_wp2_with fail
  refine (CT.out _ (HRX.out _ D13.out)).mono ?_
  rintro e w14 ⟨g14, cu14, _, rfl, hh14, hc14, hb14⟩
  have S14 := hid (hc14.row hh14)
  have D14 := hid (bb D13.out hb14)
  have HN14 := hid (HN13.out.below hb14)
  have HH14 := hid (HH13.out.below hb14)
  clear hb14 hh14 hc14 D13 HN13 HH13 f0 f1 k0 k1
  go_wp2_with fail
  refine (CI.out g14 _ S14.out).mono ?_
  rintro e w15 ⟨a15, c15, rfl, ho15, hb15⟩
  have HZ := hid ((Below.refl w15.heap.size w15).alloc (Nat.le_refl _) (.cells #[.int .i64 rm, .slice a15 rn c15] 26))
  have HW := hid (TbBox.new w15 rm (.slice a15 rn c15) 26)
  obtain ⟨w16, hw16⟩ : ∃ w16, w15.alloc (.cells #[.int .i64 rm, .slice a15 rn c15] 26) = w16 := ⟨_, rfl⟩
  rw [hw16] at HZ HW
  have D16 := hid (bb D14.out (bb hb15 HZ.out))
  have HN16 := hid (HN14.out.below (bb hb15 HZ.out))
  have HH16 := hid (HH14.out.below (bb hb15 HZ.out))
  have HO16 := hid (ho15.row.below HZ.out)
  clear hb15 ho15 HZ D14 HN14 HH14 S14
  obtain ⟨Bw, hBw⟩ : ∃ Bw, w15.heap.size = Bw := ⟨_, rfl⟩
  rw [hBw] at HW
  have T16 := hid (HTX.out _ D16.out)
  obtain ⟨⟨f0, f1⟩, k0, k1⟩ := HXX.out _ D16.out
  obtain ⟨z0, z1⟩ := And.intro HW.out.c0 HW.out.c1
  go_wp2_with fail
  refine (CQ.out a15 a3 c15 c3 _ HO16.out T16.out).mono ?_
  rintro e w17 ⟨rfl, hb17⟩
  have D17 := hid (bb D16.out hb17)
  have HN17 := hid (HN16.out.below hb17)
  have HH17 := hid (HH16.out.below hb17)
  clear hb17 D16 HN16 HH16 HO16 T16 HW hw16 hBw f0 f1 k0 k1 z0 z1
  obtain ⟨z0, z1⟩ := And.intro HN17.out.c0 HN17.out.c1
  go_wp2_with fail
  refine (CH.out a6 c6 _ HH17.out).mono ?_
  rintro e w18 ⟨rfl, hb18⟩
  have D18 := hid (bb D17.out hb18)
  clear hb18
  go_wp2_with fail
  go_ret
  exact ⟨rfl, hB ▸ (bb HBb.out D18.out)⟩

end Go.Proofs.Ytnddphmcagcdiaa
