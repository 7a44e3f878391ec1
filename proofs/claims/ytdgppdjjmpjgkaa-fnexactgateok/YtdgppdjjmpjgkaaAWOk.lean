/- The walk of FnExactGateOk. -/
import Derived.Test.YtdgppdjjmpjgkaaAOpen
import Derived.Test.YtdgppdjjmpjgkaaAToG
import Derived.Test.YtdgppdjjmpjgkaaASpec
import Derived.Deep.RegionHeld3
namespace Go.Proofs.Ytdgppdjjmpjgkaa
open Go.RowKit
set_option linter.unusedVariables false
set_option linter.unusedSimpArgs false

set_option maxRecDepth 16000 in
set_option maxHeartbeats 8000000 in
theorem walk_gateOk (g0 : Gt) (ah : Option Addr) (ch : Nat) (aa : Option Addr) (ca : Nat) (ar : Option Addr) (cr : Nat) (w : World) (wr0 : GtRow w g0 ah aa ar) (wz0 : GtSz maxLen g0) :
    Calls Try.prog 3 #[gtV g0 ah ch aa ca ar cr] w fun e w' => e = .returned (.bool true) ∧ Below w.heap.size w w' := by
  have C0 := hid (fun wx (h : Below w.heap.size w wx) => cSzGate g0 ah ch aa ca ar cr wx (wr0.below h) wz0)
  have HR := hid wr0
  have CT := hid (fun (hz : GtSz 1048576 g0) (wx : World) (h : GtRow wx g0 ah aa ar) => cToGate g0 ah ch aa ca ar cr wx h hz)
  have CS := hid (fun (hz : GtSz 1048576 g0) (gh ga gr : Nat) (wx : World) (h : GtRow wx g0 (some ⟨gh, 0, none⟩) (some ⟨ga, 0, none⟩) (some ⟨gr, 0, none⟩)) => cGateOkS g0 (some ⟨gh, 0, none⟩) g0.hands.length (some ⟨ga, 0, none⟩) g0.ask.rows.length (some ⟨gr, 0, none⟩) g0.hrd.rows.length wx h hz)
  have CI := hid (fun (hz : GtSz 1048576 g0) (gh ga gr : Nat) (wx : World) (h : GtRow wx g0 (some ⟨gh, 0, none⟩) (some ⟨ga, 0, none⟩) (some ⟨gr, 0, none⟩)) => cGateOkI g0 (some ⟨gh, 0, none⟩) g0.hands.length (some ⟨ga, 0, none⟩) g0.ask.rows.length (some ⟨gr, 0, none⟩) g0.hrd.rows.length wx h hz)
  have CE := hid (fun (hz : GtSz 1048576 g0) (gh ga gr gh2 ga2 gr2 : Nat) (wx : World) (h : GtRow wx g0 (some ⟨gh, 0, none⟩) (some ⟨ga, 0, none⟩) (some ⟨gr, 0, none⟩)) (h2 : GtRow wx g0 (some ⟨gh2, 0, none⟩) (some ⟨ga2, 0, none⟩) (some ⟨gr2, 0, none⟩)) => cEqGate g0 (some ⟨gh, 0, none⟩) (some ⟨gh2, 0, none⟩) g0.hands.length g0.hands.length (some ⟨ga, 0, none⟩) (some ⟨ga2, 0, none⟩) g0.ask.rows.length g0.ask.rows.length (some ⟨gr, 0, none⟩) (some ⟨gr2, 0, none⟩) g0.hrd.rows.length g0.hrd.rows.length wx h h2 hz)
  clear wr0 wz0
  generalize gateB g0 = V at *
  unfold gtV at C0 CT CS CI CE ⊢
  generalize g0.name = x at *
  generalize g0.hands.length = nh at *
  generalize g0.skew = sk at *
  generalize g0.now = nw at *
  generalize g0.ask.most = am at *
  generalize g0.ask.rows.length = na at *
  generalize g0.hrd.most = rm at *
  generalize g0.hrd.rows.length = nr at *
  have HX := hid (GtBox.new w x (.slice ah nh ch) sk nw am (.slice aa na ca) rm (.slice ar nr cr) 27)
  have HB0 := hid ((Below.refl w.heap.size w).alloc (Nat.le_refl _) (.cells #[.string x, .slice ah nh ch, .int .i64 sk, .int .i64 nw, .int .i64 am, .slice aa na ca, .int .i64 rm, .slice ar nr cr] 27))
  obtain ⟨w0, hw0⟩ : ∃ w0, w.alloc (.cells #[.string x, .slice ah nh ch, .int .i64 sk, .int .i64 nw, .int .i64 am, .slice aa na ca, .int .i64 rm, .slice ar nr cr] 27) = w0 := ⟨_, rfl⟩
  rw [hw0] at HX HB0
  obtain ⟨B, hB⟩ : ∃ B, w.heap.size = B := ⟨_, rfl⟩
  rw [hB] at HX
  obtain ⟨f0, f1, f2, f3, f4, f5, f6, f7⟩ := HX.out.cells
  go_enter Try.func3, Try.ntmps3
  go_wp2_with fail
  refine (C0.out _ HB0.out).mono ?_
  rintro e w1 ⟨r, rfl, hr, hb1⟩
  have HB1 := hid (bb HB0.out hb1)
  have HX1 := hid (HX.out.below hb1)
  clear hb1 C0 hw0 HX HB0
  clear f0 f1 f2 f3 f4 f5 f6 f7
  rcases hr with rfl | ⟨h0, hz⟩
  · go_wp2_with fail
    go_ret
    exact ⟨rfl, hB ▸ HB1.out⟩
  have hd2 : decide (r < 0) = false := by simp; omega
  replace CT := hid (CT.out hz)
  replace CS := hid (CS.out hz)
  replace CI := hid (CI.out hz)
  replace CE := hid (CE.out hz)
  have HR1 := hid (HR.out.below HB1.out)
  clear hz HR
  obtain ⟨f0, f1, f2, f3, f4, f5, f6, f7⟩ := HX1.out.cells
  go_wp2_with fail
  refine (CT.out _ HR1.out).mono ?_
  rintro e w2 ⟨gh2, ga2, gr2, rfl, hN2, hb2⟩
  have S2 := hid hN2.row
  have HB2 := hid (bb HB1.out hb2)
  have HX2 := hid (HX1.out.below hb2)
  have HR2 := hid (HR1.out.below hb2)
  clear hb2 hN2 HB1 HX1 HR1
  clear f0 f1 f2 f3 f4 f5 f6 f7
  go_wp2_with fail
  refine (CS.out gh2 ga2 gr2 _ S2.out).mono ?_
  rintro e w3 ⟨rfl, hb3⟩
  have HB3 := hid (bb HB2.out hb3)
  have HX3 := hid (HX2.out.below hb3)
  have HR3 := hid (HR2.out.below hb3)
  clear hb3 HB2 HX2 HR2 S2 CS
  obtain ⟨f0, f1, f2, f3, f4, f5, f6, f7⟩ := HX3.out.cells
  go_wp2_with fail
  refine (CT.out _ HR3.out).mono ?_
  rintro e w4 ⟨gh4, ga4, gr4, rfl, hN4, hb4⟩
  have HY := hid (GtBox.new w4 x (.slice (some ⟨gh4, 0, none⟩) nh nh) sk nw am (.slice (some ⟨ga4, 0, none⟩) na na) rm (.slice (some ⟨gr4, 0, none⟩) nr nr) 35)
  have HZ := hid ((Below.refl w4.heap.size w4).alloc (Nat.le_refl _) (.cells #[.string x, .slice (some ⟨gh4, 0, none⟩) nh nh, .int .i64 sk, .int .i64 nw, .int .i64 am, .slice (some ⟨ga4, 0, none⟩) na na, .int .i64 rm, .slice (some ⟨gr4, 0, none⟩) nr nr] 35))
  obtain ⟨w5, hw5⟩ : ∃ w5, w4.alloc (.cells #[.string x, .slice (some ⟨gh4, 0, none⟩) nh nh, .int .i64 sk, .int .i64 nw, .int .i64 am, .slice (some ⟨ga4, 0, none⟩) na na, .int .i64 rm, .slice (some ⟨gr4, 0, none⟩) nr nr] 35) = w5 := ⟨_, rfl⟩
  rw [hw5] at HY HZ
  have D5 := hid (bb HB3.out (bb hb4 HZ.out))
  have HX5 := hid (HX3.out.below (bb hb4 HZ.out))
  have HR5 := hid (HR3.out.below (bb hb4 HZ.out))
  have S5 := hid (hN4.row.below HZ.out)
  clear hb4 hN4 HZ HB3 HX3 HR3
  clear f0 f1 f2 f3 f4 f5 f6 f7
  obtain ⟨B2, hB2⟩ : ∃ B, w4.heap.size = B := ⟨_, rfl⟩
  rw [hB2] at HY
  obtain ⟨f0, f1, f2, f3, f4, f5, f6, f7⟩ := HY.out.cells
  go_wp2_with fail
  refine (CI.out gh4 ga4 gr4 _ S5.out).mono ?_
  rintro e w6 ⟨rfl, hb6⟩
  have D6 := hid (bb D5.out hb6)
  have HX6 := hid (HX5.out.below hb6)
  have HY6 := hid (HY.out.below hb6)
  have HR6 := hid (HR5.out.below hb6)
  have S6 := hid (S5.out.below hb6)
  have eV : (V != V) = false := by simp
  clear hb6 D5 HX5 HY HR5 S5 hw5 hB2
  clear f0 f1 f2 f3 f4 f5 f6 f7
  go_wp2_with fail
  have HBc := hid ((Below.refl w6.heap.size w6).drew)
  have HSX := hid (show ∀ W', Below w6.heap.size w6 W' → W'.cell? ⟨B, 0, none⟩ = some (.string x) ∧ W'.cell? ⟨B, 1, none⟩ = some (.slice ah nh ch) ∧ W'.cell? ⟨B, 2, none⟩ = some (.int .i64 sk) ∧ W'.cell? ⟨B, 3, none⟩ = some (.int .i64 nw) ∧ W'.cell? ⟨B, 4, none⟩ = some (.int .i64 am) ∧ W'.cell? ⟨B, 5, none⟩ = some (.slice aa na ca) ∧ W'.cell? ⟨B, 6, none⟩ = some (.int .i64 rm) ∧ W'.cell? ⟨B, 7, none⟩ = some (.slice ar nr cr) ∧ W'.cell? ⟨B2, 0, none⟩ = some (.string x) ∧ W'.cell? ⟨B2, 1, none⟩ = some (.slice (some ⟨gh4, 0, none⟩) nh nh) ∧ W'.cell? ⟨B2, 2, none⟩ = some (.int .i64 sk) ∧ W'.cell? ⟨B2, 3, none⟩ = some (.int .i64 nw) ∧ W'.cell? ⟨B2, 4, none⟩ = some (.int .i64 am) ∧ W'.cell? ⟨B2, 5, none⟩ = some (.slice (some ⟨ga4, 0, none⟩) na na) ∧ W'.cell? ⟨B2, 6, none⟩ = some (.int .i64 rm) ∧ W'.cell? ⟨B2, 7, none⟩ = some (.slice (some ⟨gr4, 0, none⟩) nr nr) from fun W' hb => ⟨(HX6.out.below hb).c0, (HX6.out.below hb).c1, (HX6.out.below hb).c2, (HX6.out.below hb).c3, (HX6.out.below hb).c4, (HX6.out.below hb).c5, (HX6.out.below hb).c6, (HX6.out.below hb).c7, (HY6.out.below hb).c0, (HY6.out.below hb).c1, (HY6.out.below hb).c2, (HY6.out.below hb).c3, (HY6.out.below hb).c4, (HY6.out.below hb).c5, (HY6.out.below hb).c6, (HY6.out.below hb).c7⟩)
  go_region_held3 (fun w' => w'.cell? ⟨B, 0, none⟩ = some (.string x) ∧ w'.cell? ⟨B, 1, none⟩ = some (.slice ah nh ch) ∧ w'.cell? ⟨B, 2, none⟩ = some (.int .i64 sk) ∧ w'.cell? ⟨B, 3, none⟩ = some (.int .i64 nw) ∧ w'.cell? ⟨B, 4, none⟩ = some (.int .i64 am) ∧ w'.cell? ⟨B, 5, none⟩ = some (.slice aa na ca) ∧ w'.cell? ⟨B, 6, none⟩ = some (.int .i64 rm) ∧ w'.cell? ⟨B, 7, none⟩ = some (.slice ar nr cr) ∧ w'.cell? ⟨B2, 0, none⟩ = some (.string x) ∧ w'.cell? ⟨B2, 1, none⟩ = some (.slice (some ⟨gh4, 0, none⟩) nh nh) ∧ w'.cell? ⟨B2, 2, none⟩ = some (.int .i64 sk) ∧ w'.cell? ⟨B2, 3, none⟩ = some (.int .i64 nw) ∧ w'.cell? ⟨B2, 4, none⟩ = some (.int .i64 am) ∧ w'.cell? ⟨B2, 5, none⟩ = some (.slice (some ⟨ga4, 0, none⟩) na na) ∧ w'.cell? ⟨B2, 6, none⟩ = some (.int .i64 rm) ∧ w'.cell? ⟨B2, 7, none⟩ = some (.slice (some ⟨gr4, 0, none⟩) nr nr)) (exact HSX.out _ HBc.out)
    (first
      | (go_at_call 7; refine (CT.out _ (HR6.out.below HBc.out)).mono ?_; rintro e w8 ⟨gh8, ga8, gr8, rfl, hN8, hb8⟩; replace HBc := hid (bb HBc.out hb8); have T8 := hid hN8.row; clear hN8 hb8)
      | (go_at_call 9; refine (CE.out gh4 ga4 gr4 gh8 ga8 gr8 _ (S6.out.below HBc.out) T8.out).mono ?_; rintro e w9 ⟨rfl, hb9⟩; replace HBc := hid (bb HBc.out hb9); clear hb9))
  have D9 := hid (bb D6.out HBc.out)
  go_wp2_with fail
  go_ret
  exact ⟨rfl, hB ▸ D9.out⟩

end Go.Proofs.Ytdgppdjjmpjgkaa
