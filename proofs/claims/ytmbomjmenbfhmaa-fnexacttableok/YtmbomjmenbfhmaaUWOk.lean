/- The walk of FnExactTableOk. -/
import Derived.Test.YtmbomjmenbfhmaaUOpen
import Derived.Test.YtmbomjmenbfhmaaULaw
import Derived.Test.YtmbomjmenbfhmaaUImB
import Derived.Deep.RegionHeld3
namespace Go.Proofs.Ytmbomjmenbfhmaa
open Go.RowKit
set_option linter.unusedVariables false
set_option linter.unusedSimpArgs false

set_option maxRecDepth 16000 in
set_option maxHeartbeats 8000000 in
theorem walk_tableOk (t0 : Tb) (a0 : Option Addr) (cap0 : Nat) (w : World) (wr0 : RoRow w a0 t0.rows) (wz0 : RoSz maxLen t0.rows) (wn0 : t0.rows.length ≤ maxLen) :
    Calls Try.prog 4 #[tbV t0 a0 cap0] w fun e w' => e = .returned (.bool true) ∧ Below w.heap.size w w' := by
  have C0 := hid (fun wx (h : Below w.heap.size w wx) => cSzTable t0 a0 cap0 wx (wr0.below h) wz0 wn0)
  have HX := hid (TbBox.new w t0.most (.slice a0 t0.rows.length cap0) 44)
  have HB0 := hid ((Below.refl w.heap.size w).alloc (Nat.le_refl _) (.cells #[.int .i64 t0.most, .slice a0 t0.rows.length cap0] 44))
  have HR := hid wr0
  clear wr0 wz0 wn0
  unfold tbV at C0 ⊢
  obtain ⟨w0, hw0⟩ : ∃ w0, w.alloc (.cells #[.int .i64 t0.most, .slice a0 t0.rows.length cap0] 44) = w0 := ⟨_, rfl⟩
  rw [hw0] at HX HB0
  obtain ⟨B, hB⟩ : ∃ B, w.heap.size = B := ⟨_, rfl⟩
  rw [hB] at HX
  obtain ⟨f0, f1⟩ := And.intro HX.out.c0 HX.out.c1
  go_enter Try.func4, Try.ntmps4
  go_wp2_with fail
  refine (C0.out _ HB0.out).mono ?_
  rintro e w1 ⟨r, rfl, hr, hb1⟩
  have HB1 := hid (bb HB0.out hb1)
  have HX1 := hid (HX.out.below hb1)
  clear hb1 C0 hw0 f0 f1 HX HB0
  rcases hr with rfl | ⟨h0, hn, hz⟩
  · go_wp2_with fail
    go_ret
    exact ⟨rfl, hB ▸ HB1.out⟩
  have hd2 : decide (r < 0) = false := by simp; omega
  have CT := hid (fun (wx : World) (h : RoRow wx a0 t0.rows) => cToTable t0 a0 cap0 wx h hn)
  have CS := hid (fun (g : Nat) (wx : World) (h : RoRow wx (some ⟨g, 0, none⟩) t0.rows) => cTableOkS t0 (some ⟨g, 0, none⟩) t0.rows.length wx h hz hn)
  have CI := hid (fun (g : Nat) (wx : World) (h : RoRow wx (some ⟨g, 0, none⟩) t0.rows) => cTableOkI t0 (some ⟨g, 0, none⟩) t0.rows.length wx h hz hn)
  have CE := hid (fun (g g2 : Nat) (wx : World) (h : RoRow wx (some ⟨g, 0, none⟩) t0.rows) (h2 : RoRow wx (some ⟨g2, 0, none⟩) t0.rows) => cEqTable t0 (some ⟨g, 0, none⟩) (some ⟨g2, 0, none⟩) t0.rows.length t0.rows.length wx h h2 hz hn)
  have HR1 := hid (HR.out.below HB1.out)
  generalize tableB t0 = V at *
  unfold tbV at CT CS CI CE
  generalize t0.rows.length = n at *
  generalize t0.most = m at *
  generalize t0.rows = l at *
  clear hz hn HR
  obtain ⟨f0, f1⟩ := And.intro HX1.out.c0 HX1.out.c1
  go_wp2_with fail
  refine (CT.out _ HR1.out).mono ?_
  rintro e w2 ⟨g, cu2, _, rfl, hh2, hc2, hb2⟩
  have S2 := hid (hc2.row hh2)
  have HB2 := hid (bb HB1.out hb2)
  have HX2 := hid (HX1.out.below hb2)
  have HR2 := hid (HR1.out.below hb2)
  clear hb2 hh2 hc2 HB1 HX1 HR1 f0 f1
  go_wp2_with fail
  refine (CS.out g _ S2.out).mono ?_
  rintro e w3 ⟨rfl, hb3⟩
  have HB3 := hid (bb HB2.out hb3)
  have HX3 := hid (HX2.out.below hb3)
  have HR3 := hid (HR2.out.below hb3)
  clear hb3 HB2 HX2 HR2 S2 CS
  obtain ⟨f0, f1⟩ := And.intro HX3.out.c0 HX3.out.c1
  go_wp2_with fail
  refine (CT.out _ HR3.out).mono ?_
  rintro e w4 ⟨g4, cu4, hg4, rfl, hh4, hc4, hb4⟩
  have HY := hid (TbBox.new w4 m (.slice (some ⟨g4, 0, none⟩) n n) 26)
  have HZ := hid ((Below.refl w4.heap.size w4).alloc (Nat.le_refl _) (.cells #[.int .i64 m, .slice (some ⟨g4, 0, none⟩) n n] 26))
  obtain ⟨w5, hw5⟩ : ∃ w5, w4.alloc (.cells #[.int .i64 m, .slice (some ⟨g4, 0, none⟩) n n] 26) = w5 := ⟨_, rfl⟩
  rw [hw5] at HY HZ
  have D5 := hid (bb HB3.out (bb hb4 HZ.out))
  have HX5 := hid (HX3.out.below (bb hb4 HZ.out))
  have HR5 := hid (HR3.out.below (bb hb4 HZ.out))
  have S5 := hid ((hc4.row hh4).below HZ.out)
  clear hb4 hh4 hc4 hg4 HZ f0 f1 HB3 HX3 HR3
  obtain ⟨B2, hB2⟩ : ∃ B, w4.heap.size = B := ⟨_, rfl⟩
  rw [hB2] at HY
  obtain ⟨y0, y1⟩ := And.intro HY.out.c0 HY.out.c1
  go_wp2_with fail
  refine (CI.out g4 _ S5.out).mono ?_
  rintro e w6 ⟨rfl, hb6⟩
  have D6 := hid (bb D5.out hb6)
  have HX6 := hid (HX5.out.below hb6)
  have HY6 := hid (HY.out.below hb6)
  have HR6 := hid (HR5.out.below hb6)
  have S6 := hid (S5.out.below hb6)
  have eV : (V != V) = false := by simp
  clear hb6 D5 HX5 HY HR5 S5 hw5 hB2 y0 y1
  obtain ⟨f0, f1⟩ := And.intro HX6.out.c0 HX6.out.c1
  obtain ⟨y0, y1⟩ := And.intro HY6.out.c0 HY6.out.c1
  go_wp2_with fail
  have HBc := hid ((Below.refl w6.heap.size w6).drew)
  have HSX := hid (show ∀ W', Below w6.heap.size w6 W' → W'.cell? ⟨B, 0, none⟩ = some (.int .i64 m) ∧ W'.cell? ⟨B, 1, none⟩ = some (.slice a0 n cap0) ∧ W'.cell? ⟨B2, 0, none⟩ = some (.int .i64 m) ∧ W'.cell? ⟨B2, 1, none⟩ = some (.slice (some ⟨g4, 0, none⟩) n n) from fun W' hb => ⟨(HX6.out.below hb).c0, (HX6.out.below hb).c1, (HY6.out.below hb).c0, (HY6.out.below hb).c1⟩)
  go_region_held3 (fun w' => w'.cell? ⟨B, 0, none⟩ = some (.int .i64 m) ∧ w'.cell? ⟨B, 1, none⟩ = some (.slice a0 n cap0) ∧ w'.cell? ⟨B2, 0, none⟩ = some (.int .i64 m) ∧ w'.cell? ⟨B2, 1, none⟩ = some (.slice (some ⟨g4, 0, none⟩) n n)) (exact HSX.out _ HBc.out)
    (first
      | (go_at_call 25; refine (CT.out _ (HR6.out.below HBc.out)).mono ?_; rintro e w8 ⟨g8, cu8, _, rfl, hh8, hc8, hb8⟩; replace HBc := hid (bb HBc.out hb8); have T8 := hid (hc8.row hh8); clear hh8 hc8 hb8)
      | (go_at_call 26; refine (CE.out g4 g8 _ (S6.out.below HBc.out) T8.out).mono ?_; rintro e w9 ⟨rfl, hb9⟩; replace HBc := hid (bb HBc.out hb9); clear hb9))
  have D9 := hid (bb D6.out HBc.out)
  go_wp2_with fail
  go_ret
  exact ⟨rfl, hB ▸ D9.out⟩

end Go.Proofs.Ytmbomjmenbfhmaa
