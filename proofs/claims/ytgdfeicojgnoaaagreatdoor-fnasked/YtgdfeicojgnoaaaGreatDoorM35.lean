/- The program's settled at an error that wraps a sentinel in a code. The program's withRow. Stores into a box of a gate, and the rows that stand beside it. -/
import Derived.Test.YtgdfeicojgnoaaaGreatDoorM34
import Derived.Test.YtgdfeicojgnoaaaGreatDoorM11
import Derived.Test.YtgdfeicojgnoaaaGreatDoorM10
import Derived.Deep.Cut
import Derived.Deep.CutRange
import Derived.Deep.RegionHeld3
namespace Go.Proofs.YtgdfeicojgnoaaaGreatDoor
open Go.RowKit
set_option linter.unusedVariables false
set_option linter.unusedSimpArgs false

/-- The three sentinels and the library's type of errors, and where they lie. -/
def SenA (a0 a1 a2 : Addr) (w : World) : Prop :=
  ((∃ t fr, w.heap[0]? = some (.cells #[erV (.base a0)] t fr)) ∧ (∃ t fr, w.heap[1]? = some (.cells #[erV (.base a1)] t fr)) ∧ ∃ t fr, w.heap[2]? = some (.cells #[erV (.base a2)] t fr)) ∧ (¬ a1 = a0 ∧ ¬ a2 = a0) ∧
    ((∃ c t, w.heap[a0.block]? = some (.cells c t (0, 0))) ∧ (∃ c t, w.heap[a1.block]? = some (.cells c t (0, 0))) ∧ ∃ c t, w.heap[a2.block]? = some (.cells c t (0, 0))) ∧ HanAt w

theorem SenA.below {a0 a1 a2 : Addr} {w w' : World} (h : SenA a0 a1 a2 w) (hb : Below w.heap.size w w') : SenA a0 a1 a2 w' := by
  obtain ⟨⟨⟨t, fr, h0⟩, ⟨s, fs, h1⟩, r, fq, h2⟩, hn, ⟨⟨c, u, k0⟩, ⟨d, v, k1⟩, e, x, k2⟩, hh⟩ := h
  exact ⟨⟨⟨t, fr, u_blk_below h0 hb⟩, ⟨s, fs, u_blk_below h1 hb⟩, r, fq, u_blk_below h2 hb⟩, hn, ⟨⟨c, u, u_blk_below k0 hb⟩, ⟨d, v, u_blk_below k1 hb⟩, e, x, u_blk_below k2 hb⟩, hh.below hb⟩

theorem SenA.cells {a0 a1 a2 : Addr} {w : World} (h : SenA a0 a1 a2 w) : w.cell? ⟨0, 0, none⟩ = some (erV (.base a0)) ∧ w.cell? ⟨1, 0, none⟩ = some (erV (.base a1)) ∧ w.cell? ⟨2, 0, none⟩ = some (erV (.base a2)) := by
  obtain ⟨⟨⟨t, fr, h0⟩, ⟨s, fs, h1⟩, r, fq, h2⟩, _⟩ := h
  exact ⟨by rw [cell_of_row _ _ _ _ _ _ h0]; rfl, by rw [cell_of_row _ _ _ _ _ _ h1]; rfl, by rw [cell_of_row _ _ _ _ _ _ h2]; rfl⟩

theorem is_other {a0 a1 a2 b : Addr} {w : World} (c : Int) (h : SenA a0 a1 a2 w) (hb : b = a1 ∨ b = a2) : Calls Tryz.prog 66 #[erV (.wrap c (.base b)), erV (.base a0)] w fun e w' => e = .returned (.bool false) ∧ Below w.heap.size w w' := by
  obtain ⟨_, ⟨n1, n2⟩, ⟨⟨c0, t0, k0⟩, ⟨c1, t1, k1⟩, c2, t2, k2⟩, _⟩ := h
  rcases hb with rfl | rfl
  · exact cIsWOther c b a0 c1 c0 t1 t0 w n1 k1 k0
  · exact cIsWOther c b a0 c2 c0 t2 t0 w n2 k2 k0

set_option maxRecDepth 8000 in
set_option maxHeartbeats 8000000 in
theorem cSetNil (x : ByteArray) (ah : Option Addr) (nh ch : Nat) (sk nw am : Int) (aa : Option Addr) (na ca : Nat) (rm : Int) (ar : Option Addr) (nr cr : Nat) (x2 : ByteArray) (ah2 : Option Addr) (nh2 ch2 : Nat) (sk2 nw2 am2 : Int) (aa2 : Option Addr) (na2 ca2 : Nat) (rm2 : Int) (ar2 : Option Addr) (nr2 cr2 : Nat) (w : World) :
    Calls Tryz.prog 27 #[.agg #[.string x, .slice ah nh ch, .int .i64 sk, .int .i64 nw, .int .i64 am, .slice aa na ca, .int .i64 rm, .slice ar nr cr], .agg #[.string x2, .slice ah2 nh2 ch2, .int .i64 sk2, .int .i64 nw2, .int .i64 am2, .slice aa2 na2 ca2, .int .i64 rm2, .slice ar2 nr2 cr2], .nilIface] w fun e w' => e = .returned (.agg #[.string x2, .slice ah2 nh2 ch2, .int .i64 sk2, .int .i64 nw2, .int .i64 am2, .slice aa2 na2 ca2, .int .i64 rm2, .slice ar2 nr2 cr2]) ∧ Below w.heap.size w w' := by
  obtain ⟨b1, b2, b3⟩ := u_heap3 w (.cells #[.string x, .slice ah nh ch, .int .i64 sk, .int .i64 nw, .int .i64 am, .slice aa na ca, .int .i64 rm, .slice ar nr cr] 29) (.cells #[.string x2, .slice ah2 nh2 ch2, .int .i64 sk2, .int .i64 nw2, .int .i64 am2, .slice aa2 na2 ca2, .int .i64 rm2, .slice ar2 nr2 cr2] 29) (.cells #[.string ⟨#[]⟩, .slice none 0 0, .int .i64 0, .int .i64 0, .int .i64 0, .slice none 0 0, .int .i64 0, .slice none 0 0] 29)
  have HB0 := hid ((((Below.refl w.heap.size w).alloc (Nat.le_refl _) (.cells #[.string x, .slice ah nh ch, .int .i64 sk, .int .i64 nw, .int .i64 am, .slice aa na ca, .int .i64 rm, .slice ar nr cr] 29)).alloc (by simp) (.cells #[.string x2, .slice ah2 nh2 ch2, .int .i64 sk2, .int .i64 nw2, .int .i64 am2, .slice aa2 na2 ca2, .int .i64 rm2, .slice ar2 nr2 cr2] 29)).alloc (by simp; omega) (.cells #[.string ⟨#[]⟩, .slice none 0 0, .int .i64 0, .int .i64 0, .int .i64 0, .slice none 0 0, .int .i64 0, .slice none 0 0] 29))
  obtain ⟨W0, hW0⟩ : ∃ W0, ((w.alloc (.cells #[.string x, .slice ah nh ch, .int .i64 sk, .int .i64 nw, .int .i64 am, .slice aa na ca, .int .i64 rm, .slice ar nr cr] 29)).alloc (.cells #[.string x2, .slice ah2 nh2 ch2, .int .i64 sk2, .int .i64 nw2, .int .i64 am2, .slice aa2 na2 ca2, .int .i64 rm2, .slice ar2 nr2 cr2] 29)).alloc (.cells #[.string ⟨#[]⟩, .slice none 0 0, .int .i64 0, .int .i64 0, .int .i64 0, .slice none 0 0, .int .i64 0, .slice none 0 0] 29) = W0 := ⟨_, rfl⟩
  rw [hW0] at b1 b2 b3 HB0
  obtain ⟨B, hB⟩ : ∃ B, w.heap.size = B := ⟨_, rfl⟩
  rw [hB] at b1 b2 b3
  have HM1 := hid b1
  have HM2 := hid b2
  have HM3 := hid b3
  clear b1 b2 b3
  obtain ⟨⟨j0, j1, j2, j3, j4, j5, j6, j7⟩, jf⟩ := g_box8f HM2.out
  clear jf
  obtain ⟨⟨k0, k1, k2, k3, k4, k5, k6, k7⟩, kf⟩ := g_box8f HM3.out
  have kf0 := kf 0
  have kf1 := kf 1
  have kf2 := kf 2
  have kf3 := kf 3
  have kf4 := kf 4
  have kf5 := kf 5
  have kf6 := kf 6
  have kf7 := kf 7
  clear kf
  go_enter Tryz.func27, Tryz.ntmps27
  go_wp2_with fail
  refine bodyPost_ret (v := .agg #[.string x2, .slice ah2 nh2 ch2, .int .i64 sk2, .int .i64 nw2, .int .i64 am2, .slice aa2 na2 ca2, .int .i64 rm2, .slice ar2 nr2 cr2]) (by simp [results, Tryz.results27, go_sem, k0, k1, k2, k3, k4, k5, k6, k7]) rfl ⟨rfl, ?_⟩
  iterate 8 refine Below.setCell ?_ (show w.heap.size ≤ B + 2 by omega) _
  exact HB0.out

set_option maxRecDepth 8000 in
set_option maxHeartbeats 8000000 in
theorem cSetBadW (x : ByteArray) (ah : Option Addr) (nh ch : Nat) (sk nw am : Int) (aa : Option Addr) (na ca : Nat) (rm : Int) (ar : Option Addr) (nr cr : Nat) (x2 : ByteArray) (ah2 : Option Addr) (nh2 ch2 : Nat) (sk2 nw2 am2 : Int) (aa2 : Option Addr) (na2 ca2 : Nat) (rm2 : Int) (ar2 : Option Addr) (nr2 cr2 : Nat) (c : Int) (a0 a1 a2 : Addr) (w : World) (hS : SenA a0 a1 a2 w) :
    Calls Tryz.prog 27 #[.agg #[.string x, .slice ah nh ch, .int .i64 sk, .int .i64 nw, .int .i64 am, .slice aa na ca, .int .i64 rm, .slice ar nr cr], .agg #[.string x2, .slice ah2 nh2 ch2, .int .i64 sk2, .int .i64 nw2, .int .i64 am2, .slice aa2 na2 ca2, .int .i64 rm2, .slice ar2 nr2 cr2], erV (.wrap c (.base a0))] w fun e w' => e = .returned (.agg #[.string ⟨#[]⟩, .slice none 0 0, .int .i64 0, .int .i64 0, .int .i64 0, .slice none 0 0, .int .i64 0, .slice none 0 0]) ∧ Below w.heap.size w w' := by
  obtain ⟨b1, b2, b3⟩ := u_heap3 w (.cells #[.string x, .slice ah nh ch, .int .i64 sk, .int .i64 nw, .int .i64 am, .slice aa na ca, .int .i64 rm, .slice ar nr cr] 29) (.cells #[.string x2, .slice ah2 nh2 ch2, .int .i64 sk2, .int .i64 nw2, .int .i64 am2, .slice aa2 na2 ca2, .int .i64 rm2, .slice ar2 nr2 cr2] 29) (.cells #[.string ⟨#[]⟩, .slice none 0 0, .int .i64 0, .int .i64 0, .int .i64 0, .slice none 0 0, .int .i64 0, .slice none 0 0] 29)
  have HB0 := hid ((((Below.refl w.heap.size w).alloc (Nat.le_refl _) (.cells #[.string x, .slice ah nh ch, .int .i64 sk, .int .i64 nw, .int .i64 am, .slice aa na ca, .int .i64 rm, .slice ar nr cr] 29)).alloc (by simp) (.cells #[.string x2, .slice ah2 nh2 ch2, .int .i64 sk2, .int .i64 nw2, .int .i64 am2, .slice aa2 na2 ca2, .int .i64 rm2, .slice ar2 nr2 cr2] 29)).alloc (by simp; omega) (.cells #[.string ⟨#[]⟩, .slice none 0 0, .int .i64 0, .int .i64 0, .int .i64 0, .slice none 0 0, .int .i64 0, .slice none 0 0] 29))
  obtain ⟨W0, hW0⟩ : ∃ W0, ((w.alloc (.cells #[.string x, .slice ah nh ch, .int .i64 sk, .int .i64 nw, .int .i64 am, .slice aa na ca, .int .i64 rm, .slice ar nr cr] 29)).alloc (.cells #[.string x2, .slice ah2 nh2 ch2, .int .i64 sk2, .int .i64 nw2, .int .i64 am2, .slice aa2 na2 ca2, .int .i64 rm2, .slice ar2 nr2 cr2] 29)).alloc (.cells #[.string ⟨#[]⟩, .slice none 0 0, .int .i64 0, .int .i64 0, .int .i64 0, .slice none 0 0, .int .i64 0, .slice none 0 0] 29) = W0 := ⟨_, rfl⟩
  rw [hW0] at b1 b2 b3 HB0
  obtain ⟨B, hB⟩ : ∃ B, w.heap.size = B := ⟨_, rfl⟩
  rw [hB] at b1 b2 b3
  have HM1 := hid b1
  have HM2 := hid b2
  have HM3 := hid b3
  clear b1 b2 b3
  have e0 := (hS.below HB0.out).cells.1
  have CI := hid (fun wx => cIsWSame c a0 wx)
  unfold erV at CI ⊢
  unfold erV at CI ⊢
  unfold erV at e0
  go_enter Tryz.func27, Tryz.ntmps27
  go_wp2_with fail
  refine (CI.out _).mono ?_
  rintro e w1 ⟨rfl, hb1⟩
  have HBx := hid (bb HB0.out hb1)
  have HMx := hid (u_blk_below HM3.out hb1)
  clear hb1
  obtain ⟨⟨k0, k1, k2, k3, k4, k5, k6, k7⟩, kf⟩ := g_box8f HMx.out
  have kf0 := kf 0
  have kf1 := kf 1
  have kf2 := kf 2
  have kf3 := kf 3
  have kf4 := kf 4
  have kf5 := kf 5
  have kf6 := kf 6
  have kf7 := kf 7
  clear kf
  go_wp2_with fail
  refine bodyPost_ret (v := .agg #[.string ⟨#[]⟩, .slice none 0 0, .int .i64 0, .int .i64 0, .int .i64 0, .slice none 0 0, .int .i64 0, .slice none 0 0]) (by simp [results, Tryz.results27, go_sem, k0, k1, k2, k3, k4, k5, k6, k7]) rfl ⟨rfl, ?_⟩
  iterate 8 refine Below.setCell ?_ (show w.heap.size ≤ B + 2 by omega) _
  exact HBx.out

set_option maxRecDepth 8000 in
set_option maxHeartbeats 8000000 in
theorem cSetOldW (g : Gt) (ah : Option Addr) (ch : Nat) (aa : Option Addr) (ca : Nat) (ar : Option Addr) (cr : Nat) (x2 : ByteArray) (ah2 : Option Addr) (nh2 ch2 : Nat) (sk2 nw2 am2 : Int) (aa2 : Option Addr) (na2 ca2 : Nat) (rm2 : Int) (ar2 : Option Addr) (nr2 cr2 : Nat) (c : Int) (a0 a1 a2 b : Addr) (w : World) (hS : SenA a0 a1 a2 w) (hb : b = a1 ∨ b = a2) (hR : GtRow w g ah aa ar) (hz : GtSz 1048576 g) (hn1 : g.hands.length ≤ 100000) (hn2 : g.ask.rows.length ≤ 100000) (hn3 : g.hrd.rows.length ≤ 100000) :
    Calls Tryz.prog 27 #[gtV g ah ch aa ca ar cr, .agg #[.string x2, .slice ah2 nh2 ch2, .int .i64 sk2, .int .i64 nw2, .int .i64 am2, .slice aa2 na2 ca2, .int .i64 rm2, .slice ar2 nr2 cr2], erV (.wrap c (.base b))] w fun e w' => ∃ ah' ch' aa' ca' ar' cr', e = .returned (gtV g ah' ch' aa' ca' ar' cr') ∧ GtOwn w' w.heap.size g ah' aa' ar' ∧ Below w.heap.size w w' := by
  have CC := hid (fun wx (h : Below w.heap.size w wx) => cCopiedGate g ah ch aa ca ar cr wx (hR.below h) hz hn1 hn2 hn3)
  have HOWN := hid (fun (wx : World) (Bx : Nat) (a b c : Option Addr) (h : GtOwn wx Bx g a b c) (R : Nat) (hR : R < Bx) => own_set8 h hR)
  clear hR hz hn1 hn2 hn3
  unfold gtV at CC ⊢
  generalize g.name = x at *
  generalize g.skew = sk at *
  generalize g.now = nw at *
  generalize g.ask.most = am at *
  generalize g.hrd.most = rm at *
  generalize g.hands.length = nh at *
  generalize g.ask.rows.length = na at *
  generalize g.hrd.rows.length = nr at *
  obtain ⟨b1, b2, b3⟩ := u_heap3 w (.cells #[.string x, .slice ah nh ch, .int .i64 sk, .int .i64 nw, .int .i64 am, .slice aa na ca, .int .i64 rm, .slice ar nr cr] 29) (.cells #[.string x2, .slice ah2 nh2 ch2, .int .i64 sk2, .int .i64 nw2, .int .i64 am2, .slice aa2 na2 ca2, .int .i64 rm2, .slice ar2 nr2 cr2] 29) (.cells #[.string ⟨#[]⟩, .slice none 0 0, .int .i64 0, .int .i64 0, .int .i64 0, .slice none 0 0, .int .i64 0, .slice none 0 0] 29)
  have HB0 := hid ((((Below.refl w.heap.size w).alloc (Nat.le_refl _) (.cells #[.string x, .slice ah nh ch, .int .i64 sk, .int .i64 nw, .int .i64 am, .slice aa na ca, .int .i64 rm, .slice ar nr cr] 29)).alloc (by simp) (.cells #[.string x2, .slice ah2 nh2 ch2, .int .i64 sk2, .int .i64 nw2, .int .i64 am2, .slice aa2 na2 ca2, .int .i64 rm2, .slice ar2 nr2 cr2] 29)).alloc (by simp; omega) (.cells #[.string ⟨#[]⟩, .slice none 0 0, .int .i64 0, .int .i64 0, .int .i64 0, .slice none 0 0, .int .i64 0, .slice none 0 0] 29))
  obtain ⟨W0, hW0⟩ : ∃ W0, ((w.alloc (.cells #[.string x, .slice ah nh ch, .int .i64 sk, .int .i64 nw, .int .i64 am, .slice aa na ca, .int .i64 rm, .slice ar nr cr] 29)).alloc (.cells #[.string x2, .slice ah2 nh2 ch2, .int .i64 sk2, .int .i64 nw2, .int .i64 am2, .slice aa2 na2 ca2, .int .i64 rm2, .slice ar2 nr2 cr2] 29)).alloc (.cells #[.string ⟨#[]⟩, .slice none 0 0, .int .i64 0, .int .i64 0, .int .i64 0, .slice none 0 0, .int .i64 0, .slice none 0 0] 29) = W0 := ⟨_, rfl⟩
  rw [hW0] at b1 b2 b3 HB0
  obtain ⟨B, hB⟩ : ∃ B, w.heap.size = B := ⟨_, rfl⟩
  rw [hB] at b1 b2 b3
  have HM1 := hid b1
  have HM2 := hid b2
  have HM3 := hid b3
  clear b1 b2 b3
  obtain ⟨⟨f0, f1, f2, f3, f4, f5, f6, f7⟩, ff⟩ := g_box8f HM1.out
  clear ff
  have HSx := hid (hS.below HB0.out)
  have e0 := HSx.out.cells.1
  have CI := hid (fun wx (h : SenA a0 a1 a2 wx) => is_other c h hb)
  have HLT := hid (show B + 2 < W0.heap.size from lt_of_heap HM3.out)
  unfold erV at CI ⊢
  unfold erV at CI ⊢
  unfold erV at e0
  go_enter Tryz.func27, Tryz.ntmps27
  go_wp2_with fail
  refine (CI.out _ HSx.out).mono ?_
  rintro e w1 ⟨rfl, hb1⟩
  have HBx := hid (bb HB0.out hb1)
  have HMx := hid (u_blk_below HM3.out hb1)
  have HM1x := hid (u_blk_below HM1.out hb1)
  clear hb1 f0 f1 f2 f3 f4 f5 f6 f7 e0
  obtain ⟨⟨f0, f1, f2, f3, f4, f5, f6, f7⟩, ff⟩ := g_box8f HM1x.out
  clear ff
  have HLTx := hid (show B + 2 < w1.heap.size from lt_of_heap HMx.out)
  go_wp2_with fail
  refine (CC.out _ HBx.out).mono ?_
  rintro e w4 ⟨a1', c1, a2, c2, a3, c3, rfl, ho, hb4⟩
  have HO := hid ho
  have HB4 := hid (bb HBx.out hb4)
  have HZ := hid (u_blk_below HMx.out hb4)
  clear ho hb4 f0 f1 f2 f3 f4 f5 f6 f7
  obtain ⟨⟨k0, k1, k2, k3, k4, k5, k6, k7⟩, kf⟩ := g_box8f HZ.out
  have kf0 := kf 0
  have kf1 := kf 1
  have kf2 := kf 2
  have kf3 := kf 3
  have kf4 := kf 4
  have kf5 := kf 5
  have kf6 := kf 6
  have kf7 := kf 7
  clear kf
  go_wp2_with fail
  refine bodyPost_ret (v := .agg #[.string x, .slice a1' nh c1, .int .i64 sk, .int .i64 nw, .int .i64 am, .slice a2 na c2, .int .i64 rm, .slice a3 nr c3]) (by simp [results, Tryz.results27, go_sem, k0, k1, k2, k3, k4, k5, k6, k7]) rfl ⟨a1', c1, a2, c2, a3, c3, rfl, ?_, ?_⟩
  · refine (HOWN.out _ _ _ _ _ HO.out (B + 2) HLTx.out _ _ _ _ _ _ _ _).mono ?_
    have := HLTx.out
    omega
  · iterate 8 refine Below.setCell ?_ (show w.heap.size ≤ B + 2 by omega) _
    exact HB4.out

end Go.Proofs.YtgdfeicojgnoaaaGreatDoor

namespace Go.Proofs.YtgdfeicojgnoaaaGreatDoor
open Go.RowKit
set_option linter.unusedVariables false
set_option linter.unusedSimpArgs false

set_option maxRecDepth 8000 in
set_option maxHeartbeats 8000000 in
theorem cRowIn (t : Tb) (a : Option Addr) (cap : Nat) (id : ByteArray) (til : Int) (a0 a1 a2 : Addr) (w : World) (hS : SenA a0 a1 a2 w) (hR : RoRow w a t.rows) (hz : RoSz 1048576 t.rows) (hn : t.rows.length ≤ 1048576) (hi : id.size ≤ 1048576) (hc : (enteredT t id til).2 = 0) :
    Calls Tryz.prog 68 #[tbV t a cap, .string id, .int .i64 til] w fun e w' => ∃ a' c', e = .returned (.tuple #[tbV (enteredT t id til).1 a' c', .nilIface]) ∧ OwnRo w' w.heap.size a' (enteredT t id til).1.rows ∧ Below w.heap.size w w' := by
  have CE := hid (fun wx (h : Below w.heap.size w wx) => cEnteredI t a cap id til wx (hR.below h) hz hn hi)
  have HS := hid hS
  rw [hc] at CE
  generalize enteredT t id til = E at *
  clear hR hz hn hi hS hc
  have HTV := hid (show ∀ (T : Tb) (p : Option Addr) (q : Nat), tbV T p q = .agg #[.int .i64 T.most, .slice p T.rows.length q] from fun _ _ _ => rfl)
  rw [HTV.out] at CE ⊢
  simp only [HTV.out] at CE ⊢
  generalize t.most = m at *
  generalize t.rows.length = n at *
  obtain ⟨b1, b2⟩ := u_heap2 w (.cells #[.int .i64 m, .slice a n cap] 27) (.cells #[.int .i64 0, .slice none 0 0] 27)
  have HB0 := hid (((Below.refl w.heap.size w).alloc (Nat.le_refl _) (.cells #[.int .i64 m, .slice a n cap] 27)).alloc (by simp) (.cells #[.int .i64 0, .slice none 0 0] 27))
  obtain ⟨W0, hW0⟩ : ∃ W0, (w.alloc (.cells #[.int .i64 m, .slice a n cap] 27)).alloc (.cells #[.int .i64 0, .slice none 0 0] 27) = W0 := ⟨_, rfl⟩
  rw [hW0] at b1 b2 HB0
  obtain ⟨B, hB⟩ : ∃ B, w.heap.size = B := ⟨_, rfl⟩
  rw [hB] at b1 b2
  have HM1 := hid b1
  have HM2 := hid b2
  clear b1 b2
  obtain ⟨⟨f0, f1⟩, ff0, ff1⟩ := u_box2f HM1.out
  go_enter Tryz.func68, Tryz.ntmps68
  go_wp2_with fail
  refine (CE.out _ HB0.out).mono ?_
  rintro e w1 ⟨a', c', rfl, ho, hb1⟩
  have HO := hid ho
  have HB1 := hid (bb HB0.out hb1)
  have HZ := hid (u_blk_below HM2.out hb1)
  have HLT := hid (show B + 1 < W0.heap.size from lt_of_heap HM2.out)
  have HSZ := hid hb1.size
  clear ho hb1 CE hW0 f0 f1 ff0 ff1
  have HA := hid ((Below.refl w1.heap.size w1).alloc (Nat.le_refl _) (.cells #[.int .i64 E.1.most, .slice a' E.1.rows.length c'] 27))
  have HN := hid (heap_alloc_new w1 (.cells #[.int .i64 E.1.most, .slice a' E.1.rows.length c'] 27))
  obtain ⟨w2, hw2⟩ : ∃ w2, w1.alloc (.cells #[.int .i64 E.1.most, .slice a' E.1.rows.length c'] 27) = w2 := ⟨_, rfl⟩
  have HW := hid hw2
  rw [hw2] at HA HN
  clear hw2
  have HZ2 := hid (u_blk_below HZ.out HA.out)
  have HB2 := hid (bb HB1.out HA.out)
  go_upto_region 2 with fail
  rw [HW.out]
  clear HW
  obtain ⟨⟨k0, k1⟩, kf0, kf1⟩ := u_box2f HZ2.out
  obtain ⟨⟨n0, n1⟩, nf0, nf1⟩ := u_box2f HN.out
  go_wp2_with fail
  refine bodyPost_ret (v := .tuple #[.agg #[.int .i64 E.1.most, .slice a' E.1.rows.length c'], .nilIface]) (by simp [results, Tryz.results68, go_sem, k0, k1]) rfl ⟨a', c', rfl, ?_, ?_⟩
  · have hk := (u_KeepB.of_set (p := fun b => b = B + 1) (g := B + 1) w2 0 (.int .i64 E.1.most) rfl).trans (u_KeepB.of_set (p := fun b => b = B + 1) (g := B + 1) _ 1 (.slice a' E.1.rows.length c') rfl)
    refine ((HO.out.below HA.out).keep hk (fun b e => by rw [show b = B + 1 from e]; exact HLT.out)).mono ?_
    exact HB0.out.size
  · iterate 2 refine Below.setCell ?_ (show w.heap.size ≤ B + 1 by omega) _
    exact HB2.out

set_option maxRecDepth 8000 in
set_option maxHeartbeats 8000000 in
theorem cRowThere (t : Tb) (a : Option Addr) (cap : Nat) (id : ByteArray) (til : Int) (a0 a1 a2 : Addr) (w : World) (hS : SenA a0 a1 a2 w) (hR : RoRow w a t.rows) (hz : RoSz 1048576 t.rows) (hn : t.rows.length ≤ 1048576) (hi : id.size ≤ 1048576) (hc : (enteredT t id til).2 = 1) :
    Calls Tryz.prog 68 #[tbV t a cap, .string id, .int .i64 til] w fun e w' => e = .returned (.tuple #[.agg #[.int .i64 0, .slice none 0 0], erV (.wrap 1 (.base a2))]) ∧ Below w.heap.size w w' := by
  have CE := hid (fun wx (h : Below w.heap.size w wx) => cEnteredI t a cap id til wx (hR.below h) hz hn hi)
  have HS := hid hS
  rw [hc] at CE
  generalize enteredT t id til = E at *
  clear hR hz hn hi hS hc
  have HTV := hid (show ∀ (T : Tb) (p : Option Addr) (q : Nat), tbV T p q = .agg #[.int .i64 T.most, .slice p T.rows.length q] from fun _ _ _ => rfl)
  rw [HTV.out] at CE ⊢
  simp only [HTV.out] at CE
  generalize t.most = m at *
  generalize t.rows.length = n at *
  obtain ⟨b1, b2⟩ := u_heap2 w (.cells #[.int .i64 m, .slice a n cap] 27) (.cells #[.int .i64 0, .slice none 0 0] 27)
  have HB0 := hid (((Below.refl w.heap.size w).alloc (Nat.le_refl _) (.cells #[.int .i64 m, .slice a n cap] 27)).alloc (by simp) (.cells #[.int .i64 0, .slice none 0 0] 27))
  obtain ⟨W0, hW0⟩ : ∃ W0, (w.alloc (.cells #[.int .i64 m, .slice a n cap] 27)).alloc (.cells #[.int .i64 0, .slice none 0 0] 27) = W0 := ⟨_, rfl⟩
  rw [hW0] at b1 b2 HB0
  obtain ⟨B, hB⟩ : ∃ B, w.heap.size = B := ⟨_, rfl⟩
  rw [hB] at b1 b2
  have HM1 := hid b1
  have HM2 := hid b2
  clear b1 b2
  have hgB : ¬ 2 = B + 1 := by have := lt_of_cell HS.out.cells.2.2; omega
  have hgC := hgB
  have hgD : ¬ B + 1 = 2 := fun e => hgB e.symm
  (try simp at hgC)
  obtain ⟨⟨f0, f1⟩, ff0, ff1⟩ := u_box2f HM1.out
  unfold erV
  unfold erV
  go_enter Tryz.func68, Tryz.ntmps68
  go_wp2_with fail
  refine (CE.out _ HB0.out).mono ?_
  rintro e w1 ⟨a', c', rfl, ho, hb1⟩
  have HO := hid ho
  have HB1 := hid (bb HB0.out hb1)
  have HZ := hid (u_blk_below HM2.out hb1)
  have HLT := hid (show B + 1 < W0.heap.size from lt_of_heap HM2.out)
  have HSZ := hid hb1.size
  clear ho hb1 CE hW0 f0 f1 ff0 ff1
  have HA := hid ((Below.refl w1.heap.size w1).alloc (Nat.le_refl _) (.cells #[.int .i64 E.1.most, .slice a' E.1.rows.length c'] 27))
  have HN := hid (heap_alloc_new w1 (.cells #[.int .i64 E.1.most, .slice a' E.1.rows.length c'] 27))
  obtain ⟨w2, hw2⟩ : ∃ w2, w1.alloc (.cells #[.int .i64 E.1.most, .slice a' E.1.rows.length c'] 27) = w2 := ⟨_, rfl⟩
  have HW := hid hw2
  rw [hw2] at HA HN
  clear hw2
  have HZ2 := hid (u_blk_below HZ.out HA.out)
  have HB2 := hid (bb HB1.out HA.out)
  go_upto_region 2 with fail
  rw [HW.out]
  clear HW
  obtain ⟨⟨k0, k1⟩, kf0, kf1⟩ := u_box2f HZ2.out
  have e0 := (HS.out.below HB2.out).cells.2.2
  unfold erV at e0
  go_wp2_with fail
  go_region
  go_wp2_with fail
  refine bodyPost_ret (v := .tuple #[.agg #[.int .i64 0, .slice none 0 0], .iface 102 (.agg #[.int .i64 1, .iface 229 (.pointer (some a2))])]) (by simp [results, Tryz.results68, go_sem, k0, k1]) rfl ⟨rfl, ?_⟩
  refine Below.drew ?_
  iterate 2 refine Below.setCell ?_ (show w.heap.size ≤ B + 1 by omega) _
  exact HB2.out

set_option maxRecDepth 8000 in
set_option maxHeartbeats 8000000 in
theorem cRowFull (t : Tb) (a : Option Addr) (cap : Nat) (id : ByteArray) (til : Int) (a0 a1 a2 : Addr) (w : World) (hS : SenA a0 a1 a2 w) (hR : RoRow w a t.rows) (hz : RoSz 1048576 t.rows) (hn : t.rows.length ≤ 1048576) (hi : id.size ≤ 1048576) (hc : (enteredT t id til).2 = 2) :
    Calls Tryz.prog 68 #[tbV t a cap, .string id, .int .i64 til] w fun e w' => e = .returned (.tuple #[.agg #[.int .i64 0, .slice none 0 0], erV (.wrap 2 (.base a1))]) ∧ Below w.heap.size w w' := by
  have CE := hid (fun wx (h : Below w.heap.size w wx) => cEnteredI t a cap id til wx (hR.below h) hz hn hi)
  have HS := hid hS
  rw [hc] at CE
  generalize enteredT t id til = E at *
  clear hR hz hn hi hS hc
  have HTV := hid (show ∀ (T : Tb) (p : Option Addr) (q : Nat), tbV T p q = .agg #[.int .i64 T.most, .slice p T.rows.length q] from fun _ _ _ => rfl)
  rw [HTV.out] at CE ⊢
  simp only [HTV.out] at CE
  generalize t.most = m at *
  generalize t.rows.length = n at *
  obtain ⟨b1, b2⟩ := u_heap2 w (.cells #[.int .i64 m, .slice a n cap] 27) (.cells #[.int .i64 0, .slice none 0 0] 27)
  have HB0 := hid (((Below.refl w.heap.size w).alloc (Nat.le_refl _) (.cells #[.int .i64 m, .slice a n cap] 27)).alloc (by simp) (.cells #[.int .i64 0, .slice none 0 0] 27))
  obtain ⟨W0, hW0⟩ : ∃ W0, (w.alloc (.cells #[.int .i64 m, .slice a n cap] 27)).alloc (.cells #[.int .i64 0, .slice none 0 0] 27) = W0 := ⟨_, rfl⟩
  rw [hW0] at b1 b2 HB0
  obtain ⟨B, hB⟩ : ∃ B, w.heap.size = B := ⟨_, rfl⟩
  rw [hB] at b1 b2
  have HM1 := hid b1
  have HM2 := hid b2
  clear b1 b2
  obtain ⟨⟨f0, f1⟩, ff0, ff1⟩ := u_box2f HM1.out
  unfold erV
  unfold erV
  go_enter Tryz.func68, Tryz.ntmps68
  go_wp2_with fail
  refine (CE.out _ HB0.out).mono ?_
  rintro e w1 ⟨a', c', rfl, ho, hb1⟩
  have HO := hid ho
  have HB1 := hid (bb HB0.out hb1)
  have HZ := hid (u_blk_below HM2.out hb1)
  have HLT := hid (show B + 1 < W0.heap.size from lt_of_heap HM2.out)
  have HSZ := hid hb1.size
  clear ho hb1 CE hW0 f0 f1 ff0 ff1
  have HA := hid ((Below.refl w1.heap.size w1).alloc (Nat.le_refl _) (.cells #[.int .i64 E.1.most, .slice a' E.1.rows.length c'] 27))
  have HN := hid (heap_alloc_new w1 (.cells #[.int .i64 E.1.most, .slice a' E.1.rows.length c'] 27))
  obtain ⟨w2, hw2⟩ : ∃ w2, w1.alloc (.cells #[.int .i64 E.1.most, .slice a' E.1.rows.length c'] 27) = w2 := ⟨_, rfl⟩
  have HW := hid hw2
  rw [hw2] at HA HN
  clear hw2
  have HZ2 := hid (u_blk_below HZ.out HA.out)
  have HB2 := hid (bb HB1.out HA.out)
  go_upto_region 2 with fail
  rw [HW.out]
  clear HW
  obtain ⟨⟨k0, k1⟩, kf0, kf1⟩ := u_box2f HZ2.out
  have CN := hid (fun wx h => cNotSo 2 a1 wx h)
  have HC := hid (HS.out.below HB2.out).cells.2.1
  unfold erV at CN
  unfold erV at CN
  go_wp2_with fail
  refine (CN.out _ (by have h := HC.out; unfold erV at h; exact h)).mono ?_
  rintro e w3 ⟨rfl, hw3⟩
  obtain rfl := hw3.symm
  go_wp2_with fail
  refine bodyPost_ret (v := .tuple #[.agg #[.int .i64 0, .slice none 0 0], .iface 102 (.agg #[.int .i64 2, .iface 229 (.pointer (some a1))])]) (by simp [results, Tryz.results68, go_sem, k0, k1]) rfl ⟨rfl, ?_⟩
  iterate 2 refine Below.setCell ?_ (show w.heap.size ≤ B + 1 by omega) _
  exact HB2.out

set_option maxRecDepth 8000 in
set_option maxHeartbeats 8000000 in
theorem cRowBad (t : Tb) (a : Option Addr) (cap : Nat) (id : ByteArray) (til : Int) (a0 a1 a2 : Addr) (w : World) (hS : SenA a0 a1 a2 w) (hR : RoRow w a t.rows) (hz : RoSz 1048576 t.rows) (hn : t.rows.length ≤ 1048576) (hi : id.size ≤ 1048576) (hc : (enteredT t id til).2 = 3) :
    Calls Tryz.prog 68 #[tbV t a cap, .string id, .int .i64 til] w fun e w' => e = .returned (.tuple #[.agg #[.int .i64 0, .slice none 0 0], erV (.wrap 3 (.base a0))]) ∧ Below w.heap.size w w' := by
  have CE := hid (fun wx (h : Below w.heap.size w wx) => cEnteredI t a cap id til wx (hR.below h) hz hn hi)
  have HS := hid hS
  rw [hc] at CE
  generalize enteredT t id til = E at *
  clear hR hz hn hi hS hc
  have HTV := hid (show ∀ (T : Tb) (p : Option Addr) (q : Nat), tbV T p q = .agg #[.int .i64 T.most, .slice p T.rows.length q] from fun _ _ _ => rfl)
  rw [HTV.out] at CE ⊢
  simp only [HTV.out] at CE
  generalize t.most = m at *
  generalize t.rows.length = n at *
  obtain ⟨b1, b2⟩ := u_heap2 w (.cells #[.int .i64 m, .slice a n cap] 27) (.cells #[.int .i64 0, .slice none 0 0] 27)
  have HB0 := hid (((Below.refl w.heap.size w).alloc (Nat.le_refl _) (.cells #[.int .i64 m, .slice a n cap] 27)).alloc (by simp) (.cells #[.int .i64 0, .slice none 0 0] 27))
  obtain ⟨W0, hW0⟩ : ∃ W0, (w.alloc (.cells #[.int .i64 m, .slice a n cap] 27)).alloc (.cells #[.int .i64 0, .slice none 0 0] 27) = W0 := ⟨_, rfl⟩
  rw [hW0] at b1 b2 HB0
  obtain ⟨B, hB⟩ : ∃ B, w.heap.size = B := ⟨_, rfl⟩
  rw [hB] at b1 b2
  have HM1 := hid b1
  have HM2 := hid b2
  clear b1 b2
  have hgB : ¬ 0 = B + 1 := by have := lt_of_cell HS.out.cells.1; omega
  have hgC := hgB
  have hgD : ¬ B + 1 = 0 := fun e => hgB e.symm
  (try simp at hgC)
  obtain ⟨⟨f0, f1⟩, ff0, ff1⟩ := u_box2f HM1.out
  unfold erV
  unfold erV
  go_enter Tryz.func68, Tryz.ntmps68
  go_wp2_with fail
  refine (CE.out _ HB0.out).mono ?_
  rintro e w1 ⟨a', c', rfl, ho, hb1⟩
  have HO := hid ho
  have HB1 := hid (bb HB0.out hb1)
  have HZ := hid (u_blk_below HM2.out hb1)
  have HLT := hid (show B + 1 < W0.heap.size from lt_of_heap HM2.out)
  have HSZ := hid hb1.size
  clear ho hb1 CE hW0 f0 f1 ff0 ff1
  have HA := hid ((Below.refl w1.heap.size w1).alloc (Nat.le_refl _) (.cells #[.int .i64 E.1.most, .slice a' E.1.rows.length c'] 27))
  have HN := hid (heap_alloc_new w1 (.cells #[.int .i64 E.1.most, .slice a' E.1.rows.length c'] 27))
  obtain ⟨w2, hw2⟩ : ∃ w2, w1.alloc (.cells #[.int .i64 E.1.most, .slice a' E.1.rows.length c'] 27) = w2 := ⟨_, rfl⟩
  have HW := hid hw2
  rw [hw2] at HA HN
  clear hw2
  have HZ2 := hid (u_blk_below HZ.out HA.out)
  have HB2 := hid (bb HB1.out HA.out)
  go_upto_region 2 with fail
  rw [HW.out]
  clear HW
  obtain ⟨⟨k0, k1⟩, kf0, kf1⟩ := u_box2f HZ2.out
  have e0 := (HS.out.below HB2.out).cells.1
  unfold erV at e0
  go_wp2_with fail
  go_region
  go_wp2_with fail
  refine bodyPost_ret (v := .tuple #[.agg #[.int .i64 0, .slice none 0 0], .iface 102 (.agg #[.int .i64 3, .iface 229 (.pointer (some a0))])]) (by simp [results, Tryz.results68, go_sem, k0, k1]) rfl ⟨rfl, ?_⟩
  refine Below.drew ?_
  iterate 2 refine Below.setCell ?_ (show w.heap.size ≤ B + 1 by omega) _
  exact HB2.out

end Go.Proofs.YtgdfeicojgnoaaaGreatDoor

namespace Go.Proofs.YtgdfeicojgnoaaaGreatDoor
open Go.RowKit
set_option linter.unusedVariables false
set_option linter.unusedSimpArgs false

/-- Eight stores into a box, and one more. -/
theorem keep8 (w : World) (p : Nat) (v0 v1 v2 v3 v4 v5 v6 v7 : Value) : u_KeepB (fun b => b = p) w ((((((((w.setCell ⟨p, 0, none⟩ v0).setCell ⟨p, 1, none⟩ v1).setCell ⟨p, 2, none⟩ v2).setCell ⟨p, 3, none⟩ v3).setCell ⟨p, 4, none⟩ v4).setCell ⟨p, 5, none⟩ v5).setCell ⟨p, 6, none⟩ v6).setCell ⟨p, 7, none⟩ v7) :=
  (((((((u_KeepB.of_set (p := fun b => b = p) (g := p) w 0 v0 rfl).trans (u_KeepB.of_set (p := fun b => b = p) (g := p) _ 1 v1 rfl)).trans (u_KeepB.of_set (p := fun b => b = p) (g := p) _ 2 v2 rfl)).trans (u_KeepB.of_set (p := fun b => b = p) (g := p) _ 3 v3 rfl)).trans (u_KeepB.of_set (p := fun b => b = p) (g := p) _ 4 v4 rfl)).trans (u_KeepB.of_set (p := fun b => b = p) (g := p) _ 5 v5 rfl)).trans (u_KeepB.of_set (p := fun b => b = p) (g := p) _ 6 v6 rfl)).trans (u_KeepB.of_set (p := fun b => b = p) (g := p) _ 7 v7 rfl)

theorem box8_set {w : World} {p : Nat} {T : TypeId} {c : Array Value} (h : w.heap[p]? = some (.cells c T (0, 0))) (j : Nat) (v : Value) : (w.setCell ⟨p, j, none⟩ v).heap[p]? = some (.cells (c.setIfInBounds j v) T (0, 0)) := Lib.heap_setCell_same h v

theorem box8_new {w : World} {p : Nat} {T : TypeId} {z0 z1 z2 z3 z4 z5 z6 z7 : Value} (h : w.heap[p]? = some (.cells #[z0, z1, z2, z3, z4, z5, z6, z7] T (0, 0))) (v0 v1 v2 v3 v4 v5 v6 v7 : Value) : ((((((((w.setCell ⟨p, 0, none⟩ v0).setCell ⟨p, 1, none⟩ v1).setCell ⟨p, 2, none⟩ v2).setCell ⟨p, 3, none⟩ v3).setCell ⟨p, 4, none⟩ v4).setCell ⟨p, 5, none⟩ v5).setCell ⟨p, 6, none⟩ v6).setCell ⟨p, 7, none⟩ v7).heap[p]? = some (.cells #[v0, v1, v2, v3, v4, v5, v6, v7] T (0, 0)) := by
  have h0 : (w.setCell ⟨p, 0, none⟩ v0).heap[p]? = some (.cells #[v0, z1, z2, z3, z4, z5, z6, z7] T (0, 0)) := box8_set h 0 v0
  have h1 : ((w.setCell ⟨p, 0, none⟩ v0).setCell ⟨p, 1, none⟩ v1).heap[p]? = some (.cells #[v0, v1, z2, z3, z4, z5, z6, z7] T (0, 0)) := box8_set h0 1 v1
  have h2 : (((w.setCell ⟨p, 0, none⟩ v0).setCell ⟨p, 1, none⟩ v1).setCell ⟨p, 2, none⟩ v2).heap[p]? = some (.cells #[v0, v1, v2, z3, z4, z5, z6, z7] T (0, 0)) := box8_set h1 2 v2
  have h3 : ((((w.setCell ⟨p, 0, none⟩ v0).setCell ⟨p, 1, none⟩ v1).setCell ⟨p, 2, none⟩ v2).setCell ⟨p, 3, none⟩ v3).heap[p]? = some (.cells #[v0, v1, v2, v3, z4, z5, z6, z7] T (0, 0)) := box8_set h2 3 v3
  have h4 : (((((w.setCell ⟨p, 0, none⟩ v0).setCell ⟨p, 1, none⟩ v1).setCell ⟨p, 2, none⟩ v2).setCell ⟨p, 3, none⟩ v3).setCell ⟨p, 4, none⟩ v4).heap[p]? = some (.cells #[v0, v1, v2, v3, v4, z5, z6, z7] T (0, 0)) := box8_set h3 4 v4
  have h5 : ((((((w.setCell ⟨p, 0, none⟩ v0).setCell ⟨p, 1, none⟩ v1).setCell ⟨p, 2, none⟩ v2).setCell ⟨p, 3, none⟩ v3).setCell ⟨p, 4, none⟩ v4).setCell ⟨p, 5, none⟩ v5).heap[p]? = some (.cells #[v0, v1, v2, v3, v4, v5, z6, z7] T (0, 0)) := box8_set h4 5 v5
  have h6 : (((((((w.setCell ⟨p, 0, none⟩ v0).setCell ⟨p, 1, none⟩ v1).setCell ⟨p, 2, none⟩ v2).setCell ⟨p, 3, none⟩ v3).setCell ⟨p, 4, none⟩ v4).setCell ⟨p, 5, none⟩ v5).setCell ⟨p, 6, none⟩ v6).heap[p]? = some (.cells #[v0, v1, v2, v3, v4, v5, v6, z7] T (0, 0)) := box8_set h5 6 v6
  have h7 : ((((((((w.setCell ⟨p, 0, none⟩ v0).setCell ⟨p, 1, none⟩ v1).setCell ⟨p, 2, none⟩ v2).setCell ⟨p, 3, none⟩ v3).setCell ⟨p, 4, none⟩ v4).setCell ⟨p, 5, none⟩ v5).setCell ⟨p, 6, none⟩ v6).setCell ⟨p, 7, none⟩ v7).heap[p]? = some (.cells #[v0, v1, v2, v3, v4, v5, v6, v7] T (0, 0)) := box8_set h6 7 v7
  exact h7

theorem ro_stands {w6 wq wz : World} {K p : Nat} {a : Option Addr} {l : List Ro} (o : OwnRo w6 K a l) (hb : Below w6.heap.size w6 wq) (hk : u_KeepB (fun b => b = p) wq wz) (h : p < K ∨ w6.heap.size ≤ p) : OwnRo wz K a l := by
  rcases h with h | h
  · exact (o.below hb).keep hk (fun b e => by rw [e]; exact h)
  · exact o.below (hb.trans (hk.below hb.size (fun b e => by rw [e]; exact h)))

theorem hd_stands {w6 wq wz : World} {K p : Nat} {a : Option Addr} {l : List Hd} (o : OwnHd w6 K a l) (hb : Below w6.heap.size w6 wq) (hk : u_KeepB (fun b => b = p) wq wz) (h : p < K ∨ w6.heap.size ≤ p) : OwnHd wz K a l := by
  rcases h with h | h
  · exact (o.below hb).keep hk (fun b e => by rw [e]; exact h)
  · exact o.below (hb.trans (hk.below hb.size (fun b e => by rw [e]; exact h)))

end Go.Proofs.YtgdfeicojgnoaaaGreatDoor
