/- The specification's l17Copy, its first table told with its room. The specification's l16Enter at the first table of a gate's box. -/
import Derived.Test.YtnjepdggefchnaaGreatDoorM21
import Derived.Test.YtnjepdggefchnaaGreatDoorM12
import Derived.Test.YtnjepdggefchnaaGreatDoorM13
namespace Go.Proofs.YtnjepdggefchnaaGreatDoor
open Go.RowKit
set_option linter.unusedVariables false
set_option linter.unusedSimpArgs false

theorem own_moved {w wz : World} {B Bx a c n : Nat} {xs : List Value} (h : w.ownsRow B 78 2 (.slice (some ⟨a, 0, none⟩) n c) n xs) (k : ∀ b, B ≤ b → b < w.heap.size → wz.heap[b]? = w.heap[b]?) (q : Bx ≤ B) : wz.ownsRow Bx 78 2 (.slice (some ⟨a, 0, none⟩) n c) n xs := by
  refine ⟨h.1, ?_⟩
  rcases h.2 with ⟨e, _⟩ | ⟨g, cp, cur, e, hg, hh, r⟩
  · cases e
  · exact .inr ⟨g, cp, cur, e, Nat.le_trans q hg, (k g hg (lt_of_heap hh)).trans hh, r⟩

set_option maxRecDepth 8000 in
set_option maxHeartbeats 8000000 in
theorem cGateCopyR (g : Gt) (ah : Option Addr) (ch : Nat) (aa : Option Addr) (ca : Nat) (ar : Option Addr) (cr : Nat) (w : World) (hR : GtRow w g ah aa ar) (hn1 : g.hands.length ≤ 100000) (hn2 : g.ask.rows.length ≤ 100000) (hn3 : g.hrd.rows.length ≤ 100000) :
    Calls Tryz.prog 16 #[gtV g ah ch aa ca ar cr] w fun e w' => ∃ ah' ch' ga' ca' gr' cr', e = .returned (gtV g ah' ch' (some ⟨ga', 0, none⟩) ca' (some ⟨gr', 0, none⟩) cr') ∧ (GtOwn w' w.heap.size g ah' (some ⟨ga', 0, none⟩) (some ⟨gr', 0, none⟩) ∧ RoOwn w' w.heap.size ga' ca' g.ask.rows) ∧ Below w.heap.size w w' := by
  have CA := hid (fun wx (h : Below w.heap.size w wx) => cCopyS g.ask aa ca wx (hR.2.1.below h) hn2)
  have CR := hid (fun wx (h : Below w.heap.size w wx) => cCopyS g.hrd ar cr wx (hR.2.2.below h) hn3)
  have CC := hid (fun wx (h : Below w.heap.size w wx) => hd_cat ((hR.1.below h).sr (n := g.hands.length) (c := ch) rfl) (Nat.le_trans hn1 (by decide)))
  have HFIN := hid (fun (w1 w2 w3 wz : World) (B1 B2 B3 : Nat) (a1 a2 a3 : Nat) (c1 c2 c3 : Nat) (h1 : w1.ownsRow B1 69 4 (.slice (some ⟨a1, 0, none⟩) g.hands.length c1) g.hands.length (hdC g.hands)) (k1 : ∀ b, B1 ≤ b → b < w1.heap.size → wz.heap[b]? = w1.heap[b]?) (h2 : w2.ownsRow B2 78 2 (.slice (some ⟨a2, 0, none⟩) g.ask.rows.length c2) g.ask.rows.length (roC g.ask.rows)) (k2 : ∀ b, B2 ≤ b → b < w2.heap.size → wz.heap[b]? = w2.heap[b]?) (hB : w2.heap.size ≤ B3) (h3 : w3.ownsRow B3 78 2 (.slice (some ⟨a3, 0, none⟩) g.hrd.rows.length c3) g.hrd.rows.length (roC g.hrd.rows)) (k3 : ∀ b, B3 ≤ b → b < w3.heap.size → wz.heap[b]? = w3.heap[b]?) (Bx : Nat) (q1 : Bx ≤ B1) (q2 : Bx ≤ B2) (q3 : Bx ≤ B3) => (show GtOwn wz Bx g (some ⟨a1, 0, none⟩) (some ⟨a2, 0, none⟩) (some ⟨a3, 0, none⟩) ∧ RoOwn wz Bx a2 c2 g.ask.rows from by
    have hRO : RoOwn wz Bx a2 c2 g.ask.rows := own_moved h2 k2 q2
    obtain ⟨a, c, e, o1⟩ := own_hd h1 rfl
    cases e
    obtain ⟨a, c, e, o2⟩ := own_ro h2 rfl
    cases e
    obtain ⟨a, c, e, o3⟩ := own_ro h3 rfl
    cases e
    refine ⟨⟨fun hl => ?_, fun hl => ?_, fun hl => ?_, apart_of o2 hB o3⟩, hRO⟩
    · obtain ⟨y, o, cu, e1, e2, e3, e4⟩ := o1 hl
      exact ⟨y, o, cu, e1, Nat.le_trans q1 e2, (k1 y e2 (lt_of_heap e3)).trans e3, e4⟩
    · obtain ⟨y, o, cu, e1, e2, e3, e4⟩ := o2 hl
      exact ⟨y, o, cu, e1, Nat.le_trans q2 e2, (k2 y e2 (lt_of_heap e3)).trans e3, e4⟩
    · obtain ⟨y, o, cu, e1, e2, e3, e4⟩ := o3 hl
      exact ⟨y, o, cu, e1, Nat.le_trans q3 e2, (k3 y e2 (lt_of_heap e3)).trans e3, e4⟩))
  unfold RoOwn at CA CR
  unfold gtV
  unfold tbV at CA CR
  clear hR hn1 hn2 hn3
  generalize g.name = x at *
  generalize g.skew = sk at *
  generalize g.now = nw at *
  generalize g.ask.most = am at *
  generalize g.hrd.most = rm at *
  generalize g.hands.length = nh at *
  generalize g.ask.rows.length = na at *
  generalize g.hrd.rows.length = nr at *
  obtain ⟨b1, b2, b3⟩ := u_heap3 w (.cells #[.string x, .slice ah nh ch, .int .i64 sk, .int .i64 nw, .int .i64 am, .slice aa na ca, .int .i64 rm, .slice ar nr cr] 34) (.cells #[.string ⟨#[]⟩, .slice none 0 0, .int .i64 0, .int .i64 0, .int .i64 0, .slice none 0 0, .int .i64 0, .slice none 0 0] 34) (.cells #[.string x, .slice ah nh ch, .int .i64 sk, .int .i64 nw, .int .i64 am, .slice aa na ca, .int .i64 rm, .slice ar nr cr] 34)
  have HB0 := hid ((((Below.refl w.heap.size w).alloc (Nat.le_refl _) (.cells #[.string x, .slice ah nh ch, .int .i64 sk, .int .i64 nw, .int .i64 am, .slice aa na ca, .int .i64 rm, .slice ar nr cr] 34)).alloc (by simp) (.cells #[.string ⟨#[]⟩, .slice none 0 0, .int .i64 0, .int .i64 0, .int .i64 0, .slice none 0 0, .int .i64 0, .slice none 0 0] 34)).alloc (by simp; omega) (.cells #[.string x, .slice ah nh ch, .int .i64 sk, .int .i64 nw, .int .i64 am, .slice aa na ca, .int .i64 rm, .slice ar nr cr] 34))
  have HSZ := hid (show (((w.alloc (.cells #[.string x, .slice ah nh ch, .int .i64 sk, .int .i64 nw, .int .i64 am, .slice aa na ca, .int .i64 rm, .slice ar nr cr] 34)).alloc (.cells #[.string ⟨#[]⟩, .slice none 0 0, .int .i64 0, .int .i64 0, .int .i64 0, .slice none 0 0, .int .i64 0, .slice none 0 0] 34)).alloc (.cells #[.string x, .slice ah nh ch, .int .i64 sk, .int .i64 nw, .int .i64 am, .slice aa na ca, .int .i64 rm, .slice ar nr cr] 34)).heap.size = w.heap.size + 3 by simp)
  obtain ⟨W0, hW0⟩ : ∃ W0, ((w.alloc (.cells #[.string x, .slice ah nh ch, .int .i64 sk, .int .i64 nw, .int .i64 am, .slice aa na ca, .int .i64 rm, .slice ar nr cr] 34)).alloc (.cells #[.string ⟨#[]⟩, .slice none 0 0, .int .i64 0, .int .i64 0, .int .i64 0, .slice none 0 0, .int .i64 0, .slice none 0 0] 34)).alloc (.cells #[.string x, .slice ah nh ch, .int .i64 sk, .int .i64 nw, .int .i64 am, .slice aa na ca, .int .i64 rm, .slice ar nr cr] 34) = W0 := ⟨_, rfl⟩
  rw [hW0] at b1 b2 b3 HB0 HSZ
  obtain ⟨B, hB⟩ : ∃ B, w.heap.size = B := ⟨_, rfl⟩
  have HBB := hid hB
  rw [hB] at b1 b2 b3 HSZ
  have H1 := hid b1
  have H2 := hid b2
  have H3 := hid b3
  have HW0 := hid hW0
  clear b1 b2 b3 hW0
  obtain ⟨g1, c1, w1, hrun, ho1, hb1⟩ := CC.out W0 HB0.out
  have HRUN := hid hrun
  have HO1 := hid ho1
  have HA1 := hid (bb HB0.out hb1)
  have K1 := hid (u_blk_below H1.out hb1)
  have K2 := hid (u_blk_below H2.out hb1)
  have K3 := hid (u_blk_below H3.out hb1)
  have HS1 := hid hb1.size
  clear hrun ho1 hb1 CC
  go_enter Tryz.func16, Tryz.ntmps16
  go_upto_region 2 with fail
  rw [HW0.out]
  clear HW0
  obtain ⟨⟨x0, x1, x2, x3, x4, x5, x6, x7⟩, _⟩ := g_box8f (u_blk_below H1.out ((Below.refl W0.heap.size W0).alloc (Nat.le_refl _) (.cells #[] 69)))
  obtain ⟨⟨z0, z1, z2, z3, z4, z5, z6, z7⟩, zf⟩ := g_box8f K3.out
  have zf1 := zf 1
  clear zf
  have HLB := hid (show B + 2 < W0.heap.size from lt_of_heap H3.out)
  have HC1 := hid (HA1.out.setCell (p := ⟨B + 2, 1, none⟩) (by rw [hB]; (try dsimp only); omega) (.slice (some ⟨g1, 0, none⟩) nh c1))
  have D1 := hid ((Below.heap_setCell w1 ⟨B + 2, 1, none⟩ (.slice (some ⟨g1, 0, none⟩) nh c1) B (by (try dsimp only); omega)).trans K1.out)
  have D2 := hid ((Below.heap_setCell w1 ⟨B + 2, 1, none⟩ (.slice (some ⟨g1, 0, none⟩) nh c1) (B + 1) (by (try dsimp only); omega)).trans K2.out)
  have D3 := hid (show (w1.setCell ⟨B + 2, 1, none⟩ (.slice (some ⟨g1, 0, none⟩) nh c1)).heap[B + 2]? = some (.cells #[.string x, .slice (some ⟨g1, 0, none⟩) nh c1, .int .i64 sk, .int .i64 nw, .int .i64 am, .slice aa na ca, .int .i64 rm, .slice ar nr cr] 34 (0, 0)) from (u_heap_set K3.out _).trans rfl)
  have DO1 := hid (fun b (h : W0.heap.size ≤ b) => Below.heap_setCell w1 ⟨B + 2, 1, none⟩ (.slice (some ⟨g1, 0, none⟩) nh c1) b (by (try dsimp only); have := HLB.out; omega))
  have DS1 := hid (show (w1.setCell ⟨B + 2, 1, none⟩ (.slice (some ⟨g1, 0, none⟩) nh c1)).heap.size = w1.heap.size by simp)
  obtain ⟨⟨p0, p1, p2, p3, p4, p5, p6, p7⟩, _⟩ := g_box8f D1.out
  obtain ⟨W1, hW1⟩ : ∃ W, w1.setCell ⟨B + 2, 1, none⟩ (.slice (some ⟨g1, 0, none⟩) nh c1) = W := ⟨_, rfl⟩
  rw [hW1] at HC1 D1 D2 D3 DO1 DS1 p0 p1 p2 p3 p4 p5 p6 p7
  go_wp2_with (at_builtin; refine g_wpL_app _ rfl (.tmp 5) (.tmp 7) 29 29 rfl (.slice (some ⟨W0.heap.size, 0, none⟩) 0 0) (.slice ah nh ch) rfl rfl HRUN.out ?_)
  clear x0 x1 x2 x3 x4 x5 x6 x7 z0 z1 z2 z3 z4 z5 z6 z7 zf1 p0 p1 p2 p3 p4 p5 p6 p7 hW1 HRUN
  refine (CA.out _ HC1.out).mono ?_
  rintro e w2 ⟨g2, c2, rfl, ho2, hb2⟩
  have HO2 := hid ho2
  have HA2 := hid (bb HC1.out hb2)
  have E1 := hid (u_blk_below D1.out hb2)
  have E2 := hid (u_blk_below D2.out hb2)
  have E3 := hid (u_blk_below D3.out hb2)
  have HS2 := hid hb2.size
  have KO1 := hid (fun b (h : W0.heap.size ≤ b) (h2 : b < w1.heap.size) => (hb2.block b (by rw [DS1.out]; exact h2)).trans (DO1.out b h))
  have HLW1 := hid (show W0.heap.size ≤ W1.heap.size by rw [DS1.out]; exact HS1.out)
  clear ho2 hb2 HC1 D1 D2 D3 DO1 K1 K2 K3 HA1 CA
  obtain ⟨⟨x0, x1, x2, x3, x4, x5, x6, x7⟩, _⟩ := g_box8f E1.out
  obtain ⟨⟨z0, z1, z2, z3, z4, z5, z6, z7⟩, zf⟩ := g_box8f E3.out
  have zf4 := zf 4
  have zf5 := zf 5
  clear zf
  have HC2 := hid (show Below w.heap.size w ((w2.setCell ⟨B + 2, 4, none⟩ (.int .i64 am)).setCell ⟨B + 2, 5, none⟩ (.slice (some ⟨g2, 0, none⟩) na c2)) from by
    iterate 2 refine Below.setCell ?_ (by rw [hB]; (try dsimp only); omega) _
    exact HA2.out)
  have other2 : ∀ b, ¬ b = B + 2 → ((w2.setCell ⟨B + 2, 4, none⟩ (.int .i64 am)).setCell ⟨B + 2, 5, none⟩ (.slice (some ⟨g2, 0, none⟩) na c2)).heap[b]? = w2.heap[b]? := fun b hne => by
    iterate 2 refine (Below.heap_setCell _ _ _ _ (by (try dsimp only); omega)).trans ?_
    rfl
  have D1 := hid ((other2 B (by omega)).trans E1.out)
  have D2 := hid ((other2 (B + 1) (by omega)).trans E2.out)
  have D3 := hid (show ((w2.setCell ⟨B + 2, 4, none⟩ (.int .i64 am)).setCell ⟨B + 2, 5, none⟩ (.slice (some ⟨g2, 0, none⟩) na c2)).heap[B + 2]? = some (.cells #[.string x, .slice (some ⟨g1, 0, none⟩) nh c1, .int .i64 sk, .int .i64 nw, .int .i64 am, .slice (some ⟨g2, 0, none⟩) na c2, .int .i64 rm, .slice ar nr cr] 34 (0, 0)) from (u_heap_set (u_heap_set E3.out _) _).trans rfl)
  have DO2 := hid (fun b (h : W0.heap.size ≤ b) => other2 b (by have := HLB.out; omega))
  have DS2 := hid (show ((w2.setCell ⟨B + 2, 4, none⟩ (.int .i64 am)).setCell ⟨B + 2, 5, none⟩ (.slice (some ⟨g2, 0, none⟩) na c2)).heap.size = w2.heap.size by simp)
  clear other2
  obtain ⟨⟨p0, p1, p2, p3, p4, p5, p6, p7⟩, _⟩ := g_box8f D1.out
  obtain ⟨W2, hW2⟩ : ∃ W, ((w2.setCell ⟨B + 2, 4, none⟩ (.int .i64 am)).setCell ⟨B + 2, 5, none⟩ (.slice (some ⟨g2, 0, none⟩) na c2)) = W := ⟨_, rfl⟩
  rw [hW2] at HC2 D1 D2 D3 DO2 DS2 p0 p1 p2 p3 p4 p5 p6 p7
  go_wp2_with fail
  clear x0 x1 x2 x3 x4 x5 x6 x7 z0 z1 z2 z3 z4 z5 z6 z7 zf4 zf5 p0 p1 p2 p3 p4 p5 p6 p7 hW2
  refine (CR.out _ HC2.out).mono ?_
  rintro e w3 ⟨g3, c3, rfl, ho3, hb3⟩
  have HO3 := hid ho3
  have HA3 := hid (bb HC2.out hb3)
  have E2 := hid (u_blk_below D2.out hb3)
  have E3 := hid (u_blk_below D3.out hb3)
  have HW23 := hid (show w2.heap.size ≤ W2.heap.size by rw [DS2.out]; exact Nat.le_refl _)
  have HL3 := hid (show W0.heap.size ≤ W2.heap.size by rw [DS2.out]; exact Nat.le_trans HLW1.out HS2.out)
  have KO2 := hid (fun b (h : W0.heap.size ≤ b) (h2 : b < w2.heap.size) => (hb3.block b (by rw [DS2.out]; exact h2)).trans (DO2.out b h))
  have KO12 := hid (fun b (h : W0.heap.size ≤ b) (h2 : b < w1.heap.size) => (KO2.out b h (Nat.lt_of_lt_of_le h2 (by have := HS2.out; rw [DS1.out] at this; exact this))).trans (KO1.out b h h2))
  clear ho3 hb3 HC2 D1 D2 D3 DO2 HA2 CR E1
  obtain ⟨⟨y0, y1, y2, y3, y4, y5, y6, y7⟩, yf⟩ := g_box8f E2.out
  obtain ⟨⟨z0, z1, z2, z3, z4, z5, z6, z7⟩, zf⟩ := g_box8f E3.out
  have zf6 := zf 6
  have zf7 := zf 7
  have yf0 := yf 0
  have yf1 := yf 1
  have yf2 := yf 2
  have yf3 := yf 3
  have yf4 := yf 4
  have yf5 := yf 5
  have yf6 := yf 6
  have yf7 := yf 7
  clear zf yf
  go_wp2_with fail
  refine bodyPost_ret (v := .agg #[.string x, .slice (some ⟨g1, 0, none⟩) nh c1, .int .i64 sk, .int .i64 nw, .int .i64 am, .slice (some ⟨g2, 0, none⟩) na c2, .int .i64 rm, .slice (some ⟨g3, 0, none⟩) nr c3]) (by simp [results, Tryz.results16, go_sem, y0, y1, y2, y3, y4, y5, y6, y7, z0, z1, z2, z3, z4, z5, z6, z7]) rfl ⟨_, _, _, _, _, _, rfl, ?_, ?_⟩
  · refine HFIN.out w1 w2 w3 _ W0.heap.size W1.heap.size W2.heap.size g1 g2 g3 c1 c2 c3 HO1.out (fun b h1 h2 => ?_) HO2.out (fun b h1 h2 => ?_) HW23.out HO3.out (fun b h1 h2 => ?_) w.heap.size (Nat.le_trans (by rw [hB]; have := HLB.out; omega) (Nat.le_refl _)) ?_ ?_
    · iterate 10 refine (Below.heap_setCell _ _ _ _ (by (try dsimp only); have := HLB.out; omega)).trans ?_
      exact KO12.out b h1 h2
    · iterate 10 refine (Below.heap_setCell _ _ _ _ (by (try dsimp only); have := HLB.out; have := HLW1.out; omega)).trans ?_
      exact KO2.out b (Nat.le_trans HLW1.out h1) h2
    · iterate 10 refine (Below.heap_setCell _ _ _ _ (by (try dsimp only); have := HLB.out; have := HL3.out; omega)).trans ?_
      rfl
    · rw [hB]; have := HLB.out; have := HLW1.out; omega
    · rw [hB]; have := HLB.out; have := HL3.out; omega
  · iterate 10 refine Below.setCell ?_ (by rw [hB]; (try dsimp only); omega) _
    exact HA3.out

end Go.Proofs.YtnjepdggefchnaaGreatDoor

namespace Go.Proofs.YtnjepdggefchnaaGreatDoor
open Go.RowKit
set_option linter.unusedVariables false
set_option linter.unusedSimpArgs false

theorem g_boxT {w : World} {g : Nat} {a b c d e f i j : Value} {T : TypeId} (h : w.heap[g]? = some (.cells #[a, b, c, d, e, f, i, j] T (0, 0))) :
    (w.cell? ⟨g, 4, none⟩ = some e ∧ w.cell? ⟨g, 5, none⟩ = some f) ∧ w.frozen? ⟨g, 4, none⟩ = false ∧ w.frozen? ⟨g, 5, none⟩ = false :=
  ⟨⟨Lib.cell_of_heap h _, Lib.cell_of_heap h _⟩, Lib.frozen_of_heap h _, Lib.frozen_of_heap h _⟩

/-- What l16Enter leaves there. -/
def EnterPostG (P B g : Nat) (l : List Ro) (v0 v1 v2 v3 v6 v7 : Value) (T : Tb × Int) (w : World) (e : Ending) (w' : World) : Prop :=
  ∃ g' c', e = .returned (.int .i64 T.2) ∧ w'.heap[P]? = some (.cells #[v0, v1, v2, v3, .int .i64 T.1.most, .slice (some ⟨g', 0, none⟩) T.1.rows.length c', v6, v7] 34 (0, 0)) ∧ RoOwn w' B g' c' T.1.rows ∧ u_KeepB (fun b => b = P) w w' ∧ ((g' = g ∧ T.1.rows = l) ∨ w.heap.size ≤ g')

set_option maxRecDepth 8000 in
set_option maxHeartbeats 8000000 in
theorem cEnterG (P B g c : Nat) (v0 v1 v2 v3 v6 v7 : Value) (m : Int) (l : List Ro) (id : ByteArray) (til : Int) (w : World) (hP : w.heap[P]? = some (.cells #[v0, v1, v2, v3, .int .i64 m, .slice (some ⟨g, 0, none⟩) l.length c, v6, v7] 34 (0, 0)))
    (hO : RoOwn w B g c l) (hn : l.length ≤ 100000) (hz : RoSz 1048576 l) (hi : id.size ≤ 1048576) (hB : B ≤ w.heap.size) :
    Calls Tryz.prog 17 #[.pointer (some ⟨P, 4, none⟩), .string id, .int .i64 til] w (EnterPostG P B g l v0 v1 v2 v3 v6 v7 (enterT ⟨m, l⟩ id til) w) := by
  have CF := hid (cFindS ⟨m, l⟩ (some ⟨g, 0, none⟩) c id w hO.row hz (Nat.le_trans hn (by decide)) hi)
  unfold tbV at CF
  simp only at CF
  have HK := hid (findR_le l id)
  obtain ⟨k, hk⟩ : ∃ k, findR l id = k := ⟨_, rfl⟩
  have HP := hid hP
  have HO := hid hO
  have HKE := hid hk
  have HBB := hid hB
  rw [hk] at CF HK
  have HL : Hid (∀ n, l.length = n → ((isR l id = true → enterT ⟨m, l⟩ id til = (⟨m, l⟩, 1)) ∧ (isR l id = false → (n : Int) = m → enterT ⟨m, l⟩ id til = (⟨m, l⟩, 2)) ∧ (isR l id = false → ¬ (n : Int) = m → enterT ⟨m, l⟩ id til = (⟨m, insR l k ⟨id, til⟩⟩, 0)))) := fun n hn => by
    refine ⟨fun h => enterT_there (t := ⟨m, l⟩) h, fun h h2 => enterT_full (t := ⟨m, l⟩) h (by rw [hn]; exact h2), fun h h2 => ?_⟩
    rw [enterT_in (t := ⟨m, l⟩) h (by rw [hn]; exact h2)]
    simp only [hk]
  obtain ⟨T, hT⟩ : ∃ T, enterT ⟨m, l⟩ id til = T := ⟨_, rfl⟩
  rw [hT]
  simp only [hT] at HL
  obtain ⟨n, hnn⟩ : ∃ n, l.length = n := ⟨_, rfl⟩
  have HN := hid hnn
  have HLn := hid (HL.out n hnn)
  have HRd := hid hO.rd
  rw [hnn] at CF HK HP hn HRd
  have HC := hid (show n ≤ c by obtain ⟨b, o, c', e, _, h3, _⟩ := HRd.out.at_; cases e; exact h3)
  have hkn : k ≤ n := HK.out
  have hnc : n ≤ c := HC.out
  obtain ⟨⟨x0, x1⟩, x2, x3⟩ := g_boxT HP.out
  clear hP hO hz hk hT hnn HL hB
  cases hI : isR l id with
  | true =>
    have HE := hid (HLn.out.1 hI)
    rw [hI] at CF
    clear hI
    go_enter Tryz.func17, Tryz.ntmps17
    go_wp2_with fail
    refine CF.out.mono ?_
    rintro e w1 ⟨rfl, hb1⟩
    have HB1 := hid hb1
    clear hb1 CF
    go_wp2_with fail
    go_ret
    refine ⟨g, c, by rw [HE.out]; rfl, ?_, ?_, u_KeepB.of_below _ HB1.out, .inl ⟨rfl, by rw [HE.out]⟩⟩
    · rw [HE.out]
      simp only [HN.out]
      exact u_blk_below HP.out HB1.out
    · rw [HE.out]
      exact HO.out.below HB1.out
  | false =>
    have HEs := hid (And.intro (HLn.out.2.1 hI) (HLn.out.2.2 hI))
    rw [hI] at CF
    clear hI HLn
    go_enter Tryz.func17, Tryz.ntmps17
    go_wp2_with fail
    refine CF.out.mono ?_
    rintro e w1 ⟨rfl, hb1⟩
    have HB1 := hid hb1
    have HP1 := hid (u_blk_below HP.out hb1)
    clear hb1 CF x0 x1 x2 x3
    obtain ⟨⟨x0, x1⟩, x2, x3⟩ := g_boxT HP1.out
    by_cases hq : (n : Int) = m
    · have HE := hid (HEs.out.1 hq)
      have hqb : ((n : Int) == m) = true := by simpa using hq
      clear hq
      go_wp2_with fail
      go_quiet (fail)
      go_wp2_with fail
      go_ret
      refine ⟨g, c, by rw [HE.out]; rfl, ?_, ?_, u_KeepB.of_below _ (below_drewN HB1.out _), .inl ⟨rfl, by rw [HE.out]⟩⟩
      · rw [HE.out]
        simp only [HN.out]
        exact HP1.out
      · rw [HE.out]
        exact HO.out.below (below_drewN HB1.out _)
    · have HE := hid (HEs.out.2 hq)
      have hqb : ((n : Int) == m) = false := by simpa using hq
      have hkI : (k : Int) ≤ (n : Int) := by omega
      have hncI : (n : Int) ≤ (c : Int) := by omega
      clear hq
      go_wp2_with fail
      go_quiet (fail)
      generalize hwd : w1.drewN _ = wd
      have HBd := hid (show Below w.heap.size w wd by rw [← hwd]; exact below_drewN HB1.out _)
      have HPd := hid (show wd.heap[P]? = some (.cells #[v0, v1, v2, v3, .int .i64 m, .slice (some ⟨g, 0, none⟩) n c, v6, v7] 34 (0, 0)) by rw [← hwd]; exact HP1.out)
      clear hwd x0 x1 x2 x3 HP1 HB1
      obtain ⟨⟨x0, x1⟩, x2, x3⟩ := g_boxT HPd.out
      have HRd' := hid (HRd.out.below HBd.out)
      have HRF := hid (HRd'.out.from hkn)
      have HRU := hid (HRd'.out.upto hkn)
      rw [roC_drop] at HRF
      rw [roC_take] at HRU
      have hfr := sl_fromR g 0 n c k hkn hnc
      have hup := sl_uptoR g 0 n c k hkn hnc
      simp only [Nat.zero_add] at hfr HRF
      obtain ⟨i0, hi0, hz0, hz1, hz2⟩ := info_parts infoRoW
      have HI := hid (And.intro hi0 (And.intro hz0 (And.intro hz1 hz2)))
      clear hi0 hz0 hz1 hz2
      generalize (if c = k then (⟨g, 0, none⟩ : Addr) else ⟨g, k * 2, none⟩) = A1 at *
      have HB1 := hid ((Below.refl wd.heap.size wd).alloc (Nat.le_refl _) (.cells #[] 78))
      have HO1 := hid (u_own_new wd 78 2)
      have HF1 := hid (HRF.out.below HB1.out)
      obtain ⟨⟨p0, p1⟩, p2, p3⟩ := g_boxT (u_blk_below HPd.out HB1.out)
      go_wp2_with (at_builtin; refine u_wpL_own _ rfl _ _ _ rfl 78 i0 _ 2 24 Tryz.underlying30 HI.out.1 HI.out.2.1 HI.out.2.2.1 HI.out.2.2.2 rfl (by decide) wd.heap.size wd.heap.size 0 0 (n - k) [] (roC (l.drop k)) _ rfl rfl HO1.out HF1.out (roC_one _) (by omega) (by omega) HB1.out.size (n - k) (by omega) (roC (l.drop k)) rfl ?_)
      intro g2 c2 w2 ho2 hb2
      have HB2 := hid (HB1.out.trans hb2)
      have HRS := hid (u_Rd.own ho2)
      have HP2 := hid (u_blk_below HPd.out HB2.out)
      clear ho2 hb2 HO1 HF1 p0 p1 p2 p3 hfr
      obtain ⟨⟨p0, p1⟩, p2, p3⟩ := g_boxT HP2.out
      have HB3 := hid ((Below.refl w2.heap.size w2).alloc (Nat.le_refl _) (.cells #[] 78))
      obtain ⟨⟨q0, q1⟩, q2, q3⟩ := g_boxT (u_blk_below HP2.out HB3.out)
      have HO3 := hid (u_own_new w2 78 2)
      have HU3 := hid ((HRU.out.below HB2.out).below HB3.out)
      go_wp2_with (at_builtin; refine u_wpL_own _ rfl _ _ _ rfl 78 i0 _ 2 24 Tryz.underlying30 HI.out.1 HI.out.2.1 HI.out.2.2.1 HI.out.2.2.2 rfl (by decide) w2.heap.size w2.heap.size 0 0 k [] (roC (l.take k)) _ rfl rfl HO3.out HU3.out (roC_one _) (by omega) (by omega) HB3.out.size k (by omega) (roC (l.take k)) rfl ?_)
      intro g4 c4 w4 ho4 hb4
      have HB4 := hid (HB3.out.trans hb4)
      have HO4 := hid ho4
      clear ho4 hb4 hup HO3 HU3 p0 p1 p2 p3 q0 q1 q2 q3
      have HB5 := hid ((Below.refl w4.heap.size w4).alloc (Nat.le_refl _) (.cells #[.string id, .int .i64 til] 78))
      have HO5 := hid (ownsRow_below HO4.out HB5.out)
      have HN5 := hid (u_Rd.new w4 78 2 (roC [⟨id, til⟩]) 1 rfl)
      go_wp2_with (at_builtin; refine u_wpL_own _ rfl _ _ _ rfl 78 i0 _ 2 24 Tryz.underlying30 HI.out.1 HI.out.2.1 HI.out.2.2.1 HI.out.2.2.2 rfl (by decide) w2.heap.size g4 c4 k 1 (roC (l.take k)) (roC [⟨id, til⟩]) _ rfl rfl HO5.out HN5.out (roC_one _) (by omega) (by omega) (Nat.le_trans HB4.out.size HB5.out.size) (k + 1) rfl (roC (l.take k ++ [⟨id, til⟩])) (by rw [roC_app]) ?_)
      intro g6 c6 w6 ho6 hb6
      have HB6 := hid ((HB4.out.trans (HB5.out.mono HB4.out.size)).trans hb6)
      have HO6 := hid ho6
      have HR6 := hid (HRS.out.below HB6.out)
      clear ho6 hb6 HO5 HN5 HO4
      go_wp2_with (at_builtin; refine u_wpL_own _ rfl _ _ _ rfl 78 i0 _ 2 24 Tryz.underlying30 HI.out.1 HI.out.2.1 HI.out.2.2.1 HI.out.2.2.2 rfl (by decide) w2.heap.size g6 c6 (k + 1) (n - k) (roC (l.take k ++ [⟨id, til⟩])) (roC (l.drop k)) _ rfl rfl HO6.out HR6.out (roC_one _) (by omega) (by omega) HB6.out.size (n + 1) (by omega) (roC (insR l k ⟨id, til⟩)) (by rw [← roC_app, List.append_assoc]; rfl) ?_)
      intro g8 c8 w8 ho8 hb8
      have HB8 := hid (HB2.out.trans ((HB6.out.trans hb8).mono HB2.out.size))
      have HP8 := hid (u_blk_below HPd.out HB8.out)
      have HGe := hid (show wd.heap.size ≤ g8 from Nat.le_trans HB2.out.size (ho8.lt _ rfl).1)
      have HO8 := hid ho8
      clear ho8 hb8
      obtain ⟨⟨p0, p1⟩, p2, p3⟩ := g_boxT HP8.out
      have HLN := hid (show (insR l k ⟨id, til⟩).length = n + 1 by rw [insR_len _ _ _ (by rw [HN.out]; exact hkn), HN.out])
      go_wp2_with fail
      go_ret
      have hPl : P < wd.heap.size := lt_of_heap HPd.out
      have hne : (Value.slice (some ⟨g8, 0, none⟩) (n + 1) c8).ownBlock ≠ some P := fun e => by
        have h1 := HGe.out
        have h2 : g8 = P := Option.some.inj e
        omega
      refine ⟨g8, c8, by rw [HE.out]; rfl, ?_, ?_, ?_, .inr (Nat.le_trans HBd.out.size HGe.out)⟩
      · rw [HE.out]
        simp only [HLN.out]
        have := u_heap_set (i := 5) HP8.out (.slice (some ⟨g8, 0, none⟩) (n + 1) c8)
        simpa using this
      · rw [HE.out]
        unfold RoOwn
        simp only [HLN.out]
        refine u_own_set (u_own_base HO8.out ?_) hne _ _
        have h1 := HBd.out.size
        have h2 := HB2.out.size
        have h3 := HBB.out
        omega
      · refine (u_KeepB.of_below _ HBd.out).trans ((u_KeepB.of_below _ HB8.out).trans ?_)
        exact u_KeepB.of_set _ _ _ rfl

end Go.Proofs.YtnjepdggefchnaaGreatDoor
