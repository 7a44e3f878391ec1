/- The specification's l17Copy and NewGate. The specification's NewGate. The specification's l17Copy, its first table told with its room. -/
import Derived.Test.YtgdfeicojgnoaaaGreatDoorM12
import Derived.Test.YtgdfeicojgnoaaaGreatDoorM7
namespace Go.Proofs.YtgdfeicojgnoaaaGreatDoor
open Go.RowKit
set_option linter.unusedVariables false
set_option linter.unusedSimpArgs false

theorem g_wpL_app {P : Program} (w : World) {ops : Array Oper} {rest : List Oper} {o : Oper} {a : Act} {Q : Exit → Act → World → Prop} (hgd : o.guard = none) (d s : Operand) (t t' : TypeId)
    (ho : o.op = .call { callee := .builtin .append, args := #[d, s], argTypes := #[t, t'] }) (v u : Value) (hd : a.eval d = v) (hs : a.eval s = u) {v' : Value} {w' : World}
    (hr : (Builtin.append_ #[t, t'] o.type #[v, u]).run P w = .ok v' w') (h : wpList P ops Q rest (a.put o.dst v') w') : wpList P ops Q (o :: rest) a w := by
  refine wpList_plain hgd fun K hK => ?_
  unfold Oper.wp
  simp [execOp, ho, resolve, invoke, builtin, hd, hs, hr, Result.andThen]
  exact hK _ _ h

/-- Hands appended to none, as a run. -/
theorem hd_cat {a : Option Addr} {n c : Nat} {l : List Hd} {W : World} (hS : u_Sr W 4 (.slice a n c) n (hdC l)) (hn : n ≤ 1048576) :
    ∃ g' c' w8, (Builtin.append_ #[24, 24] 24 #[.slice (some ⟨W.heap.size, 0, none⟩) 0 0, .slice a n c]).run Tryz.prog (W.alloc (.cells #[] 72)) = .ok (.slice (some ⟨g', 0, none⟩) n c') w8
      ∧ w8.ownsRow W.heap.size 72 4 (.slice (some ⟨g', 0, none⟩) n c') n (hdC l) ∧ Below W.heap.size W w8 := by
  obtain ⟨i0, hi0, hz0, hz1, hz2⟩ := info_parts infoHd
  have hb := (Below.refl W.heap.size W).alloc (Nat.le_refl _) (.cells #[] 72)
  have hown := u_own_new W 72 4
  have hS2 := hS.below hb
  obtain ⟨ax, cx, e, hpos⟩ := hS2.at_
  cases e
  rcases Nat.eq_zero_or_pos n with h0 | h0
  · subst h0
    have hnews : hdC l = [] := List.eq_nil_of_length_eq_zero (by rw [hS2.len, Nat.zero_mul])
    have hsrc : Src Tryz.prog i0.size 24 (.slice a 0 c) 0 [] (W.alloc (.cells #[] 72)) := by
      cases a with
      | none => exact Src.ofNil _ Tryz.underlying24 c
      | some ad => exact Src.ofSlice _ Tryz.underlying24 ad 0 c [] (by simp) (fun j u h => by simp at h) (fun u h => by cases h)
    have hr := run_append_nothing (P := Tryz.prog) (W.alloc (.cells #[] 72)) 24 24 24 72 i0 Tryz.underlying24 hi0 (some ⟨W.heap.size, 0, none⟩) 0 0 (Nat.le_refl 0) _ hsrc
    rw [hnews]
    exact ⟨W.heap.size, 0, _, hr, hown, hb⟩
  · obtain ⟨b, o', rfl, hbl, hcs⟩ := hpos h0
    obtain ⟨v', w', hrun, r1, r2, _, r3⟩ := run_append_own_at (P := Tryz.prog) (W.alloc (.cells #[] 72)) W.heap.size 24 24 72 i0 _ 4 40 Tryz.underlying24 hi0 hz0 hz1 hz2 rfl (by decide) _ 0 [] hown ⟨b, o', none⟩ n c (hdC l) hS2.len (fun j u hj => by rw [u_add_plainW]; exact hcs j u hj) (hdC_one l) (by unfold maxLen; omega) (by omega) hb.size
    rw [Nat.zero_add, List.nil_append] at r1
    rcases r1.2 with ⟨e1, e2⟩ | ⟨g', cap', cur, e1, _⟩
    · omega
    · subst e1
      exact ⟨g', cap', w', hrun, r1, hb.grown r2 hb.size (fun k e => (hown.lt k e).1)⟩

set_option maxRecDepth 8000 in
set_option maxHeartbeats 8000000 in
theorem cGateCopyS (g : Gt) (ah : Option Addr) (ch : Nat) (aa : Option Addr) (ca : Nat) (ar : Option Addr) (cr : Nat) (w : World) (hR : GtRow w g ah aa ar) (hn1 : g.hands.length ≤ 100000) (hn2 : g.ask.rows.length ≤ 100000) (hn3 : g.hrd.rows.length ≤ 100000) :
    Calls Tryz.prog 32 #[gtV g ah ch aa ca ar cr] w fun e w' => ∃ ah' ch' aa' ca' ar' cr', e = .returned (gtV g ah' ch' aa' ca' ar' cr') ∧ GtOwn w' w.heap.size g ah' aa' ar' ∧ Below w.heap.size w w' := by
  have CA := hid (fun wx (h : Below w.heap.size w wx) => cCopyS g.ask aa ca wx (hR.2.1.below h) hn2)
  have CR := hid (fun wx (h : Below w.heap.size w wx) => cCopyS g.hrd ar cr wx (hR.2.2.below h) hn3)
  have CC := hid (fun wx (h : Below w.heap.size w wx) => hd_cat ((hR.1.below h).sr (n := g.hands.length) (c := ch) rfl) (Nat.le_trans hn1 (by decide)))
  have HFIN := hid (fun (w1 w2 w3 wz : World) (B1 B2 B3 : Nat) (a1 a2 a3 : Nat) (c1 c2 c3 : Nat) (h1 : w1.ownsRow B1 72 4 (.slice (some ⟨a1, 0, none⟩) g.hands.length c1) g.hands.length (hdC g.hands)) (k1 : ∀ b, B1 ≤ b → b < w1.heap.size → wz.heap[b]? = w1.heap[b]?) (h2 : w2.ownsRow B2 83 2 (.slice (some ⟨a2, 0, none⟩) g.ask.rows.length c2) g.ask.rows.length (roC g.ask.rows)) (k2 : ∀ b, B2 ≤ b → b < w2.heap.size → wz.heap[b]? = w2.heap[b]?) (hB : w2.heap.size ≤ B3) (h3 : w3.ownsRow B3 83 2 (.slice (some ⟨a3, 0, none⟩) g.hrd.rows.length c3) g.hrd.rows.length (roC g.hrd.rows)) (k3 : ∀ b, B3 ≤ b → b < w3.heap.size → wz.heap[b]? = w3.heap[b]?) (Bx : Nat) (q1 : Bx ≤ B1) (q2 : Bx ≤ B2) (q3 : Bx ≤ B3) => (show GtOwn wz Bx g (some ⟨a1, 0, none⟩) (some ⟨a2, 0, none⟩) (some ⟨a3, 0, none⟩) from by
    obtain ⟨a, c, e, o1⟩ := own_hd h1 rfl
    cases e
    obtain ⟨a, c, e, o2⟩ := own_ro h2 rfl
    cases e
    obtain ⟨a, c, e, o3⟩ := own_ro h3 rfl
    cases e
    refine ⟨fun hl => ?_, fun hl => ?_, fun hl => ?_, apart_of o2 hB o3⟩
    · obtain ⟨y, o, cu, e1, e2, e3, e4⟩ := o1 hl
      exact ⟨y, o, cu, e1, Nat.le_trans q1 e2, (k1 y e2 (lt_of_heap e3)).trans e3, e4⟩
    · obtain ⟨y, o, cu, e1, e2, e3, e4⟩ := o2 hl
      exact ⟨y, o, cu, e1, Nat.le_trans q2 e2, (k2 y e2 (lt_of_heap e3)).trans e3, e4⟩
    · obtain ⟨y, o, cu, e1, e2, e3, e4⟩ := o3 hl
      exact ⟨y, o, cu, e1, Nat.le_trans q3 e2, (k3 y e2 (lt_of_heap e3)).trans e3, e4⟩))
  unfold RoOwn at CA CR
  unfold gtV
  unfold tbV at CA CR
  clear hR hn1 hn2 hn3
  generalize g.name = x at *
  generalize g.skew = sk at *
  generalize g.now = nw at *
  generalize g.ask.most = am at *
  generalize g.hrd.most = rm at *
  generalize g.hands.length = nh at *
  generalize g.ask.rows.length = na at *
  generalize g.hrd.rows.length = nr at *
  obtain ⟨b1, b2, b3⟩ := u_heap3 w (.cells #[.string x, .slice ah nh ch, .int .i64 sk, .int .i64 nw, .int .i64 am, .slice aa na ca, .int .i64 rm, .slice ar nr cr] 29) (.cells #[.string ⟨#[]⟩, .slice none 0 0, .int .i64 0, .int .i64 0, .int .i64 0, .slice none 0 0, .int .i64 0, .slice none 0 0] 29) (.cells #[.string x, .slice ah nh ch, .int .i64 sk, .int .i64 nw, .int .i64 am, .slice aa na ca, .int .i64 rm, .slice ar nr cr] 29)
  have HB0 := hid ((((Below.refl w.heap.size w).alloc (Nat.le_refl _) (.cells #[.string x, .slice ah nh ch, .int .i64 sk, .int .i64 nw, .int .i64 am, .slice aa na ca, .int .i64 rm, .slice ar nr cr] 29)).alloc (by simp) (.cells #[.string ⟨#[]⟩, .slice none 0 0, .int .i64 0, .int .i64 0, .int .i64 0, .slice none 0 0, .int .i64 0, .slice none 0 0] 29)).alloc (by simp; omega) (.cells #[.string x, .slice ah nh ch, .int .i64 sk, .int .i64 nw, .int .i64 am, .slice aa na ca, .int .i64 rm, .slice ar nr cr] 29))
  have HSZ := hid (show (((w.alloc (.cells #[.string x, .slice ah nh ch, .int .i64 sk, .int .i64 nw, .int .i64 am, .slice aa na ca, .int .i64 rm, .slice ar nr cr] 29)).alloc (.cells #[.string ⟨#[]⟩, .slice none 0 0, .int .i64 0, .int .i64 0, .int .i64 0, .slice none 0 0, .int .i64 0, .slice none 0 0] 29)).alloc (.cells #[.string x, .slice ah nh ch, .int .i64 sk, .int .i64 nw, .int .i64 am, .slice aa na ca, .int .i64 rm, .slice ar nr cr] 29)).heap.size = w.heap.size + 3 by simp)
  obtain ⟨W0, hW0⟩ : ∃ W0, ((w.alloc (.cells #[.string x, .slice ah nh ch, .int .i64 sk, .int .i64 nw, .int .i64 am, .slice aa na ca, .int .i64 rm, .slice ar nr cr] 29)).alloc (.cells #[.string ⟨#[]⟩, .slice none 0 0, .int .i64 0, .int .i64 0, .int .i64 0, .slice none 0 0, .int .i64 0, .slice none 0 0] 29)).alloc (.cells #[.string x, .slice ah nh ch, .int .i64 sk, .int .i64 nw, .int .i64 am, .slice aa na ca, .int .i64 rm, .slice ar nr cr] 29) = W0 := ⟨_, rfl⟩
  rw [hW0] at b1 b2 b3 HB0 HSZ
  obtain ⟨B, hB⟩ : ∃ B, w.heap.size = B := ⟨_, rfl⟩
  have HBB := hid hB
  rw [hB] at b1 b2 b3 HSZ
  have H1 := hid b1
  have H2 := hid b2
  have H3 := hid b3
  have HW0 := hid hW0
  clear b1 b2 b3 hW0
  obtain ⟨g1, c1, w1, hrun, ho1, hb1⟩ := CC.out W0 HB0.out
  have HRUN := hid hrun
  have HO1 := hid ho1
  have HA1 := hid (bb HB0.out hb1)
  have K1 := hid (u_blk_below H1.out hb1)
  have K2 := hid (u_blk_below H2.out hb1)
  have K3 := hid (u_blk_below H3.out hb1)
  have HS1 := hid hb1.size
  clear hrun ho1 hb1 CC
  go_enter Tryz.func32, Tryz.ntmps32
  go_upto_region 2 with fail
  rw [HW0.out]
  clear HW0
  obtain ⟨⟨x0, x1, x2, x3, x4, x5, x6, x7⟩, _⟩ := g_box8f (u_blk_below H1.out ((Below.refl W0.heap.size W0).alloc (Nat.le_refl _) (.cells #[] 72)))
  obtain ⟨⟨z0, z1, z2, z3, z4, z5, z6, z7⟩, zf⟩ := g_box8f K3.out
  have zf1 := zf 1
  clear zf
  have HLB := hid (show B + 2 < W0.heap.size from lt_of_heap H3.out)
  have HC1 := hid (HA1.out.setCell (p := ⟨B + 2, 1, none⟩) (by rw [hB]; (try dsimp only); omega) (.slice (some ⟨g1, 0, none⟩) nh c1))
  have D1 := hid ((Below.heap_setCell w1 ⟨B + 2, 1, none⟩ (.slice (some ⟨g1, 0, none⟩) nh c1) B (by (try dsimp only); omega)).trans K1.out)
  have D2 := hid ((Below.heap_setCell w1 ⟨B + 2, 1, none⟩ (.slice (some ⟨g1, 0, none⟩) nh c1) (B + 1) (by (try dsimp only); omega)).trans K2.out)
  have D3 := hid (show (w1.setCell ⟨B + 2, 1, none⟩ (.slice (some ⟨g1, 0, none⟩) nh c1)).heap[B + 2]? = some (.cells #[.string x, .slice (some ⟨g1, 0, none⟩) nh c1, .int .i64 sk, .int .i64 nw, .int .i64 am, .slice aa na ca, .int .i64 rm, .slice ar nr cr] 29 (0, 0)) from (u_heap_set K3.out _).trans rfl)
  have DO1 := hid (fun b (h : W0.heap.size ≤ b) => Below.heap_setCell w1 ⟨B + 2, 1, none⟩ (.slice (some ⟨g1, 0, none⟩) nh c1) b (by (try dsimp only); have := HLB.out; omega))
  have DS1 := hid (show (w1.setCell ⟨B + 2, 1, none⟩ (.slice (some ⟨g1, 0, none⟩) nh c1)).heap.size = w1.heap.size by simp)
  obtain ⟨⟨p0, p1, p2, p3, p4, p5, p6, p7⟩, _⟩ := g_box8f D1.out
  obtain ⟨W1, hW1⟩ : ∃ W, w1.setCell ⟨B + 2, 1, none⟩ (.slice (some ⟨g1, 0, none⟩) nh c1) = W := ⟨_, rfl⟩
  rw [hW1] at HC1 D1 D2 D3 DO1 DS1 p0 p1 p2 p3 p4 p5 p6 p7
  go_wp2_with (at_builtin; refine g_wpL_app _ rfl (.tmp 5) (.tmp 7) 24 24 rfl (.slice (some ⟨W0.heap.size, 0, none⟩) 0 0) (.slice ah nh ch) rfl rfl HRUN.out ?_)
  clear x0 x1 x2 x3 x4 x5 x6 x7 z0 z1 z2 z3 z4 z5 z6 z7 zf1 p0 p1 p2 p3 p4 p5 p6 p7 hW1 HRUN
  refine (CA.out _ HC1.out).mono ?_
  rintro e w2 ⟨g2, c2, rfl, ho2, hb2⟩
  have HO2 := hid ho2
  have HA2 := hid (bb HC1.out hb2)
  have E1 := hid (u_blk_below D1.out hb2)
  have E2 := hid (u_blk_below D2.out hb2)
  have E3 := hid (u_blk_below D3.out hb2)
  have HS2 := hid hb2.size
  have KO1 := hid (fun b (h : W0.heap.size ≤ b) (h2 : b < w1.heap.size) => (hb2.block b (by rw [DS1.out]; exact h2)).trans (DO1.out b h))
  have HLW1 := hid (show W0.heap.size ≤ W1.heap.size by rw [DS1.out]; exact HS1.out)
  clear ho2 hb2 HC1 D1 D2 D3 DO1 K1 K2 K3 HA1 CA
  obtain ⟨⟨x0, x1, x2, x3, x4, x5, x6, x7⟩, _⟩ := g_box8f E1.out
  obtain ⟨⟨z0, z1, z2, z3, z4, z5, z6, z7⟩, zf⟩ := g_box8f E3.out
  have zf4 := zf 4
  have zf5 := zf 5
  clear zf
  have HC2 := hid (show Below w.heap.size w ((w2.setCell ⟨B + 2, 4, none⟩ (.int .i64 am)).setCell ⟨B + 2, 5, none⟩ (.slice (some ⟨g2, 0, none⟩) na c2)) from by
    iterate 2 refine Below.setCell ?_ (by rw [hB]; (try dsimp only); omega) _
    exact HA2.out)
  have other2 : ∀ b, ¬ b = B + 2 → ((w2.setCell ⟨B + 2, 4, none⟩ (.int .i64 am)).setCell ⟨B + 2, 5, none⟩ (.slice (some ⟨g2, 0, none⟩) na c2)).heap[b]? = w2.heap[b]? := fun b hne => by
    iterate 2 refine (Below.heap_setCell _ _ _ _ (by (try dsimp only); omega)).trans ?_
    rfl
  have D1 := hid ((other2 B (by omega)).trans E1.out)
  have D2 := hid ((other2 (B + 1) (by omega)).trans E2.out)
  have D3 := hid (show ((w2.setCell ⟨B + 2, 4, none⟩ (.int .i64 am)).setCell ⟨B + 2, 5, none⟩ (.slice (some ⟨g2, 0, none⟩) na c2)).heap[B + 2]? = some (.cells #[.string x, .slice (some ⟨g1, 0, none⟩) nh c1, .int .i64 sk, .int .i64 nw, .int .i64 am, .slice (some ⟨g2, 0, none⟩) na c2, .int .i64 rm, .slice ar nr cr] 29 (0, 0)) from (u_heap_set (u_heap_set E3.out _) _).trans rfl)
  have DO2 := hid (fun b (h : W0.heap.size ≤ b) => other2 b (by have := HLB.out; omega))
  have DS2 := hid (show ((w2.setCell ⟨B + 2, 4, none⟩ (.int .i64 am)).setCell ⟨B + 2, 5, none⟩ (.slice (some ⟨g2, 0, none⟩) na c2)).heap.size = w2.heap.size by simp)
  clear other2
  obtain ⟨⟨p0, p1, p2, p3, p4, p5, p6, p7⟩, _⟩ := g_box8f D1.out
  obtain ⟨W2, hW2⟩ : ∃ W, ((w2.setCell ⟨B + 2, 4, none⟩ (.int .i64 am)).setCell ⟨B + 2, 5, none⟩ (.slice (some ⟨g2, 0, none⟩) na c2)) = W := ⟨_, rfl⟩
  rw [hW2] at HC2 D1 D2 D3 DO2 DS2 p0 p1 p2 p3 p4 p5 p6 p7
  go_wp2_with fail
  clear x0 x1 x2 x3 x4 x5 x6 x7 z0 z1 z2 z3 z4 z5 z6 z7 zf4 zf5 p0 p1 p2 p3 p4 p5 p6 p7 hW2
  refine (CR.out _ HC2.out).mono ?_
  rintro e w3 ⟨g3, c3, rfl, ho3, hb3⟩
  have HO3 := hid ho3
  have HA3 := hid (bb HC2.out hb3)
  have E2 := hid (u_blk_below D2.out hb3)
  have E3 := hid (u_blk_below D3.out hb3)
  have HW23 := hid (show w2.heap.size ≤ W2.heap.size by rw [DS2.out]; exact Nat.le_refl _)
  have HL3 := hid (show W0.heap.size ≤ W2.heap.size by rw [DS2.out]; exact Nat.le_trans HLW1.out HS2.out)
  have KO2 := hid (fun b (h : W0.heap.size ≤ b) (h2 : b < w2.heap.size) => (hb3.block b (by rw [DS2.out]; exact h2)).trans (DO2.out b h))
  have KO12 := hid (fun b (h : W0.heap.size ≤ b) (h2 : b < w1.heap.size) => (KO2.out b h (Nat.lt_of_lt_of_le h2 (by have := HS2.out; rw [DS1.out] at this; exact this))).trans (KO1.out b h h2))
  clear ho3 hb3 HC2 D1 D2 D3 DO2 HA2 CR E1
  obtain ⟨⟨y0, y1, y2, y3, y4, y5, y6, y7⟩, yf⟩ := g_box8f E2.out
  obtain ⟨⟨z0, z1, z2, z3, z4, z5, z6, z7⟩, zf⟩ := g_box8f E3.out
  have zf6 := zf 6
  have zf7 := zf 7
  have yf0 := yf 0
  have yf1 := yf 1
  have yf2 := yf 2
  have yf3 := yf 3
  have yf4 := yf 4
  have yf5 := yf 5
  have yf6 := yf 6
  have yf7 := yf 7
  clear zf yf
  go_wp2_with fail
  refine bodyPost_ret (v := .agg #[.string x, .slice (some ⟨g1, 0, none⟩) nh c1, .int .i64 sk, .int .i64 nw, .int .i64 am, .slice (some ⟨g2, 0, none⟩) na c2, .int .i64 rm, .slice (some ⟨g3, 0, none⟩) nr c3]) (by simp [results, Tryz.results32, go_sem, y0, y1, y2, y3, y4, y5, y6, y7, z0, z1, z2, z3, z4, z5, z6, z7]) rfl ⟨_, _, _, _, _, _, rfl, ?_, ?_⟩
  · refine HFIN.out w1 w2 w3 _ W0.heap.size W1.heap.size W2.heap.size g1 g2 g3 c1 c2 c3 HO1.out (fun b h1 h2 => ?_) HO2.out (fun b h1 h2 => ?_) HW23.out HO3.out (fun b h1 h2 => ?_) w.heap.size (Nat.le_trans (by rw [hB]; have := HLB.out; omega) (Nat.le_refl _)) ?_ ?_
    · iterate 10 refine (Below.heap_setCell _ _ _ _ (by (try dsimp only); have := HLB.out; omega)).trans ?_
      exact KO12.out b h1 h2
    · iterate 10 refine (Below.heap_setCell _ _ _ _ (by (try dsimp only); have := HLB.out; have := HLW1.out; omega)).trans ?_
      exact KO2.out b (Nat.le_trans HLW1.out h1) h2
    · iterate 10 refine (Below.heap_setCell _ _ _ _ (by (try dsimp only); have := HLB.out; have := HL3.out; omega)).trans ?_
      rfl
    · rw [hB]; have := HLB.out; have := HLW1.out; omega
    · rw [hB]; have := HLB.out; have := HL3.out; omega
  · iterate 10 refine Below.setCell ?_ (by rw [hB]; (try dsimp only); omega) _
    exact HA3.out

end Go.Proofs.YtgdfeicojgnoaaaGreatDoor

namespace Go.Proofs.YtgdfeicojgnoaaaGreatDoor
open Go.RowKit
set_option linter.unusedVariables false
set_option linter.unusedSimpArgs false

set_option maxRecDepth 8000 in
set_option maxHeartbeats 8000000 in
theorem cNewGateS (x : ByteArray) (l : List Hd) (ah : Option Addr) (ch : Nat) (sk most : Int) (w : World) (hR : HdRow w ah l) (hz : HdSz 1048576 l) (hn : l.length ≤ 1048576) (hx : x.size ≤ 1048576) :
    Calls Tryz.prog 93 #[.string x, .slice ah l.length ch, .int .i64 sk, .int .i64 most] w fun e w' => ∃ ah' ch' aa' ca' ar' cr', e = .returned (.tuple #[gtV (newG x l sk most).1 ah' ch' aa' ca' ar' cr', .bool (newG x l sk most).2]) ∧ GtOwn w' w.heap.size (newG x l sk most).1 ah' aa' ar' ∧ Below w.heap.size w w' := by
  have hsz : GtSz 1048576 (askG x l sk most) := ⟨hx, hz, hn, fun y hy => absurd hy (List.not_mem_nil), Nat.zero_le _, fun y hy => absurd hy (List.not_mem_nil), Nat.zero_le _⟩
  have hrow : ∀ wx, Below w.heap.size w wx → GtRow wx (askG x l sk most) ah none none := fun wx h => ⟨hR.below h, RoRow.nil _ _, RoRow.nil _ _⟩
  have CO := hid (fun wx (h : Below w.heap.size w wx) => cGateOkS (askG x l sk most) ah ch none 0 none 0 wx (hrow wx h) hsz)
  have CC := hid (fun (hg : gateB (askG x l sk most) = true) wx (h : Below w.heap.size w wx) => cGateCopyS (askG x l sk most) ah ch none 0 none 0 wx (hrow wx h) (show l.length ≤ 100000 from Nat.le_trans (show l.length ≤ 4 from gateB_hands hg) (by decide)) (Nat.zero_le _) (Nat.zero_le _))
  have HNF := hid (fun (h : gateB (askG x l sk most) = false) => (show newG x l sk most = (zeroG, false) from if_neg (by rw [h]; exact Bool.false_ne_true)))
  have HNT := hid (fun (h : gateB (askG x l sk most) = true) => (show newG x l sk most = (askG x l sk most, true) from if_pos h))
  obtain ⟨N0, hN0⟩ : ∃ N, newG x l sk most = N := ⟨_, rfl⟩
  rw [hN0]
  simp only [hN0] at HNF HNT
  clear hN0 hsz hrow hR hz hn hx
  obtain ⟨G, hG⟩ : ∃ G, askG x l sk most = G := ⟨_, rfl⟩
  have HGV := hid (show ∀ a1 c1 a2 c2 a3 c3, gtV G a1 c1 a2 c2 a3 c3 = .agg #[.string x, .slice a1 l.length c1, .int .i64 sk, .int .i64 0, .int .i64 most, .slice a2 0 c2, .int .i64 most, .slice a3 0 c3] from fun a1 c1 a2 c2 a3 c3 => by rw [← hG]; rfl)
  rw [hG] at CO CC HNF HNT
  rw [HGV.out] at CO
  simp only [HGV.out] at CC
  clear hG
  obtain ⟨V, hV⟩ : ∃ V, gateB G = V := ⟨_, rfl⟩
  rw [hV] at CO CC HNF HNT
  clear hV
  have HL0 := hid (show ∀ wx, GtOwn wx w.heap.size zeroG none none none from fun wx => ⟨OwnHd.nil _ _ _, OwnRo.nil _ _ _, OwnRo.nil _ _ _, fun h => absurd h (Nat.lt_irrefl 0)⟩)
  generalize l.length = n at *
  have HZ := hid (heap_alloc_new w (.cells #[.string ⟨#[]⟩, .slice none 0 0, .int .i64 0, .int .i64 0, .int .i64 0, .slice none 0 0, .int .i64 0, .slice none 0 0] 29))
  have HB0 := hid ((Below.refl w.heap.size w).alloc (Nat.le_refl _) (.cells #[.string ⟨#[]⟩, .slice none 0 0, .int .i64 0, .int .i64 0, .int .i64 0, .slice none 0 0, .int .i64 0, .slice none 0 0] 29))
  obtain ⟨W0, hW0⟩ : ∃ W0, w.alloc (.cells #[.string ⟨#[]⟩, .slice none 0 0, .int .i64 0, .int .i64 0, .int .i64 0, .slice none 0 0, .int .i64 0, .slice none 0 0] 29) = W0 := ⟨_, rfl⟩
  rw [hW0] at HZ HB0
  obtain ⟨R, hRR⟩ : ∃ R, w.heap.size = R := ⟨_, rfl⟩
  rw [hRR] at HZ
  have HRL := hid (lt_of_heap HZ.out)
  have HTg := hid (heap_alloc_new W0 (.cells #[.string x, .slice ah n ch, .int .i64 sk, .int .i64 0, .int .i64 most, .slice none 0 0, .int .i64 most, .slice none 0 0] 29))
  have HA := hid ((Below.refl W0.heap.size W0).alloc (Nat.le_refl _) (.cells #[.string x, .slice ah n ch, .int .i64 sk, .int .i64 0, .int .i64 most, .slice none 0 0, .int .i64 most, .slice none 0 0] 29))
  obtain ⟨W1, hW1⟩ : ∃ W, W0.alloc (.cells #[.string x, .slice ah n ch, .int .i64 sk, .int .i64 0, .int .i64 most, .slice none 0 0, .int .i64 most, .slice none 0 0] 29) = W := ⟨_, rfl⟩
  obtain ⟨P, hP⟩ : ∃ P, W0.heap.size = P := ⟨_, rfl⟩
  rw [hW1] at HTg HA
  rw [hP] at HTg
  have HBe := hid (bb HB0.out HA.out)
  have HZe := hid (u_blk_below HZ.out HA.out)
  have HW0 := hid hW0
  have HW1 := hid hW1
  clear hW0 hW1 HB0 HZ HA
  obtain ⟨⟨f0, f1, f2, f3, f4, f5, f6, f7⟩, _⟩ := g_box8f (show (W0.alloc (.cells #[.string x, .slice ah n ch, .int .i64 sk, .int .i64 0, .int .i64 most, .slice none 0 0, .int .i64 most, .slice none 0 0] 29)).heap[P]? = _ from by rw [HW1.out]; exact HTg.out)
  go_enter Tryz.func93, Tryz.ntmps93
  go_upto_region 1 with fail
  rw [HW0.out]
  clear HW0
  go_wp2_with fail
  rw [HW1.out]
  clear HW1 hP f0 f1 f2 f3 f4 f5 f6 f7
  refine (CO.out _ HBe.out).mono ?_
  rintro e w3 ⟨rfl, hb3⟩
  have HBf := hid (bb HBe.out hb3)
  have HZf := hid (u_blk_below HZe.out hb3)
  have HTh := hid (u_blk_below HTg.out hb3)
  clear hb3 HBe HZe HTg CO
  cases V with
  | false =>
    have HE := hid (HNF.out rfl)
    clear CC HNF HNT
    obtain ⟨⟨k0, k1, k2, k3, k4, k5, k6, k7⟩, kf⟩ := g_box8f HZf.out
    have kf0 := kf 0
    have kf1 := kf 1
    have kf2 := kf 2
    have kf3 := kf 3
    have kf4 := kf 4
    have kf5 := kf 5
    have kf6 := kf 6
    have kf7 := kf 7
    clear kf
    go_wp2_with fail
    refine bodyPost_ret (v := .tuple #[.agg #[.string ⟨#[]⟩, .slice none 0 0, .int .i64 0, .int .i64 0, .int .i64 0, .slice none 0 0, .int .i64 0, .slice none 0 0], .bool false]) (by simp [results, Tryz.results93, go_sem, k0, k1, k2, k3, k4, k5, k6, k7]) rfl ⟨none, 0, none, 0, none, 0, by rw [HE.out]; rfl, by rw [HE.out]; exact HL0.out _, ?_⟩
    iterate 8 refine Below.setCell ?_ (show w.heap.size ≤ R by omega) _
    exact HBf.out
  | true =>
    have HE := hid (HNT.out rfl)
    have C2 := hid (CC.out rfl)
    clear CC HNF HNT
    obtain ⟨⟨f0, f1, f2, f3, f4, f5, f6, f7⟩, _⟩ := g_box8f HTh.out
    go_wp2_with fail
    clear f0 f1 f2 f3 f4 f5 f6 f7
    refine (C2.out _ HBf.out).mono ?_
    rintro e w4 ⟨a1, c1, a2, c2, a3, c3, rfl, ho, hb4⟩
    have HBg := hid (bb HBf.out hb4)
    have HZg := hid (u_blk_below HZf.out hb4)
    have HO := hid ho
    have HRg := hid (show R < w3.heap.size from lt_of_heap HZf.out)
    clear ho hb4 C2 HBf HZf
    obtain ⟨⟨k0, k1, k2, k3, k4, k5, k6, k7⟩, kf⟩ := g_box8f HZg.out
    have kf0 := kf 0
    have kf1 := kf 1
    have kf2 := kf 2
    have kf3 := kf 3
    have kf4 := kf 4
    have kf5 := kf 5
    have kf6 := kf 6
    have kf7 := kf 7
    clear kf
    go_wp2_with fail
    refine bodyPost_ret (v := .tuple #[.agg #[.string x, .slice a1 n c1, .int .i64 sk, .int .i64 0, .int .i64 most, .slice a2 0 c2, .int .i64 most, .slice a3 0 c3], .bool true]) (by simp [results, Tryz.results93, go_sem, k0, k1, k2, k3, k4, k5, k6, k7]) rfl ⟨a1, c1, a2, c2, a3, c3, ?_, ?_, ?_⟩
    · rw [HE.out]
      simp only [HGV.out]
    · have h1 := own_set8 HO.out HRg.out (.string x) (.slice a1 n c1) (.int .i64 sk) (.int .i64 0) (.int .i64 most) (.slice a2 0 c2) (.int .i64 most) (.slice a3 0 c3)
      rw [HE.out]
      exact h1.mono (by have := HRg.out; omega)
    · iterate 8 refine Below.setCell ?_ (show w.heap.size ≤ R by omega) _
      exact HBg.out

end Go.Proofs.YtgdfeicojgnoaaaGreatDoor

namespace Go.Proofs.YtgdfeicojgnoaaaGreatDoor
open Go.RowKit
set_option linter.unusedVariables false
set_option linter.unusedSimpArgs false

theorem own_moved {w wz : World} {B Bx a c n : Nat} {xs : List Value} (h : w.ownsRow B 83 2 (.slice (some ⟨a, 0, none⟩) n c) n xs) (k : ∀ b, B ≤ b → b < w.heap.size → wz.heap[b]? = w.heap[b]?) (q : Bx ≤ B) : wz.ownsRow Bx 83 2 (.slice (some ⟨a, 0, none⟩) n c) n xs := by
  refine ⟨h.1, ?_⟩
  rcases h.2 with ⟨e, _⟩ | ⟨g, cp, cur, e, hg, hh, r⟩
  · cases e
  · exact .inr ⟨g, cp, cur, e, Nat.le_trans q hg, (k g hg (lt_of_heap hh)).trans hh, r⟩

set_option maxRecDepth 8000 in
set_option maxHeartbeats 8000000 in
theorem cGateCopyR (g : Gt) (ah : Option Addr) (ch : Nat) (aa : Option Addr) (ca : Nat) (ar : Option Addr) (cr : Nat) (w : World) (hR : GtRow w g ah aa ar) (hn1 : g.hands.length ≤ 100000) (hn2 : g.ask.rows.length ≤ 100000) (hn3 : g.hrd.rows.length ≤ 100000) :
    Calls Tryz.prog 32 #[gtV g ah ch aa ca ar cr] w fun e w' => ∃ ah' ch' ga' ca' gr' cr', e = .returned (gtV g ah' ch' (some ⟨ga', 0, none⟩) ca' (some ⟨gr', 0, none⟩) cr') ∧ (GtOwn w' w.heap.size g ah' (some ⟨ga', 0, none⟩) (some ⟨gr', 0, none⟩) ∧ RoOwn w' w.heap.size ga' ca' g.ask.rows) ∧ Below w.heap.size w w' := by
  have CA := hid (fun wx (h : Below w.heap.size w wx) => cCopyS g.ask aa ca wx (hR.2.1.below h) hn2)
  have CR := hid (fun wx (h : Below w.heap.size w wx) => cCopyS g.hrd ar cr wx (hR.2.2.below h) hn3)
  have CC := hid (fun wx (h : Below w.heap.size w wx) => hd_cat ((hR.1.below h).sr (n := g.hands.length) (c := ch) rfl) (Nat.le_trans hn1 (by decide)))
  have HFIN := hid (fun (w1 w2 w3 wz : World) (B1 B2 B3 : Nat) (a1 a2 a3 : Nat) (c1 c2 c3 : Nat) (h1 : w1.ownsRow B1 72 4 (.slice (some ⟨a1, 0, none⟩) g.hands.length c1) g.hands.length (hdC g.hands)) (k1 : ∀ b, B1 ≤ b → b < w1.heap.size → wz.heap[b]? = w1.heap[b]?) (h2 : w2.ownsRow B2 83 2 (.slice (some ⟨a2, 0, none⟩) g.ask.rows.length c2) g.ask.rows.length (roC g.ask.rows)) (k2 : ∀ b, B2 ≤ b → b < w2.heap.size → wz.heap[b]? = w2.heap[b]?) (hB : w2.heap.size ≤ B3) (h3 : w3.ownsRow B3 83 2 (.slice (some ⟨a3, 0, none⟩) g.hrd.rows.length c3) g.hrd.rows.length (roC g.hrd.rows)) (k3 : ∀ b, B3 ≤ b → b < w3.heap.size → wz.heap[b]? = w3.heap[b]?) (Bx : Nat) (q1 : Bx ≤ B1) (q2 : Bx ≤ B2) (q3 : Bx ≤ B3) => (show GtOwn wz Bx g (some ⟨a1, 0, none⟩) (some ⟨a2, 0, none⟩) (some ⟨a3, 0, none⟩) ∧ RoOwn wz Bx a2 c2 g.ask.rows from by
    have hRO : RoOwn wz Bx a2 c2 g.ask.rows := own_moved h2 k2 q2
    obtain ⟨a, c, e, o1⟩ := own_hd h1 rfl
    cases e
    obtain ⟨a, c, e, o2⟩ := own_ro h2 rfl
    cases e
    obtain ⟨a, c, e, o3⟩ := own_ro h3 rfl
    cases e
    refine ⟨⟨fun hl => ?_, fun hl => ?_, fun hl => ?_, apart_of o2 hB o3⟩, hRO⟩
    · obtain ⟨y, o, cu, e1, e2, e3, e4⟩ := o1 hl
      exact ⟨y, o, cu, e1, Nat.le_trans q1 e2, (k1 y e2 (lt_of_heap e3)).trans e3, e4⟩
    · obtain ⟨y, o, cu, e1, e2, e3, e4⟩ := o2 hl
      exact ⟨y, o, cu, e1, Nat.le_trans q2 e2, (k2 y e2 (lt_of_heap e3)).trans e3, e4⟩
    · obtain ⟨y, o, cu, e1, e2, e3, e4⟩ := o3 hl
      exact ⟨y, o, cu, e1, Nat.le_trans q3 e2, (k3 y e2 (lt_of_heap e3)).trans e3, e4⟩))
  unfold RoOwn at CA CR
  unfold gtV
  unfold tbV at CA CR
  clear hR hn1 hn2 hn3
  generalize g.name = x at *
  generalize g.skew = sk at *
  generalize g.now = nw at *
  generalize g.ask.most = am at *
  generalize g.hrd.most = rm at *
  generalize g.hands.length = nh at *
  generalize g.ask.rows.length = na at *
  generalize g.hrd.rows.length = nr at *
  obtain ⟨b1, b2, b3⟩ := u_heap3 w (.cells #[.string x, .slice ah nh ch, .int .i64 sk, .int .i64 nw, .int .i64 am, .slice aa na ca, .int .i64 rm, .slice ar nr cr] 29) (.cells #[.string ⟨#[]⟩, .slice none 0 0, .int .i64 0, .int .i64 0, .int .i64 0, .slice none 0 0, .int .i64 0, .slice none 0 0] 29) (.cells #[.string x, .slice ah nh ch, .int .i64 sk, .int .i64 nw, .int .i64 am, .slice aa na ca, .int .i64 rm, .slice ar nr cr] 29)
  have HB0 := hid ((((Below.refl w.heap.size w).alloc (Nat.le_refl _) (.cells #[.string x, .slice ah nh ch, .int .i64 sk, .int .i64 nw, .int .i64 am, .slice aa na ca, .int .i64 rm, .slice ar nr cr] 29)).alloc (by simp) (.cells #[.string ⟨#[]⟩, .slice none 0 0, .int .i64 0, .int .i64 0, .int .i64 0, .slice none 0 0, .int .i64 0, .slice none 0 0] 29)).alloc (by simp; omega) (.cells #[.string x, .slice ah nh ch, .int .i64 sk, .int .i64 nw, .int .i64 am, .slice aa na ca, .int .i64 rm, .slice ar nr cr] 29))
  have HSZ := hid (show (((w.alloc (.cells #[.string x, .slice ah nh ch, .int .i64 sk, .int .i64 nw, .int .i64 am, .slice aa na ca, .int .i64 rm, .slice ar nr cr] 29)).alloc (.cells #[.string ⟨#[]⟩, .slice none 0 0, .int .i64 0, .int .i64 0, .int .i64 0, .slice none 0 0, .int .i64 0, .slice none 0 0] 29)).alloc (.cells #[.string x, .slice ah nh ch, .int .i64 sk, .int .i64 nw, .int .i64 am, .slice aa na ca, .int .i64 rm, .slice ar nr cr] 29)).heap.size = w.heap.size + 3 by simp)
  obtain ⟨W0, hW0⟩ : ∃ W0, ((w.alloc (.cells #[.string x, .slice ah nh ch, .int .i64 sk, .int .i64 nw, .int .i64 am, .slice aa na ca, .int .i64 rm, .slice ar nr cr] 29)).alloc (.cells #[.string ⟨#[]⟩, .slice none 0 0, .int .i64 0, .int .i64 0, .int .i64 0, .slice none 0 0, .int .i64 0, .slice none 0 0] 29)).alloc (.cells #[.string x, .slice ah nh ch, .int .i64 sk, .int .i64 nw, .int .i64 am, .slice aa na ca, .int .i64 rm, .slice ar nr cr] 29) = W0 := ⟨_, rfl⟩
  rw [hW0] at b1 b2 b3 HB0 HSZ
  obtain ⟨B, hB⟩ : ∃ B, w.heap.size = B := ⟨_, rfl⟩
  have HBB := hid hB
  rw [hB] at b1 b2 b3 HSZ
  have H1 := hid b1
  have H2 := hid b2
  have H3 := hid b3
  have HW0 := hid hW0
  clear b1 b2 b3 hW0
  obtain ⟨g1, c1, w1, hrun, ho1, hb1⟩ := CC.out W0 HB0.out
  have HRUN := hid hrun
  have HO1 := hid ho1
  have HA1 := hid (bb HB0.out hb1)
  have K1 := hid (u_blk_below H1.out hb1)
  have K2 := hid (u_blk_below H2.out hb1)
  have K3 := hid (u_blk_below H3.out hb1)
  have HS1 := hid hb1.size
  clear hrun ho1 hb1 CC
  go_enter Tryz.func32, Tryz.ntmps32
  go_upto_region 2 with fail
  rw [HW0.out]
  clear HW0
  obtain ⟨⟨x0, x1, x2, x3, x4, x5, x6, x7⟩, _⟩ := g_box8f (u_blk_below H1.out ((Below.refl W0.heap.size W0).alloc (Nat.le_refl _) (.cells #[] 72)))
  obtain ⟨⟨z0, z1, z2, z3, z4, z5, z6, z7⟩, zf⟩ := g_box8f K3.out
  have zf1 := zf 1
  clear zf
  have HLB := hid (show B + 2 < W0.heap.size from lt_of_heap H3.out)
  have HC1 := hid (HA1.out.setCell (p := ⟨B + 2, 1, none⟩) (by rw [hB]; (try dsimp only); omega) (.slice (some ⟨g1, 0, none⟩) nh c1))
  have D1 := hid ((Below.heap_setCell w1 ⟨B + 2, 1, none⟩ (.slice (some ⟨g1, 0, none⟩) nh c1) B (by (try dsimp only); omega)).trans K1.out)
  have D2 := hid ((Below.heap_setCell w1 ⟨B + 2, 1, none⟩ (.slice (some ⟨g1, 0, none⟩) nh c1) (B + 1) (by (try dsimp only); omega)).trans K2.out)
  have D3 := hid (show (w1.setCell ⟨B + 2, 1, none⟩ (.slice (some ⟨g1, 0, none⟩) nh c1)).heap[B + 2]? = some (.cells #[.string x, .slice (some ⟨g1, 0, none⟩) nh c1, .int .i64 sk, .int .i64 nw, .int .i64 am, .slice aa na ca, .int .i64 rm, .slice ar nr cr] 29 (0, 0)) from (u_heap_set K3.out _).trans rfl)
  have DO1 := hid (fun b (h : W0.heap.size ≤ b) => Below.heap_setCell w1 ⟨B + 2, 1, none⟩ (.slice (some ⟨g1, 0, none⟩) nh c1) b (by (try dsimp only); have := HLB.out; omega))
  have DS1 := hid (show (w1.setCell ⟨B + 2, 1, none⟩ (.slice (some ⟨g1, 0, none⟩) nh c1)).heap.size = w1.heap.size by simp)
  obtain ⟨⟨p0, p1, p2, p3, p4, p5, p6, p7⟩, _⟩ := g_box8f D1.out
  obtain ⟨W1, hW1⟩ : ∃ W, w1.setCell ⟨B + 2, 1, none⟩ (.slice (some ⟨g1, 0, none⟩) nh c1) = W := ⟨_, rfl⟩
  rw [hW1] at HC1 D1 D2 D3 DO1 DS1 p0 p1 p2 p3 p4 p5 p6 p7
  go_wp2_with (at_builtin; refine g_wpL_app _ rfl (.tmp 5) (.tmp 7) 24 24 rfl (.slice (some ⟨W0.heap.size, 0, none⟩) 0 0) (.slice ah nh ch) rfl rfl HRUN.out ?_)
  clear x0 x1 x2 x3 x4 x5 x6 x7 z0 z1 z2 z3 z4 z5 z6 z7 zf1 p0 p1 p2 p3 p4 p5 p6 p7 hW1 HRUN
  refine (CA.out _ HC1.out).mono ?_
  rintro e w2 ⟨g2, c2, rfl, ho2, hb2⟩
  have HO2 := hid ho2
  have HA2 := hid (bb HC1.out hb2)
  have E1 := hid (u_blk_below D1.out hb2)
  have E2 := hid (u_blk_below D2.out hb2)
  have E3 := hid (u_blk_below D3.out hb2)
  have HS2 := hid hb2.size
  have KO1 := hid (fun b (h : W0.heap.size ≤ b) (h2 : b < w1.heap.size) => (hb2.block b (by rw [DS1.out]; exact h2)).trans (DO1.out b h))
  have HLW1 := hid (show W0.heap.size ≤ W1.heap.size by rw [DS1.out]; exact HS1.out)
  clear ho2 hb2 HC1 D1 D2 D3 DO1 K1 K2 K3 HA1 CA
  obtain ⟨⟨x0, x1, x2, x3, x4, x5, x6, x7⟩, _⟩ := g_box8f E1.out
  obtain ⟨⟨z0, z1, z2, z3, z4, z5, z6, z7⟩, zf⟩ := g_box8f E3.out
  have zf4 := zf 4
  have zf5 := zf 5
  clear zf
  have HC2 := hid (show Below w.heap.size w ((w2.setCell ⟨B + 2, 4, none⟩ (.int .i64 am)).setCell ⟨B + 2, 5, none⟩ (.slice (some ⟨g2, 0, none⟩) na c2)) from by
    iterate 2 refine Below.setCell ?_ (by rw [hB]; (try dsimp only); omega) _
    exact HA2.out)
  have other2 : ∀ b, ¬ b = B + 2 → ((w2.setCell ⟨B + 2, 4, none⟩ (.int .i64 am)).setCell ⟨B + 2, 5, none⟩ (.slice (some ⟨g2, 0, none⟩) na c2)).heap[b]? = w2.heap[b]? := fun b hne => by
    iterate 2 refine (Below.heap_setCell _ _ _ _ (by (try dsimp only); omega)).trans ?_
    rfl
  have D1 := hid ((other2 B (by omega)).trans E1.out)
  have D2 := hid ((other2 (B + 1) (by omega)).trans E2.out)
  have D3 := hid (show ((w2.setCell ⟨B + 2, 4, none⟩ (.int .i64 am)).setCell ⟨B + 2, 5, none⟩ (.slice (some ⟨g2, 0, none⟩) na c2)).heap[B + 2]? = some (.cells #[.string x, .slice (some ⟨g1, 0, none⟩) nh c1, .int .i64 sk, .int .i64 nw, .int .i64 am, .slice (some ⟨g2, 0, none⟩) na c2, .int .i64 rm, .slice ar nr cr] 29 (0, 0)) from (u_heap_set (u_heap_set E3.out _) _).trans rfl)
  have DO2 := hid (fun b (h : W0.heap.size ≤ b) => other2 b (by have := HLB.out; omega))
  have DS2 := hid (show ((w2.setCell ⟨B + 2, 4, none⟩ (.int .i64 am)).setCell ⟨B + 2, 5, none⟩ (.slice (some ⟨g2, 0, none⟩) na c2)).heap.size = w2.heap.size by simp)
  clear other2
  obtain ⟨⟨p0, p1, p2, p3, p4, p5, p6, p7⟩, _⟩ := g_box8f D1.out
  obtain ⟨W2, hW2⟩ : ∃ W, ((w2.setCell ⟨B + 2, 4, none⟩ (.int .i64 am)).setCell ⟨B + 2, 5, none⟩ (.slice (some ⟨g2, 0, none⟩) na c2)) = W := ⟨_, rfl⟩
  rw [hW2] at HC2 D1 D2 D3 DO2 DS2 p0 p1 p2 p3 p4 p5 p6 p7
  go_wp2_with fail
  clear x0 x1 x2 x3 x4 x5 x6 x7 z0 z1 z2 z3 z4 z5 z6 z7 zf4 zf5 p0 p1 p2 p3 p4 p5 p6 p7 hW2
  refine (CR.out _ HC2.out).mono ?_
  rintro e w3 ⟨g3, c3, rfl, ho3, hb3⟩
  have HO3 := hid ho3
  have HA3 := hid (bb HC2.out hb3)
  have E2 := hid (u_blk_below D2.out hb3)
  have E3 := hid (u_blk_below D3.out hb3)
  have HW23 := hid (show w2.heap.size ≤ W2.heap.size by rw [DS2.out]; exact Nat.le_refl _)
  have HL3 := hid (show W0.heap.size ≤ W2.heap.size by rw [DS2.out]; exact Nat.le_trans HLW1.out HS2.out)
  have KO2 := hid (fun b (h : W0.heap.size ≤ b) (h2 : b < w2.heap.size) => (hb3.block b (by rw [DS2.out]; exact h2)).trans (DO2.out b h))
  have KO12 := hid (fun b (h : W0.heap.size ≤ b) (h2 : b < w1.heap.size) => (KO2.out b h (Nat.lt_of_lt_of_le h2 (by have := HS2.out; rw [DS1.out] at this; exact this))).trans (KO1.out b h h2))
  clear ho3 hb3 HC2 D1 D2 D3 DO2 HA2 CR E1
  obtain ⟨⟨y0, y1, y2, y3, y4, y5, y6, y7⟩, yf⟩ := g_box8f E2.out
  obtain ⟨⟨z0, z1, z2, z3, z4, z5, z6, z7⟩, zf⟩ := g_box8f E3.out
  have zf6 := zf 6
  have zf7 := zf 7
  have yf0 := yf 0
  have yf1 := yf 1
  have yf2 := yf 2
  have yf3 := yf 3
  have yf4 := yf 4
  have yf5 := yf 5
  have yf6 := yf 6
  have yf7 := yf 7
  clear zf yf
  go_wp2_with fail
  refine bodyPost_ret (v := .agg #[.string x, .slice (some ⟨g1, 0, none⟩) nh c1, .int .i64 sk, .int .i64 nw, .int .i64 am, .slice (some ⟨g2, 0, none⟩) na c2, .int .i64 rm, .slice (some ⟨g3, 0, none⟩) nr c3]) (by simp [results, Tryz.results32, go_sem, y0, y1, y2, y3, y4, y5, y6, y7, z0, z1, z2, z3, z4, z5, z6, z7]) rfl ⟨_, _, _, _, _, _, rfl, ?_, ?_⟩
  · refine HFIN.out w1 w2 w3 _ W0.heap.size W1.heap.size W2.heap.size g1 g2 g3 c1 c2 c3 HO1.out (fun b h1 h2 => ?_) HO2.out (fun b h1 h2 => ?_) HW23.out HO3.out (fun b h1 h2 => ?_) w.heap.size (Nat.le_trans (by rw [hB]; have := HLB.out; omega) (Nat.le_refl _)) ?_ ?_
    · iterate 10 refine (Below.heap_setCell _ _ _ _ (by (try dsimp only); have := HLB.out; omega)).trans ?_
      exact KO12.out b h1 h2
    · iterate 10 refine (Below.heap_setCell _ _ _ _ (by (try dsimp only); have := HLB.out; have := HLW1.out; omega)).trans ?_
      exact KO2.out b (Nat.le_trans HLW1.out h1) h2
    · iterate 10 refine (Below.heap_setCell _ _ _ _ (by (try dsimp only); have := HLB.out; have := HL3.out; omega)).trans ?_
      rfl
    · rw [hB]; have := HLB.out; have := HLW1.out; omega
    · rw [hB]; have := HLB.out; have := HL3.out; omega
  · iterate 10 refine Below.setCell ?_ (by rw [hB]; (try dsimp only); omega) _
    exact HA3.out

end Go.Proofs.YtgdfeicojgnoaaaGreatDoor
