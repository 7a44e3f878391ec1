/- Stores into a box of a gate, and the rows that stand beside it. The specification's Asks. -/
import Derived.Test.YtnjepdggefchnaaGreatDoorM17
import Derived.Test.YtnjepdggefchnaaGreatDoorM19
import Derived.Test.YtnjepdggefchnaaGreatDoorM22
import Derived.Test.YtnjepdggefchnaaGreatDoorM21
import Derived.Test.YtnjepdggefchnaaGreatDoorM5
namespace Go.Proofs.YtnjepdggefchnaaGreatDoor
open Go.RowKit
set_option linter.unusedVariables false
set_option linter.unusedSimpArgs false

/-- Eight stores into a box, and one more. -/
theorem keep8 (w : World) (p : Nat) (v0 v1 v2 v3 v4 v5 v6 v7 : Value) : u_KeepB (fun b => b = p) w ((((((((w.setCell ⟨p, 0, none⟩ v0).setCell ⟨p, 1, none⟩ v1).setCell ⟨p, 2, none⟩ v2).setCell ⟨p, 3, none⟩ v3).setCell ⟨p, 4, none⟩ v4).setCell ⟨p, 5, none⟩ v5).setCell ⟨p, 6, none⟩ v6).setCell ⟨p, 7, none⟩ v7) :=
  (((((((u_KeepB.of_set (p := fun b => b = p) (g := p) w 0 v0 rfl).trans (u_KeepB.of_set (p := fun b => b = p) (g := p) _ 1 v1 rfl)).trans (u_KeepB.of_set (p := fun b => b = p) (g := p) _ 2 v2 rfl)).trans (u_KeepB.of_set (p := fun b => b = p) (g := p) _ 3 v3 rfl)).trans (u_KeepB.of_set (p := fun b => b = p) (g := p) _ 4 v4 rfl)).trans (u_KeepB.of_set (p := fun b => b = p) (g := p) _ 5 v5 rfl)).trans (u_KeepB.of_set (p := fun b => b = p) (g := p) _ 6 v6 rfl)).trans (u_KeepB.of_set (p := fun b => b = p) (g := p) _ 7 v7 rfl)

theorem box8_set {w : World} {p : Nat} {T : TypeId} {c : Array Value} (h : w.heap[p]? = some (.cells c T (0, 0))) (j : Nat) (v : Value) : (w.setCell ⟨p, j, none⟩ v).heap[p]? = some (.cells (c.setIfInBounds j v) T (0, 0)) := Lib.heap_setCell_same h v

theorem box8_new {w : World} {p : Nat} {T : TypeId} {z0 z1 z2 z3 z4 z5 z6 z7 : Value} (h : w.heap[p]? = some (.cells #[z0, z1, z2, z3, z4, z5, z6, z7] T (0, 0))) (v0 v1 v2 v3 v4 v5 v6 v7 : Value) : ((((((((w.setCell ⟨p, 0, none⟩ v0).setCell ⟨p, 1, none⟩ v1).setCell ⟨p, 2, none⟩ v2).setCell ⟨p, 3, none⟩ v3).setCell ⟨p, 4, none⟩ v4).setCell ⟨p, 5, none⟩ v5).setCell ⟨p, 6, none⟩ v6).setCell ⟨p, 7, none⟩ v7).heap[p]? = some (.cells #[v0, v1, v2, v3, v4, v5, v6, v7] T (0, 0)) := by
  have h0 : (w.setCell ⟨p, 0, none⟩ v0).heap[p]? = some (.cells #[v0, z1, z2, z3, z4, z5, z6, z7] T (0, 0)) := box8_set h 0 v0
  have h1 : ((w.setCell ⟨p, 0, none⟩ v0).setCell ⟨p, 1, none⟩ v1).heap[p]? = some (.cells #[v0, v1, z2, z3, z4, z5, z6, z7] T (0, 0)) := box8_set h0 1 v1
  have h2 : (((w.setCell ⟨p, 0, none⟩ v0).setCell ⟨p, 1, none⟩ v1).setCell ⟨p, 2, none⟩ v2).heap[p]? = some (.cells #[v0, v1, v2, z3, z4, z5, z6, z7] T (0, 0)) := box8_set h1 2 v2
  have h3 : ((((w.setCell ⟨p, 0, none⟩ v0).setCell ⟨p, 1, none⟩ v1).setCell ⟨p, 2, none⟩ v2).setCell ⟨p, 3, none⟩ v3).heap[p]? = some (.cells #[v0, v1, v2, v3, z4, z5, z6, z7] T (0, 0)) := box8_set h2 3 v3
  have h4 : (((((w.setCell ⟨p, 0, none⟩ v0).setCell ⟨p, 1, none⟩ v1).setCell ⟨p, 2, none⟩ v2).setCell ⟨p, 3, none⟩ v3).setCell ⟨p, 4, none⟩ v4).heap[p]? = some (.cells #[v0, v1, v2, v3, v4, z5, z6, z7] T (0, 0)) := box8_set h3 4 v4
  have h5 : ((((((w.setCell ⟨p, 0, none⟩ v0).setCell ⟨p, 1, none⟩ v1).setCell ⟨p, 2, none⟩ v2).setCell ⟨p, 3, none⟩ v3).setCell ⟨p, 4, none⟩ v4).setCell ⟨p, 5, none⟩ v5).heap[p]? = some (.cells #[v0, v1, v2, v3, v4, v5, z6, z7] T (0, 0)) := box8_set h4 5 v5
  have h6 : (((((((w.setCell ⟨p, 0, none⟩ v0).setCell ⟨p, 1, none⟩ v1).setCell ⟨p, 2, none⟩ v2).setCell ⟨p, 3, none⟩ v3).setCell ⟨p, 4, none⟩ v4).setCell ⟨p, 5, none⟩ v5).setCell ⟨p, 6, none⟩ v6).heap[p]? = some (.cells #[v0, v1, v2, v3, v4, v5, v6, z7] T (0, 0)) := box8_set h5 6 v6
  have h7 : ((((((((w.setCell ⟨p, 0, none⟩ v0).setCell ⟨p, 1, none⟩ v1).setCell ⟨p, 2, none⟩ v2).setCell ⟨p, 3, none⟩ v3).setCell ⟨p, 4, none⟩ v4).setCell ⟨p, 5, none⟩ v5).setCell ⟨p, 6, none⟩ v6).setCell ⟨p, 7, none⟩ v7).heap[p]? = some (.cells #[v0, v1, v2, v3, v4, v5, v6, v7] T (0, 0)) := box8_set h6 7 v7
  exact h7

theorem ro_stands {w6 wq wz : World} {K p : Nat} {a : Option Addr} {l : List Ro} (o : OwnRo w6 K a l) (hb : Below w6.heap.size w6 wq) (hk : u_KeepB (fun b => b = p) wq wz) (h : p < K ∨ w6.heap.size ≤ p) : OwnRo wz K a l := by
  rcases h with h | h
  · exact (o.below hb).keep hk (fun b e => by rw [e]; exact h)
  · exact o.below (hb.trans (hk.below hb.size (fun b e => by rw [e]; exact h)))

theorem hd_stands {w6 wq wz : World} {K p : Nat} {a : Option Addr} {l : List Hd} (o : OwnHd w6 K a l) (hb : Below w6.heap.size w6 wq) (hk : u_KeepB (fun b => b = p) wq wz) (h : p < K ∨ w6.heap.size ≤ p) : OwnHd wz K a l := by
  rcases h with h | h
  · exact (o.below hb).keep hk (fun b e => by rw [e]; exact h)
  · exact o.below (hb.trans (hk.below hb.size (fun b e => by rw [e]; exact h)))

end Go.Proofs.YtnjepdggefchnaaGreatDoor

namespace Go.Proofs.YtnjepdggefchnaaGreatDoor
open Go.RowKit
set_option linter.unusedVariables false
set_option linter.unusedSimpArgs false

set_option maxRecDepth 8000 in
set_option maxHeartbeats 16000000 in
theorem cAsksS (g : Gt) (ah : Option Addr) (ch : Nat) (aa : Option Addr) (ca : Nat) (ar : Option Addr) (cr : Nat) (id : ByteArray) (til : Int) (w : World) (hR : GtRow w g ah aa ar) (hz : GtSz 1048576 g) (hi : id.size ≤ 1048576) :
    Calls Tryz.prog 5 #[gtV g ah ch aa ca ar cr, .string id, .int .i64 til] w fun e w' => ∃ ah' ch' aa' ca' ar' cr', e = .returned (.tuple #[gtV (asksG g id til).1 ah' ch' aa' ca' ar' cr', .int .i64 (asksG g id til).2]) ∧ GtOwn w' w.heap.size (asksG g id til).1 ah' aa' ar' ∧ Below w.heap.size w w' := by
  have CO := hid (fun wx (h : Below w.heap.size w wx) => cGateOkS g ah ch aa ca ar cr wx (hR.below h) hz)
  have CI := hid (fun wx => u_c_spec_l12Id id wx hi)
  have CT := hid (fun wx => cTimeS til wx)
  have CC := hid (fun (hg : gateB g = true) wx (h : Below w.heap.size w wx) => cGateCopyR g ah ch aa ca ar cr wx (hR.below h) (gate_rowsA hg).1 (gate_rowsA hg).2.1 (gate_rowsA hg).2.2)
  have CE := hid (fun (hg : gateB g = true) (P Bx ga c : Nat) (v0 v1 v2 v3 v6 v7 : Value) (wx : World) (hP : wx.heap[P]? = some (.cells #[v0, v1, v2, v3, .int .i64 g.ask.most, .slice (some ⟨ga, 0, none⟩) g.ask.rows.length c, v6, v7] 34 (0, 0))) (hO : RoOwn wx Bx ga c g.ask.rows) (hB : Bx ≤ wx.heap.size) => cEnterG P Bx ga c v0 v1 v2 v3 v6 v7 g.ask.most g.ask.rows id til wx hP hO (gate_rowsA hg).2.1 hz.2.2.2.1 hi hB)
  have HE0 := hid (fun (h : (gateB g && u_idOk id && utmB til) = false) => asksG_no h)
  have HE1 := hid (fun (h : (gateB g && u_idOk id && utmB til) = true) => asksG_yes h)
  have HTM := hid (show utmB til = decide (0 ≤ til ∧ til ≤ 3155759999) from rfl)
  have HSY := hid (show enterT g.ask id til = enterT ⟨g.ask.most, g.ask.rows⟩ id til from rfl)
  have HGA := hid (show ∀ T a1 c1 a2 c2 a3 c3, gtV (askedG g T) a1 c1 a2 c2 a3 c3 = .agg #[.string g.name, .slice a1 g.hands.length c1, .int .i64 g.skew, .int .i64 g.now, .int .i64 T.most, .slice a2 T.rows.length c2, .int .i64 g.hrd.most, .slice a3 g.hrd.rows.length c3] from fun T a1 c1 a2 c2 a3 c3 => rfl)
  have HFIN := hid (fun (T : Tb) (w3 W w5 wz : World) (Bx P R ga c : Nat) (a1 a3 : Option Addr) (g' c' : Nat) (ho : GtOwn w3 Bx g a1 (some ⟨ga, 0, none⟩) a3) (h3 : Below w3.heap.size w3 W) (hP : w3.heap.size ≤ P) (hk : u_KeepB (fun b => b = P) W w5) (hr : RoOwn w5 Bx g' c' T.rows) (hg : (g' = ga ∧ T.rows = g.ask.rows) ∨ W.heap.size ≤ g') (hRz : u_KeepB (fun b => b = R) w5 wz) (hRB : R < Bx) => (show GtOwn wz Bx (askedG g T) a1 (some ⟨g', 0, none⟩) a3 from by
    have o1 := hd_stands (p := P) ho.1 h3 hk (.inr hP)
    have o3 := ro_stands (p := P) ho.2.2.1 h3 hk (.inr hP)
    obtain ⟨a, c2, e, o2⟩ := own_ro hr rfl
    cases e
    have k : ∀ b, (fun b => b = R) b → b < Bx := fun b e => by rw [show b = R from e]; exact hRB
    refine ⟨o1.keep hRz k, o2.keep hRz k, o3.keep hRz k, fun q1 q2 x o y p e1 e2 => ?_⟩
    cases e1
    cases e2
    rcases hg with ⟨rfl, hl⟩ | hg
    · exact ho.2.2.2 (by rw [← hl]; exact q1) q2 _ _ _ _ rfl rfl
    · intro e
      obtain ⟨y2, _, _, e5, e6, e7, _⟩ := ho.2.2.1 q2
      cases e5
      have := lt_of_heap e7
      have := h3.size
      omega))
  clear hR hz
  obtain ⟨N0, hN0⟩ : ∃ N, asksG g id til = N := ⟨_, rfl⟩
  rw [hN0]
  simp only [hN0] at HE0 HE1
  clear hN0
  rw [show gtV g ah ch aa ca ar cr = .agg #[.string g.name, .slice ah g.hands.length ch, .int .i64 g.skew, .int .i64 g.now, .int .i64 g.ask.most, .slice aa g.ask.rows.length ca, .int .i64 g.hrd.most, .slice ar g.hrd.rows.length cr] from rfl]
  unfold gtV at CO CC
  obtain ⟨V, hV⟩ : ∃ V, gateB g = V := ⟨_, rfl⟩
  rw [hV] at CO CC CE HE0 HE1
  rw [HTM.out] at HE0 HE1
  obtain ⟨O, hO⟩ : ∃ O, u_idOk id = O := ⟨_, rfl⟩
  rw [hO] at CI HE0 HE1
  obtain ⟨U, hU⟩ : ∃ U, decide (0 ≤ til ∧ til ≤ 3155759999) = U := ⟨_, rfl⟩
  rw [hU] at CT HE0 HE1
  clear hV hO hU HTM
  generalize g.name = x at *
  generalize g.skew = sk at *
  generalize g.now = nw at *
  generalize g.ask.most = am at *
  generalize g.hrd.most = rm at *
  generalize g.hands.length = nh at *
  generalize g.ask.rows.length = na at *
  generalize g.hrd.rows.length = nr at *
  obtain ⟨b1, b2⟩ := u_heap2 w (.cells #[.string x, .slice ah nh ch, .int .i64 sk, .int .i64 nw, .int .i64 am, .slice aa na ca, .int .i64 rm, .slice ar nr cr] 34) (.cells #[.string ⟨#[]⟩, .slice none 0 0, .int .i64 0, .int .i64 0, .int .i64 0, .slice none 0 0, .int .i64 0, .slice none 0 0] 34)
  have HB0 := hid (((Below.refl w.heap.size w).alloc (Nat.le_refl _) (.cells #[.string x, .slice ah nh ch, .int .i64 sk, .int .i64 nw, .int .i64 am, .slice aa na ca, .int .i64 rm, .slice ar nr cr] 34)).alloc (by simp) (.cells #[.string ⟨#[]⟩, .slice none 0 0, .int .i64 0, .int .i64 0, .int .i64 0, .slice none 0 0, .int .i64 0, .slice none 0 0] 34))
  obtain ⟨W0, hW0⟩ : ∃ W0, (w.alloc (.cells #[.string x, .slice ah nh ch, .int .i64 sk, .int .i64 nw, .int .i64 am, .slice aa na ca, .int .i64 rm, .slice ar nr cr] 34)).alloc (.cells #[.string ⟨#[]⟩, .slice none 0 0, .int .i64 0, .int .i64 0, .int .i64 0, .slice none 0 0, .int .i64 0, .slice none 0 0] 34) = W0 := ⟨_, rfl⟩
  rw [hW0] at b1 b2 HB0
  obtain ⟨B, hB⟩ : ∃ B, w.heap.size = B := ⟨_, rfl⟩
  have HBE := hid hB
  rw [hB] at b1 b2
  have HM1 := hid b1
  have HM2 := hid b2
  clear b1 b2
  obtain ⟨⟨f0, f1, f2, f3, f4, f5, f6, f7⟩, ff⟩ := g_box8f HM1.out
  clear ff

  go_enter Tryz.func5, Tryz.ntmps5
  go_wp2_with fail
  refine (CO.out _ HB0.out).mono ?_
  rintro e w1 ⟨rfl, hb1⟩
  have HB1 := hid (bb HB0.out hb1)
  have HZ1 := hid (u_blk_below HM2.out hb1)
  have HF1 := hid (u_blk_below HM1.out hb1)
  clear hb1 CO f0 f1 f2 f3 f4 f5 f6 f7 hW0
  cases V with
  | false =>
    have HE := hid (HE0.out rfl)
    have HZ := HZ1
    have HBf := HB1
    clear CC CE HE0 HE1 CI CT HFIN
    obtain ⟨⟨k0, k1, k2, k3, k4, k5, k6, k7⟩, kf⟩ := g_box8f HZ.out
    have kf0 := kf 0
    have kf1 := kf 1
    have kf2 := kf 2
    have kf3 := kf 3
    have kf4 := kf 4
    have kf5 := kf 5
    have kf6 := kf 6
    have kf7 := kf 7
    clear kf
    go_wp2_with fail
    refine bodyPost_ret (v := .tuple #[.agg #[.string ⟨#[]⟩, .slice none 0 0, .int .i64 0, .int .i64 0, .int .i64 0, .slice none 0 0, .int .i64 0, .slice none 0 0], .int .i64 3]) (by simp [results, Tryz.results5, go_sem, k0, k1, k2, k3, k4, k5, k6, k7]) rfl ⟨none, 0, none, 0, none, 0, by rw [HE.out]; rfl, by rw [HE.out]; exact ⟨OwnHd.nil _ _ _, OwnRo.nil _ _ _, OwnRo.nil _ _ _, fun h => absurd h (Nat.lt_irrefl 0)⟩, ?_⟩
    iterate 8 refine Below.setCell ?_ (show w.heap.size ≤ B + 1 by omega) _
    exact HBf.out
  | true =>
    go_wp2_with fail
    refine (CI.out _).mono ?_
    rintro e w2 ⟨rfl, hb2⟩
    have HB2 := hid (bb HB1.out hb2)
    have HZ2 := hid (u_blk_below HZ1.out hb2)
    have HF2 := hid (u_blk_below HF1.out hb2)
    clear hb2 CI HB1 HZ1 HF1
    cases O with
    | false =>
      have HE := hid (HE0.out rfl)
      have HZ := HZ2
      have HBf := HB2
      clear CC CE HE0 HE1 CT HFIN
      obtain ⟨⟨k0, k1, k2, k3, k4, k5, k6, k7⟩, kf⟩ := g_box8f HZ.out
      have kf0 := kf 0
      have kf1 := kf 1
      have kf2 := kf 2
      have kf3 := kf 3
      have kf4 := kf 4
      have kf5 := kf 5
      have kf6 := kf 6
      have kf7 := kf 7
      clear kf
      go_wp2_with fail
      refine bodyPost_ret (v := .tuple #[.agg #[.string ⟨#[]⟩, .slice none 0 0, .int .i64 0, .int .i64 0, .int .i64 0, .slice none 0 0, .int .i64 0, .slice none 0 0], .int .i64 3]) (by simp [results, Tryz.results5, go_sem, k0, k1, k2, k3, k4, k5, k6, k7]) rfl ⟨none, 0, none, 0, none, 0, by rw [HE.out]; rfl, by rw [HE.out]; exact ⟨OwnHd.nil _ _ _, OwnRo.nil _ _ _, OwnRo.nil _ _ _, fun h => absurd h (Nat.lt_irrefl 0)⟩, ?_⟩
      iterate 8 refine Below.setCell ?_ (show w.heap.size ≤ B + 1 by omega) _
      exact HBf.out
    | true =>
      go_wp2_with fail
      refine (CT.out _).mono ?_
      rintro e w3 ⟨rfl, hw3⟩
      obtain rfl := hw3.symm
      cases U with
      | false =>
        have HE := hid (HE0.out rfl)
        have HZ := HZ2
        have HBf := HB2
        clear CC CE HE0 HE1 CT HFIN
        obtain ⟨⟨k0, k1, k2, k3, k4, k5, k6, k7⟩, kf⟩ := g_box8f HZ.out
        have kf0 := kf 0
        have kf1 := kf 1
        have kf2 := kf 2
        have kf3 := kf 3
        have kf4 := kf 4
        have kf5 := kf 5
        have kf6 := kf 6
        have kf7 := kf 7
        clear kf
        go_wp2_with fail
        refine bodyPost_ret (v := .tuple #[.agg #[.string ⟨#[]⟩, .slice none 0 0, .int .i64 0, .int .i64 0, .int .i64 0, .slice none 0 0, .int .i64 0, .slice none 0 0], .int .i64 3]) (by simp [results, Tryz.results5, go_sem, k0, k1, k2, k3, k4, k5, k6, k7]) rfl ⟨none, 0, none, 0, none, 0, by rw [HE.out]; rfl, by rw [HE.out]; exact ⟨OwnHd.nil _ _ _, OwnRo.nil _ _ _, OwnRo.nil _ _ _, fun h => absurd h (Nat.lt_irrefl 0)⟩, ?_⟩
        iterate 8 refine Below.setCell ?_ (show w.heap.size ≤ B + 1 by omega) _
        exact HBf.out
      | true =>
        have HE := hid (HE1.out rfl)
        clear HE0 HE1 CT
        replace CC := hid (CC.out (by simp))
        replace CE := hid (CE.out (by simp))
        obtain ⟨⟨f0, f1, f2, f3, f4, f5, f6, f7⟩, ff⟩ := g_box8f HF2.out
        clear ff
        go_wp2_with fail
        refine (CC.out _ HB2.out).mono ?_
        rintro e w4 ⟨h1, e1, ga, ca1, gr, cr1, rfl, ⟨ho4, hr4⟩, hb4⟩
        have HP := hid (heap_alloc_new w4 (.cells #[.string x, .slice h1 nh e1, .int .i64 sk, .int .i64 nw, .int .i64 am, .slice (some ⟨ga, 0, none⟩) na ca1, .int .i64 rm, .slice (some ⟨gr, 0, none⟩) nr cr1] 34))
        have HA := hid ((Below.refl w4.heap.size w4).alloc (Nat.le_refl _) (.cells #[.string x, .slice h1 nh e1, .int .i64 sk, .int .i64 nw, .int .i64 am, .slice (some ⟨ga, 0, none⟩) na ca1, .int .i64 rm, .slice (some ⟨gr, 0, none⟩) nr cr1] 34))
        obtain ⟨W, hW⟩ : ∃ W, w4.alloc (.cells #[.string x, .slice h1 nh e1, .int .i64 sk, .int .i64 nw, .int .i64 am, .slice (some ⟨ga, 0, none⟩) na ca1, .int .i64 rm, .slice (some ⟨gr, 0, none⟩) nr cr1] 34) = W := ⟨_, rfl⟩
        rw [hW] at HP HA
        have HWW := hid hW
        obtain ⟨P, hPP⟩ : ∃ P, w4.heap.size = P := ⟨_, rfl⟩
        have HPP := hid hPP
        rw [hPP] at HP
        have HB4 := hid (bb HB2.out (bb hb4 HA.out))
        have HZ4 := hid (u_blk_below HZ2.out (bb hb4 HA.out))
        have HO4 := hid ho4
        have HR4 := hid (hr4.below HA.out)
        have HL2 := hid (show B + 1 < w2.heap.size from lt_of_heap HZ2.out)
        have HS24 := hid hb4.size
        clear hb4 ho4 hr4 CC hW f0 f1 f2 f3 f4 f5 f6 f7 HF2
        go_upto_region 4 with fail
        rw [HWW.out]
        clear HWW hPP
        have CE1 := hid (CE.out P w2.heap.size ga ca1 _ _ _ _ _ _ W HP.out HR4.out (Nat.le_trans HS24.out HA.out.size))
        obtain ⟨T, hT⟩ : ∃ T, enterT ⟨am, g.ask.rows⟩ id til = T := ⟨_, rfl⟩
        rw [hT] at CE1
        rw [HSY.out, hT] at HE
        clear CE HSY
        go_wp2_with fail
        refine CE1.out.mono ?_
        rintro e w5 ⟨g', c', rfl, hp5, hr5, hk5, hg5⟩
        have HP5 := hid hp5
        have HZ := hid ((hk5.block (B + 1) (lt_of_heap HZ4.out) (fun e => by have e' : B + 1 = P := e; have := HL2.out; have := HS24.out; have := HPP.out; omega)).trans HZ4.out)
        have HBf := hid (HB4.out.trans (hk5.below HB4.out.size (fun b e => by rw [show b = P from e, ← HPP.out]; have := HB2.out.size; have := HS24.out; omega)))
        have HFI := hid (fun wz hz => HFIN.out T.1 w4 W w5 wz w2.heap.size P (B + 1) ga ca1 h1 (some ⟨gr, 0, none⟩) g' c' HO4.out HA.out (Nat.le_of_eq HPP.out) hk5 hr5 hg5 hz HL2.out)
        clear hp5 hr5 hk5 hg5 CE1 HFIN hT HP HR4 HO4 HA HB4 HZ4
        obtain ⟨⟨n0, n1, n2, n3, n4, n5, n6, n7⟩, nf⟩ := g_box8f HP5.out
        clear nf
        obtain ⟨⟨k0, k1, k2, k3, k4, k5, k6, k7⟩, kf⟩ := g_box8f HZ.out
        have kf0 := kf 0
        have kf1 := kf 1
        have kf2 := kf 2
        have kf3 := kf 3
        have kf4 := kf 4
        have kf5 := kf 5
        have kf6 := kf 6
        have kf7 := kf 7
        clear kf
        go_wp2_with fail
        refine bodyPost_ret (v := .tuple #[.agg #[.string x, .slice h1 nh e1, .int .i64 sk, .int .i64 nw, .int .i64 T.1.most, .slice (some ⟨g', 0, none⟩) T.1.rows.length c', .int .i64 rm, .slice (some ⟨gr, 0, none⟩) nr cr1], .int .i64 T.2]) (by simp [results, Tryz.results5, go_sem, k0, k1, k2, k3, k4, k5, k6, k7]) rfl ⟨h1, e1, some ⟨g', 0, none⟩, c', some ⟨gr, 0, none⟩, cr1, by rw [HE.out]; show _ = Ending.returned (.tuple #[gtV (askedG g T.1) h1 e1 (some ⟨g', 0, none⟩) c' (some ⟨gr, 0, none⟩) cr1, .int .i64 T.2]); rw [HGA.out], ?_, ?_⟩
        · rw [HE.out]
          refine (HFI.out _ ((keep8 _ (B + 1) _ _ _ _ _ _ _ _))).mono ?_
          exact HB2.out.size
        · iterate 8 refine Below.setCell ?_ (show w.heap.size ≤ B + 1 by omega) _
          exact HBf.out

end Go.Proofs.YtnjepdggefchnaaGreatDoor
