/- The program's laterGate. The program's laterGate where the gate grows later. The program's Ticked. -/
import Derived.Test.YtajlgnlifffanaaGreatDoorM35
import Derived.Test.YtajlgnlifffanaaGreatDoorM39
import Derived.Test.YtajlgnlifffanaaGreatDoorM34
import Derived.Deep.RegionHeld3
import Derived.Deep.Cut
import Derived.Deep.CutRange
namespace Go.Proofs.YtajlgnlifffanaaGreatDoor
open Go.RowKit
set_option linter.unusedVariables false
set_option linter.unusedSimpArgs false

theorem s_cell8 {w : World} {b o R : Nat} {v : Value} (h : w.cell? ⟨b, o, none⟩ = some v) (hne : b ≠ R) (v0 v1 v2 v3 v4 v5 v6 v7 : Value) :
    ((((((((w.setCell ⟨R, 0, none⟩ v0).setCell ⟨R, 1, none⟩ v1).setCell ⟨R, 2, none⟩ v2).setCell ⟨R, 3, none⟩ v3).setCell ⟨R, 4, none⟩ v4).setCell ⟨R, 5, none⟩ v5).setCell ⟨R, 6, none⟩ v6).setCell ⟨R, 7, none⟩ v7).cell? ⟨b, o, none⟩ = some v := by
  have st : ∀ (w : World) (i : Nat) (u : Value), w.cell? ⟨b, o, none⟩ = some v → (w.setCell ⟨R, i, none⟩ u).cell? ⟨b, o, none⟩ = some v := fun w i u h => by
    have e : (w.setCell ⟨R, i, none⟩ u).heap[b]? = w.heap[b]? := by simp [World.setCell, Array.getElem?_modify, Ne.symm hne]
    unfold World.cell? at h ⊢
    rw [e]
    exact h
  exact st _ _ _ (st _ _ _ (st _ _ _ (st _ _ _ (st _ _ _ (st _ _ _ (st _ _ _ (st _ _ _ h)))))))

set_option maxRecDepth 8000 in
set_option maxHeartbeats 16000000 in
theorem cLaterBad (g : Gt) (ah : Option Addr) (ch : Nat) (aa : Option Addr) (ca : Nat) (ar : Option Addr) (cr : Nat) (d : Int) (a0 a1 : Addr) (w : World) (hS : SenAt a0 a1 w) (hR : GtRow w g ah aa ar) (hz : GtSz 1048576 g) (hg : gateB g = false) :
    Calls Tryz.prog 26 #[gtV g ah ch aa ca ar cr, .int .i64 d] w fun e w' => e = .returned (.tuple #[.agg #[.string ⟨#[]⟩, .slice none 0 0, .int .i64 0, .int .i64 0, .int .i64 0, .slice none 0 0, .int .i64 0, .slice none 0 0], erV (.base a0)]) ∧ Below w.heap.size w w' := by
  have CO := hid (fun wx (h : Below w.heap.size w wx) => cGateOkI g ah ch aa ca ar cr wx (hR.below h) hz)
  rw [hg] at CO
  clear hR hz hg
  unfold gtV at CO ⊢
  generalize g.name = x at *
  generalize g.skew = sk at *
  generalize g.now = nw at *
  generalize g.ask.most = am at *
  generalize g.hrd.most = rm at *
  generalize g.hands.length = nh at *
  generalize g.ask.rows.length = na at *
  generalize g.hrd.rows.length = nr at *
  obtain ⟨b1, b2⟩ := u_heap2 w (.cells #[.string x, .slice ah nh ch, .int .i64 sk, .int .i64 nw, .int .i64 am, .slice aa na ca, .int .i64 rm, .slice ar nr cr] 29) (.cells #[.string ⟨#[]⟩, .slice none 0 0, .int .i64 0, .int .i64 0, .int .i64 0, .slice none 0 0, .int .i64 0, .slice none 0 0] 29)
  have HB0 := hid (((Below.refl w.heap.size w).alloc (Nat.le_refl _) (.cells #[.string x, .slice ah nh ch, .int .i64 sk, .int .i64 nw, .int .i64 am, .slice aa na ca, .int .i64 rm, .slice ar nr cr] 29)).alloc (by simp) (.cells #[.string ⟨#[]⟩, .slice none 0 0, .int .i64 0, .int .i64 0, .int .i64 0, .slice none 0 0, .int .i64 0, .slice none 0 0] 29))
  obtain ⟨W0, hW0⟩ : ∃ W0, (w.alloc (.cells #[.string x, .slice ah nh ch, .int .i64 sk, .int .i64 nw, .int .i64 am, .slice aa na ca, .int .i64 rm, .slice ar nr cr] 29)).alloc (.cells #[.string ⟨#[]⟩, .slice none 0 0, .int .i64 0, .int .i64 0, .int .i64 0, .slice none 0 0, .int .i64 0, .slice none 0 0] 29) = W0 := ⟨_, rfl⟩
  rw [hW0] at b1 b2 HB0
  obtain ⟨B, hB⟩ : ∃ B, w.heap.size = B := ⟨_, rfl⟩
  have HBE := hid hB
  rw [hB] at b1 b2
  have HM1 := hid b1
  have HM2 := hid b2
  clear b1 b2
  obtain ⟨⟨f0, f1, f2, f3, f4, f5, f6, f7⟩, ff⟩ := g_box8f HM1.out
  clear ff
  have HSx := hid (hS.below HB0.out)
  unfold erV
  go_enter Tryz.func26, Tryz.ntmps26
  go_wp2_with fail
  refine (CO.out _ HB0.out).mono ?_
  rintro e w1 ⟨rfl, hb1⟩
  have HBf := hid (bb HB0.out hb1)
  have HZ := hid (u_blk_below HM2.out hb1)
  have e0 := (HSx.out.below hb1).cells.1
  clear hb1 CO f0 f1 f2 f3 f4 f5 f6 f7 hW0
  obtain ⟨⟨k0, k1, k2, k3, k4, k5, k6, k7⟩, kf⟩ := g_box8f HZ.out
  have kf0 := kf 0
  have kf1 := kf 1
  have kf2 := kf 2
  have kf3 := kf 3
  have kf4 := kf 4
  have kf5 := kf 5
  have kf6 := kf 6
  have kf7 := kf 7
  clear kf
  go_wp2_with fail
  go_region
  go_wp2_with fail
  ·
    refine bodyPost_ret (v := .tuple #[.agg #[.string ⟨#[]⟩, .slice none 0 0, .int .i64 0, .int .i64 0, .int .i64 0, .slice none 0 0, .int .i64 0, .slice none 0 0], .iface 229 (.pointer (some a0))]) (by simp [results, Tryz.results26, go_sem, k0, k1, k2, k3, k4, k5, k6, k7]) rfl ⟨rfl, ?_⟩
    refine Below.drew ?_
    iterate 8 refine Below.setCell ?_ (show w.heap.size ≤ B + 1 by omega) _
    exact HBf.out

set_option maxRecDepth 8000 in
set_option maxHeartbeats 16000000 in
theorem cLaterNoNeg (g : Gt) (ah : Option Addr) (ch : Nat) (aa : Option Addr) (ca : Nat) (ar : Option Addr) (cr : Nat) (d : Int) (a0 a1 : Addr) (w : World) (hS : SenAt a0 a1 w) (hR : GtRow w g ah aa ar) (hz : GtSz 1048576 g) (hg : gateB g = true) (hd : d < 0) :
    Calls Tryz.prog 26 #[gtV g ah ch aa ca ar cr, .int .i64 d] w fun e w' => e = .returned (.tuple #[.agg #[.string ⟨#[]⟩, .slice none 0 0, .int .i64 0, .int .i64 0, .int .i64 0, .slice none 0 0, .int .i64 0, .slice none 0 0], erV (.base a1)]) ∧ Below w.heap.size w w' := by
  have CO := hid (fun wx (h : Below w.heap.size w wx) => cGateOkI g ah ch aa ca ar cr wx (hR.below h) hz)
  rw [hg] at CO
  have CL := hid (fun wx => cLaterI g.now d wx)
  generalize laterOf g.now d = L at *
  clear hR hz hg
  unfold gtV at CO ⊢
  generalize g.name = x at *
  generalize g.skew = sk at *
  generalize g.now = nw at *
  generalize g.ask.most = am at *
  generalize g.hrd.most = rm at *
  generalize g.hands.length = nh at *
  generalize g.ask.rows.length = na at *
  generalize g.hrd.rows.length = nr at *
  obtain ⟨b1, b2⟩ := u_heap2 w (.cells #[.string x, .slice ah nh ch, .int .i64 sk, .int .i64 nw, .int .i64 am, .slice aa na ca, .int .i64 rm, .slice ar nr cr] 29) (.cells #[.string ⟨#[]⟩, .slice none 0 0, .int .i64 0, .int .i64 0, .int .i64 0, .slice none 0 0, .int .i64 0, .slice none 0 0] 29)
  have HB0 := hid (((Below.refl w.heap.size w).alloc (Nat.le_refl _) (.cells #[.string x, .slice ah nh ch, .int .i64 sk, .int .i64 nw, .int .i64 am, .slice aa na ca, .int .i64 rm, .slice ar nr cr] 29)).alloc (by simp) (.cells #[.string ⟨#[]⟩, .slice none 0 0, .int .i64 0, .int .i64 0, .int .i64 0, .slice none 0 0, .int .i64 0, .slice none 0 0] 29))
  obtain ⟨W0, hW0⟩ : ∃ W0, (w.alloc (.cells #[.string x, .slice ah nh ch, .int .i64 sk, .int .i64 nw, .int .i64 am, .slice aa na ca, .int .i64 rm, .slice ar nr cr] 29)).alloc (.cells #[.string ⟨#[]⟩, .slice none 0 0, .int .i64 0, .int .i64 0, .int .i64 0, .slice none 0 0, .int .i64 0, .slice none 0 0] 29) = W0 := ⟨_, rfl⟩
  rw [hW0] at b1 b2 HB0
  obtain ⟨B, hB⟩ : ∃ B, w.heap.size = B := ⟨_, rfl⟩
  have HBE := hid hB
  rw [hB] at b1 b2
  have HM1 := hid b1
  have HM2 := hid b2
  clear b1 b2
  obtain ⟨⟨f0, f1, f2, f3, f4, f5, f6, f7⟩, ff⟩ := g_box8f HM1.out
  clear ff
  have HSx := hid (hS.below HB0.out)
  unfold erV
  go_enter Tryz.func26, Tryz.ntmps26
  go_wp2_with fail
  refine (CO.out _ HB0.out).mono ?_
  rintro e w1 ⟨rfl, hb1⟩
  have HBf := hid (bb HB0.out hb1)
  have HZ := hid (u_blk_below HM2.out hb1)
  have HZ1 := hid (u_blk_below HM1.out hb1)
  have e1 := (HSx.out.below hb1).cells.2
  have hB2 : 1 < B := by
    obtain ⟨t, fr, h⟩ := hS.2.1
    rw [← hB]
    exact lt_of_heap h
  have hn1 : ¬ B + 1 = 1 := by omega
  have hn2 : ¬ 1 = B + 1 := by omega
  have hn3 : ¬ B = 0 := by omega
  have hn4 : ¬ 0 = B := by omega
  clear hb1 CO f0 f1 f2 f3 f4 f5 f6 f7 hW0 hB2
  obtain ⟨⟨k0, k1, k2, k3, k4, k5, k6, k7⟩, kf⟩ := g_box8f HZ.out
  have kf0 := kf 0
  have kf1 := kf 1
  have kf2 := kf 2
  have kf3 := kf 3
  have kf4 := kf 4
  have kf5 := kf 5
  have kf6 := kf 6
  have kf7 := kf 7
  clear kf
  obtain ⟨⟨f0, f1, f2, f3, f4, f5, f6, f7⟩, ff⟩ := g_box8f HZ1.out
  clear ff
  go_wp2_with fail
  refine (CL.out _).mono ?_
  rintro e w2 ⟨rfl, hw2⟩
  obtain rfl := hw2.symm
  go_wp2_with fail
  go_region
  go_wp2_with fail
  ·
    refine bodyPost_ret (v := .tuple #[.agg #[.string ⟨#[]⟩, .slice none 0 0, .int .i64 0, .int .i64 0, .int .i64 0, .slice none 0 0, .int .i64 0, .slice none 0 0], .iface 229 (.pointer (some a1))]) (by simp [results, Tryz.results26, go_sem, k0, k1, k2, k3, k4, k5, k6, k7]) rfl ⟨rfl, ?_⟩
    refine Below.drew ?_
    iterate 8 refine Below.setCell ?_ (show w.heap.size ≤ B + 1 by omega) _
    exact HBf.out

set_option maxRecDepth 8000 in
set_option maxHeartbeats 16000000 in
theorem cLaterNoFar (g : Gt) (ah : Option Addr) (ch : Nat) (aa : Option Addr) (ca : Nat) (ar : Option Addr) (cr : Nat) (d : Int) (a0 a1 : Addr) (w : World) (hS : SenAt a0 a1 w) (hR : GtRow w g ah aa ar) (hz : GtSz 1048576 g) (hg : gateB g = true) (hd : 0 ≤ d) (hx : ¬ d ≤ 3155759999) :
    Calls Tryz.prog 26 #[gtV g ah ch aa ca ar cr, .int .i64 d] w fun e w' => e = .returned (.tuple #[.agg #[.string ⟨#[]⟩, .slice none 0 0, .int .i64 0, .int .i64 0, .int .i64 0, .slice none 0 0, .int .i64 0, .slice none 0 0], erV (.base a1)]) ∧ Below w.heap.size w w' := by
  have CO := hid (fun wx (h : Below w.heap.size w wx) => cGateOkI g ah ch aa ca ar cr wx (hR.below h) hz)
  rw [hg] at CO
  have CL := hid (fun wx => cLaterI g.now d wx)
  rw [later_out hd hx] at CL
  have hd' : ¬ d < 0 := by omega
  have CT := hid (fun wx => cTimeI (-1) wx)
  clear hR hz hg
  unfold gtV at CO ⊢
  generalize g.name = x at *
  generalize g.skew = sk at *
  generalize g.now = nw at *
  generalize g.ask.most = am at *
  generalize g.hrd.most = rm at *
  generalize g.hands.length = nh at *
  generalize g.ask.rows.length = na at *
  generalize g.hrd.rows.length = nr at *
  obtain ⟨b1, b2⟩ := u_heap2 w (.cells #[.string x, .slice ah nh ch, .int .i64 sk, .int .i64 nw, .int .i64 am, .slice aa na ca, .int .i64 rm, .slice ar nr cr] 29) (.cells #[.string ⟨#[]⟩, .slice none 0 0, .int .i64 0, .int .i64 0, .int .i64 0, .slice none 0 0, .int .i64 0, .slice none 0 0] 29)
  have HB0 := hid (((Below.refl w.heap.size w).alloc (Nat.le_refl _) (.cells #[.string x, .slice ah nh ch, .int .i64 sk, .int .i64 nw, .int .i64 am, .slice aa na ca, .int .i64 rm, .slice ar nr cr] 29)).alloc (by simp) (.cells #[.string ⟨#[]⟩, .slice none 0 0, .int .i64 0, .int .i64 0, .int .i64 0, .slice none 0 0, .int .i64 0, .slice none 0 0] 29))
  obtain ⟨W0, hW0⟩ : ∃ W0, (w.alloc (.cells #[.string x, .slice ah nh ch, .int .i64 sk, .int .i64 nw, .int .i64 am, .slice aa na ca, .int .i64 rm, .slice ar nr cr] 29)).alloc (.cells #[.string ⟨#[]⟩, .slice none 0 0, .int .i64 0, .int .i64 0, .int .i64 0, .slice none 0 0, .int .i64 0, .slice none 0 0] 29) = W0 := ⟨_, rfl⟩
  rw [hW0] at b1 b2 HB0
  obtain ⟨B, hB⟩ : ∃ B, w.heap.size = B := ⟨_, rfl⟩
  have HBE := hid hB
  rw [hB] at b1 b2
  have HM1 := hid b1
  have HM2 := hid b2
  clear b1 b2
  obtain ⟨⟨f0, f1, f2, f3, f4, f5, f6, f7⟩, ff⟩ := g_box8f HM1.out
  clear ff
  have HSx := hid (hS.below HB0.out)
  unfold erV
  go_enter Tryz.func26, Tryz.ntmps26
  go_wp2_with fail
  refine (CO.out _ HB0.out).mono ?_
  rintro e w1 ⟨rfl, hb1⟩
  have HBf := hid (bb HB0.out hb1)
  have HZ := hid (u_blk_below HM2.out hb1)
  have HZ1 := hid (u_blk_below HM1.out hb1)
  have e1 := (HSx.out.below hb1).cells.2
  have hB2 : 1 < B := by
    obtain ⟨t, fr, h⟩ := hS.2.1
    rw [← hB]
    exact lt_of_heap h
  have hn1 : ¬ B + 1 = 1 := by omega
  have hn2 : ¬ 1 = B + 1 := by omega
  have hn3 : ¬ B = 0 := by omega
  have hn4 : ¬ 0 = B := by omega
  clear hb1 CO f0 f1 f2 f3 f4 f5 f6 f7 hW0 hB2
  obtain ⟨⟨k0, k1, k2, k3, k4, k5, k6, k7⟩, kf⟩ := g_box8f HZ.out
  have kf0 := kf 0
  have kf1 := kf 1
  have kf2 := kf 2
  have kf3 := kf 3
  have kf4 := kf 4
  have kf5 := kf 5
  have kf6 := kf 6
  have kf7 := kf 7
  clear kf
  obtain ⟨⟨f0, f1, f2, f3, f4, f5, f6, f7⟩, ff⟩ := g_box8f HZ1.out
  clear ff
  go_wp2_with fail
  refine (CL.out _).mono ?_
  rintro e w2 ⟨rfl, hw2⟩
  obtain rfl := hw2.symm
  go_wp2_with fail
  refine (CT.out _).mono ?_
  rintro e w3 ⟨rfl, hw3⟩
  obtain rfl := hw3.symm
  go_wp2_with fail
  go_region
  go_wp2_with fail
  ·
    refine bodyPost_ret (v := .tuple #[.agg #[.string ⟨#[]⟩, .slice none 0 0, .int .i64 0, .int .i64 0, .int .i64 0, .slice none 0 0, .int .i64 0, .slice none 0 0], .iface 229 (.pointer (some a1))]) (by simp [results, Tryz.results26, go_sem, k0, k1, k2, k3, k4, k5, k6, k7]) rfl ⟨rfl, ?_⟩
    refine Below.drew ?_
    iterate 8 refine Below.setCell ?_ (show w.heap.size ≤ B + 1 by omega) _
    exact HBf.out

end Go.Proofs.YtajlgnlifffanaaGreatDoor

namespace Go.Proofs.YtajlgnlifffanaaGreatDoor
open Go.RowKit
set_option linter.unusedVariables false
set_option linter.unusedSimpArgs false

theorem fin_gate {x : ByteArray} {nh : Nat} {sk nw am rm : Int} {sa sr : List Ro} {lh : List Hd} {N : Gt} {B p : Nat} {w1 w6 w7 w9 wv : World} {K6 K7 K9 : Nat} {a6 a7 a9 : Option Addr} {c6 c7 c9 : Nat}
    (HB : wv.heap[p]? = some (.cells #[.string x, .slice a9 nh c9, .int .i64 sk, .int .i64 nw, .int .i64 am, .slice a6 sa.length c6, .int .i64 rm, .slice a7 sr.length c7] 29 (0, 0))) (hk : u_KeepB (fun b => b = p) w9 wv) (HZ : w9.heap[B + 1]? = some (.cells #[.string ⟨#[]⟩, .slice none 0 0, .int .i64 0, .int .i64 0, .int .i64 0, .slice none 0 0, .int .i64 0, .slice none 0 0] 29 (0, 0))) (hf : Below w1.heap.size w1 w9)
    (hB : B + 1 < w1.heap.size) (hpl : w1.heap.size ≤ p) (o6 : OwnRo w6 K6 a6 sa) (p6 : p < K6 ∨ w6.heap.size ≤ p) (s6 : w1.heap.size ≤ K6) (o7 : OwnRo w7 K7 a7 sr) (p7 : p < K7 ∨ w7.heap.size ≤ p) (s7 : w6.heap.size ≤ K7) (r7 : w1.heap.size ≤ w6.heap.size)
    (b6 : Below w6.heap.size w6 w7) (b7 : Below w7.heap.size w7 w9) (o9 : OwnHd w9 K9 a9 lh) (p9 : p < K9 ∨ w9.heap.size ≤ p) (s9 : w1.heap.size ≤ K9)
    (FIN : ∀ (w6 w7 wz : World) (K6 K7 K9 : Nat) (a6 a7 a9 : Option Addr), OwnRo w6 K6 a6 sa → w6.heap.size ≤ K7 → OwnRo w7 K7 a7 sr → OwnRo wz K6 a6 sa → OwnRo wz K7 a7 sr → OwnHd wz K9 a9 lh → ∀ Bx : Nat, Bx ≤ K6 → Bx ≤ K7 → Bx ≤ K9 → GtOwn wz Bx N a9 a6 a7) :
    ∃ q b6 d6 b7 d7 b9 d9, Value.pointer (some ⟨p, 0, none⟩) = .pointer (some ⟨q, 0, none⟩) ∧ wv.heap[q]? = some (.cells #[.string x, .slice b9 nh d9, .int .i64 sk, .int .i64 nw, .int .i64 am, .slice b6 sa.length d6, .int .i64 rm, .slice b7 sr.length d7] 29 (0, 0)) ∧ wv.heap[B + 1]? = some (.cells #[.string ⟨#[]⟩, .slice none 0 0, .int .i64 0, .int .i64 0, .int .i64 0, .slice none 0 0, .int .i64 0, .slice none 0 0] 29 (0, 0)) ∧ w1.heap.size ≤ q ∧ (∀ u, GtOwn (wv.setCell ⟨q, 3, none⟩ u) w1.heap.size N b9 b6 b7) ∧ Below w1.heap.size w1 wv := by
  refine ⟨p, a6, c6, a7, c7, a9, c9, rfl, HB, (hk.block _ (lt_of_heap HZ) (fun e => by have e' : B + 1 = p := e; omega)).trans HZ, hpl, fun u => ?_, ?_⟩
  · have hk2 := hk.trans (u_KeepB.of_set (p := fun b => b = p) (g := p) _ 3 u rfl)
    exact FIN w6 w7 _ K6 K7 K9 a6 a7 a9 o6 s7 o7 (ro_stands o6 (bb b6 b7) hk2 p6) (ro_stands o7 b7 hk2 p7) (hd_stands o9 (Below.refl _ _) hk2 p9) _ s6 (Nat.le_trans r7 s7) s9
  · exact hf.trans (hk.below hf.size (fun b e => by rw [show b = p from e]; exact hpl))

set_option maxRecDepth 8000 in
set_option maxHeartbeats 16000000 in
theorem cLaterYes (g : Gt) (ah : Option Addr) (ch : Nat) (aa : Option Addr) (ca : Nat) (ar : Option Addr) (cr : Nat) (d : Int) (w : World) (hR : GtRow w g ah aa ar) (hz : GtSz 1048576 g) (hg : gateB g = true) (hd : 0 ≤ d ∧ d ≤ 3155759999) :
    Calls Tryz.prog 26 #[gtV g ah ch aa ca ar cr, .int .i64 d] w fun e w' => ∃ ah' ch' aa' ca' ar' cr', e = .returned (.tuple #[gtV (lateG g (laterOf g.now d)) ah' ch' aa' ca' ar' cr', .nilIface]) ∧ GtOwn w' w.heap.size (lateG g (laterOf g.now d)) ah' aa' ar' ∧ Below w.heap.size w w' := by
  have CO := hid (fun wx (h : Below w.heap.size w wx) => cGateOkI g ah ch aa ca ar cr wx (hR.below h) hz)
  rw [hg] at CO
  obtain ⟨p1, p2, p3, p4⟩ := gate_p hg
  obtain ⟨r1, r2, r3⟩ := gate_rows hg
  obtain ⟨z1, z2, z3, z4, z5, z6, z7⟩ := hz
  have hL := later_in p2 hd
  have CL := hid (fun wx => cLaterI g.now d wx)
  have HGL := hid (show ∀ a1 c1 a2 c2 a3 c3, gtV (lateG g (laterOf g.now d)) a1 c1 a2 c2 a3 c3 = .agg #[.string g.name, .slice a1 g.hands.length c1, .int .i64 g.skew, .int .i64 (laterOf g.now d), .int .i64 g.ask.most, .slice a2 (sweepR g.ask.rows (laterOf g.now d)).length c2, .int .i64 g.hrd.most, .slice a3 (sweepR g.hrd.rows (laterOf g.now d)).length c3] from fun a1 c1 a2 c2 a3 c3 => rfl)
  have HFIN := hid (fun (w6 w7 wz : World) (K6 K7 K9 : Nat) (a6 a7 a9 : Option Addr) (o6 : OwnRo w6 K6 a6 (sweepR g.ask.rows (laterOf g.now d))) (hK : w6.heap.size ≤ K7) (o7 : OwnRo w7 K7 a7 (sweepR g.hrd.rows (laterOf g.now d))) (z6 : OwnRo wz K6 a6 (sweepR g.ask.rows (laterOf g.now d))) (z7 : OwnRo wz K7 a7 (sweepR g.hrd.rows (laterOf g.now d))) (z9 : OwnHd wz K9 a9 g.hands) (Bx : Nat) (q6 : Bx ≤ K6) (q7 : Bx ≤ K7) (q9 : Bx ≤ K9) => (show GtOwn wz Bx (lateG g (laterOf g.now d)) a9 a6 a7 from ⟨z9.mono q9, z6.mono q6, z7.mono q7, apart_of o6 hK o7⟩))
  have CT := hid (fun wx => cTimeI (laterOf g.now d) wx)
  rw [decide_eq_true hL] at CT
  have hU : utmB (laterOf g.now d) = true := decide_eq_true hL
  have CA := fun wx (h : Below w.heap.size w wx) => (cSweptI g.ask aa ca (laterOf g.now d) wx (hR.2.1.below h) z4 z5).mono (R' := fun e w' => ∃ a' c', e = .returned (tbV (sweptT g.ask (laterOf g.now d)) a' c') ∧ OwnRo w' wx.heap.size a' (sweptT g.ask (laterOf g.now d)).rows ∧ Below wx.heap.size wx w') (fun e w' hh => by
    obtain ⟨a', c', h1, h2, h3⟩ := hh
    exact ⟨a', c', h1, h2, h3⟩)
  have CR := fun wx (h : Below w.heap.size w wx) => (cSweptI g.hrd ar cr (laterOf g.now d) wx (hR.2.2.below h) z6 z7).mono (R' := fun e w' => ∃ a' c', e = .returned (tbV (sweptT g.hrd (laterOf g.now d)) a' c') ∧ OwnRo w' wx.heap.size a' (sweptT g.hrd (laterOf g.now d)).rows ∧ Below wx.heap.size wx w') (fun e w' hh => by
    obtain ⟨a', c', h1, h2, h3⟩ := hh
    exact ⟨a', c', h1, h2, h3⟩)
  rw [sweptT_t (by rw [p3, hU]; rfl)] at CA
  rw [sweptT_t (by rw [p4, hU]; rfl)] at CR
  replace CA := hid CA
  replace CR := hid CR
  have CG := hid (fun (aa' : Option Addr) (ca' : Nat) (ar' : Option Addr) (cr' : Nat) wx (h : Below w.heap.size w wx) => (cGateWith g.name g.hands ah ch g.skew g.now g.ask.most aa g.ask.rows.length ca g.hrd.most ar g.hrd.rows.length cr g.ask.most aa' (sweepR g.ask.rows (laterOf g.now d)).length ca' g.hrd.most ar' (sweepR g.hrd.rows (laterOf g.now d)).length cr' wx (hR.1.below h) z2 r1 z1).mono (R' := fun e w' => ∃ ah' ch', e = .returned (.agg #[.string g.name, .slice ah' g.hands.length ch', .int .i64 g.skew, .int .i64 g.now, .int .i64 g.ask.most, .slice aa' (sweepR g.ask.rows (laterOf g.now d)).length ca', .int .i64 g.hrd.most, .slice ar' (sweepR g.hrd.rows (laterOf g.now d)).length cr']) ∧ OwnHd w' wx.heap.size ah' g.hands ∧ Below wx.heap.size wx w') (fun e w' hh => by
    obtain ⟨a', c', h1, h2, h3⟩ := hh
    obtain ⟨a2, c2, e2, h4⟩ := own_hd h2 rfl
    cases e2
    exact ⟨a', c', h1, h4, h3⟩))
  have HOWN := hid (fun (wx : World) (Bx : Nat) (a b c : Option Addr) (h : GtOwn wx Bx (lateG g (laterOf g.now d)) a b c) (R : Nat) (hR : R < Bx) => own_set8 h hR)
  have hd0 : ¬ d < 0 := by omega
  clear hR z1 z2 z3 z4 z5 z6 z7 r1 r2 r3 p1 p2 p3 p4 hg hL hd hU
  obtain ⟨N, hN⟩ : ∃ N, lateG g (laterOf g.now d) = N := ⟨_, rfl⟩
  rw [hN] at HFIN HOWN ⊢
  simp only [hN] at HGL
  clear hN
  unfold gtV at CO
  rw [show gtV g ah ch aa ca ar cr = .agg #[.string g.name, .slice ah g.hands.length ch, .int .i64 g.skew, .int .i64 g.now, .int .i64 g.ask.most, .slice aa g.ask.rows.length ca, .int .i64 g.hrd.most, .slice ar g.hrd.rows.length cr] from rfl]
  unfold tbV at CA CR
  dsimp only at CA CR
  generalize g.name = x at *
  generalize g.skew = sk at *
  generalize g.now = nw at *
  generalize g.ask.most = am at *
  generalize g.hrd.most = rm at *
  generalize g.hands.length = nh at *
  generalize laterOf nw d = L at *
  generalize sweepR g.ask.rows L = sa at *
  generalize sweepR g.hrd.rows L = sr at *
  generalize g.ask.rows.length = na at *
  generalize g.hrd.rows.length = nr at *
  obtain ⟨b1, b2⟩ := u_heap2 w (.cells #[.string x, .slice ah nh ch, .int .i64 sk, .int .i64 nw, .int .i64 am, .slice aa na ca, .int .i64 rm, .slice ar nr cr] 29) (.cells #[.string ⟨#[]⟩, .slice none 0 0, .int .i64 0, .int .i64 0, .int .i64 0, .slice none 0 0, .int .i64 0, .slice none 0 0] 29)
  have HB0 := hid (((Below.refl w.heap.size w).alloc (Nat.le_refl _) (.cells #[.string x, .slice ah nh ch, .int .i64 sk, .int .i64 nw, .int .i64 am, .slice aa na ca, .int .i64 rm, .slice ar nr cr] 29)).alloc (by simp) (.cells #[.string ⟨#[]⟩, .slice none 0 0, .int .i64 0, .int .i64 0, .int .i64 0, .slice none 0 0, .int .i64 0, .slice none 0 0] 29))
  obtain ⟨W0, hW0⟩ : ∃ W0, (w.alloc (.cells #[.string x, .slice ah nh ch, .int .i64 sk, .int .i64 nw, .int .i64 am, .slice aa na ca, .int .i64 rm, .slice ar nr cr] 29)).alloc (.cells #[.string ⟨#[]⟩, .slice none 0 0, .int .i64 0, .int .i64 0, .int .i64 0, .slice none 0 0, .int .i64 0, .slice none 0 0] 29) = W0 := ⟨_, rfl⟩
  rw [hW0] at b1 b2 HB0
  obtain ⟨B, hB⟩ : ∃ B, w.heap.size = B := ⟨_, rfl⟩
  have HBE := hid hB
  rw [hB] at b1 b2
  have HM1 := hid b1
  have HM2 := hid b2
  clear b1 b2
  obtain ⟨⟨f0, f1, f2, f3, f4, f5, f6, f7⟩, ff⟩ := g_box8f HM1.out
  clear ff

  go_enter Tryz.func26, Tryz.ntmps26
  go_wp2_with fail
  refine (CO.out _ HB0.out).mono ?_
  rintro e w1 ⟨rfl, hb1⟩
  have HBi := hid (bb HB0.out hb1)
  have HZ := hid (u_blk_below HM2.out hb1)
  have HZ1 := hid (u_blk_below HM1.out hb1)
  clear hb1 CO f0 f1 f2 f3 f4 f5 f6 f7 hW0
  obtain ⟨⟨f0, f1, f2, f3, f4, f5, f6, f7⟩, ff⟩ := g_box8f HZ1.out
  clear ff

  go_wp2_with fail
  refine (CL.out _).mono ?_
  rintro e w2 ⟨rfl, hw2⟩
  obtain rfl := hw2.symm
  go_wp2_with fail
  refine (CT.out _).mono ?_
  rintro e w3 ⟨rfl, hw3⟩
  obtain rfl := hw3.symm
  go_upto_region 6 with fail
  clear f0 f1 f2 f3 f4 f5 f6 f7
  have HLT := hid (show B + 1 < w1.heap.size from lt_of_heap HZ.out)
  go_cut [7] from 26 to 38 (fun v wv => Hid (∃ p a6 c6 a7 c7 a9 c9, v = .pointer (some ⟨p, 0, none⟩) ∧ wv.heap[p]? = some (.cells #[.string x, .slice a9 nh c9, .int .i64 sk, .int .i64 nw, .int .i64 am, .slice a6 sa.length c6, .int .i64 rm, .slice a7 sr.length c7] 29 (0, 0)) ∧ wv.heap[B + 1]? = some (.cells #[.string ⟨#[]⟩, .slice none 0 0, .int .i64 0, .int .i64 0, .int .i64 0, .slice none 0 0, .int .i64 0, .slice none 0 0] 29 (0, 0)) ∧ w1.heap.size ≤ p ∧ (∀ u, GtOwn (wv.setCell ⟨p, 3, none⟩ u) w1.heap.size N a9 a6 a7) ∧ Below w1.heap.size w1 wv))
  case first =>
    have HBf := hid ((Below.refl w1.heap.size w1).drew)
    have HBc := hid (HBf.out.mono (Nat.le_of_lt HLT.out))
    have HSX := hid (show ∀ w', Below (B + 1) w1 w' → (w'.cell? ⟨B, 0, none⟩ = some (.string x) ∧ w'.cell? ⟨B, 1, none⟩ = some (.slice ah nh ch) ∧ w'.cell? ⟨B, 2, none⟩ = some (.int .i64 sk) ∧ w'.cell? ⟨B, 3, none⟩ = some (.int .i64 nw) ∧ w'.cell? ⟨B, 4, none⟩ = some (.int .i64 am) ∧ w'.cell? ⟨B, 5, none⟩ = some (.slice aa na ca) ∧ w'.cell? ⟨B, 6, none⟩ = some (.int .i64 rm) ∧ w'.cell? ⟨B, 7, none⟩ = some (.slice ar nr cr)) from fun w' hb => (g_box8f ((hb.block B (by omega)).trans HZ1.out)).1)
    have HQ1 := hid (show B + 1 ≤ w1.drew.heap.size from Nat.le_of_lt HLT.out)
    have HND := hid (show ((w1.alloc (.cells #[.string ⟨#[]⟩, .slice none 0 0, .int .i64 0, .int .i64 0, .int .i64 0, .slice none 0 0, .int .i64 0, .slice none 0 0] 29)).drew).heap[w1.heap.size]? = some (.cells #[.string ⟨#[]⟩, .slice none 0 0, .int .i64 0, .int .i64 0, .int .i64 0, .slice none 0 0, .int .i64 0, .slice none 0 0] 29) from by have h := ((Below.refl (w1.heap.size + 1) (w1.alloc (.cells #[.string ⟨#[]⟩, .slice none 0 0, .int .i64 0, .int .i64 0, .int .i64 0, .slice none 0 0, .int .i64 0, .slice none 0 0] 29))).drew).block w1.heap.size (Nat.lt_succ_self _); exact h.trans (heap_alloc_new w1 (.cells #[.string ⟨#[]⟩, .slice none 0 0, .int .i64 0, .int .i64 0, .int .i64 0, .slice none 0 0, .int .i64 0, .slice none 0 0] 29)))
    have HBA := hid (fun o => ((Below.refl (B + 1) w1).alloc (Nat.le_of_lt HLT.out) o).drew)
    have HBD := hid (fun o => ((Below.refl w1.heap.size w1).alloc (Nat.le_refl _) o).drew)
    have HQ := HQ1
    go_region_held3 (fun w' => (w'.cell? ⟨B, 0, none⟩ = some (.string x) ∧ w'.cell? ⟨B, 1, none⟩ = some (.slice ah nh ch) ∧ w'.cell? ⟨B, 2, none⟩ = some (.int .i64 sk) ∧ w'.cell? ⟨B, 3, none⟩ = some (.int .i64 nw) ∧ w'.cell? ⟨B, 4, none⟩ = some (.int .i64 am) ∧ w'.cell? ⟨B, 5, none⟩ = some (.slice aa na ca) ∧ w'.cell? ⟨B, 6, none⟩ = some (.int .i64 rm) ∧ w'.cell? ⟨B, 7, none⟩ = some (.slice ar nr cr))) (first | with_reducible exact HSX.out _ HBc.out | with_reducible exact HSX.out _ (HBc.out.alloc HQ.out _) | with_reducible exact HSX.out _ (HBA.out _) | (refine HSX.out _ ?_; (iterate 8 refine Below.setCell ?_ (by first | with_reducible exact HQ9.out | with_reducible exact HQ7.out | with_reducible exact HQ6.out | with_reducible exact Nat.le_of_lt HLT.out | with_reducible exact HQ1.out) _); first | with_reducible exact HBc.out | with_reducible exact HBc.out.alloc HQ.out _))
      (first
        | (go_at_call 65; with_reducible refine (CA.out _ (by first | with_reducible exact bb HBi.out HBf.out | with_reducible exact bb HBi.out (HBf.out.alloc HBf.out.size _) | with_reducible exact bb HBi.out (HBD.out _))).mono ?_; rintro e w6 ⟨a6, c6, rfl, ho6, hb6⟩; have HO6 := hid ho6; have HBn := hid (show Below w1.heap.size w1 w6 from by first | with_reducible exact bb HBf.out hb6 | with_reducible exact bb (HBf.out.alloc HBf.out.size _) hb6 | with_reducible exact bb (HBD.out _) hb6); clear HBf; have HBf := HBn; clear HBn; have HS6 := hid HBf.out.size; replace HBc := hid (HBf.out.mono (Nat.le_of_lt HLT.out)); have HQ6 := hid (show B + 1 ≤ w6.heap.size from Nat.le_trans (Nat.le_of_lt HLT.out) HBf.out.size); replace HQ := HQ6; (first | (replace HNx := hid (u_blk_below HNx.out (show Below _ _ w6 from by first | with_reducible exact hb6 | with_reducible exact H0.out))) | (have HNx := hid (u_blk_below HND.out hb6)) | (have HNx := hid (u_blk_below (heap_alloc_new _ (.cells #[.string ⟨#[]⟩, .slice none 0 0, .int .i64 0, .int .i64 0, .int .i64 0, .slice none 0 0, .int .i64 0, .slice none 0 0] 29)) hb6)) | skip); (try have HP6 := hid (lt_of_heap HNx.out)); clear ho6 hb6)
        | (go_at_call 65; with_reducible refine (CR.out _ (by first | with_reducible exact bb HBi.out HBf.out | with_reducible exact bb HBi.out (HBf.out.alloc HBf.out.size _))).mono ?_; rintro e w7 ⟨a7, c7, rfl, ho7, hb7⟩; have HO7 := hid ho7; have HBn := hid (show Below w1.heap.size w1 w7 from by first | with_reducible exact bb HBf.out hb7 | with_reducible exact bb (HBf.out.alloc HBf.out.size _) hb7); have H6 := hid (show Below w6.heap.size w6 w7 from by first | with_reducible exact hb7 | with_reducible exact bb ((Below.refl _ _).alloc (Nat.le_refl _) _) hb7); clear HBf; have HBf := HBn; clear HBn; replace HBc := hid (HBf.out.mono (Nat.le_of_lt HLT.out)); have HQ7 := hid (show B + 1 ≤ w7.heap.size from Nat.le_trans (Nat.le_of_lt HLT.out) HBf.out.size); replace HQ := HQ7; (first | (replace HNx := hid (u_blk_below HNx.out (show Below _ _ w7 from by first | with_reducible exact hb7 | with_reducible exact H6.out))) | (have HNx := hid (u_blk_below (heap_alloc_new _ (.cells #[.string ⟨#[]⟩, .slice none 0 0, .int .i64 0, .int .i64 0, .int .i64 0, .slice none 0 0, .int .i64 0, .slice none 0 0] 29)) hb7)) | skip); (try have HP7 := hid (lt_of_heap HNx.out)); clear ho7 hb7)
        | (go_at_call 64; with_reducible refine (CG.out a6 c6 a7 c7 _ (by first | with_reducible exact bb HBi.out HBf.out | with_reducible exact bb HBi.out (HBf.out.alloc HBf.out.size _))).mono ?_; rintro e w9 ⟨a9, c9, rfl, ho9, hb9⟩; have HO9 := hid ho9; have HBn := hid (show Below w1.heap.size w1 w9 from by first | with_reducible exact bb HBf.out hb9 | with_reducible exact bb (HBf.out.alloc HBf.out.size _) hb9); have H7 := hid (show Below w7.heap.size w7 w9 from by first | with_reducible exact hb9 | with_reducible exact bb ((Below.refl _ _).alloc (Nat.le_refl _) _) hb9); clear HBf; have HBf := HBn; clear HBn; replace HBc := hid (HBf.out.mono (Nat.le_of_lt HLT.out)); have HQ9 := hid (show B + 1 ≤ w9.heap.size from Nat.le_trans (Nat.le_of_lt HLT.out) HBf.out.size); replace HQ := HQ9; (first | (replace HNx := hid (u_blk_below HNx.out (show Below _ _ w9 from by first | with_reducible exact hb9 | with_reducible exact H7.out))) | (have HNx := hid (u_blk_below (heap_alloc_new _ (.cells #[.string ⟨#[]⟩, .slice none 0 0, .int .i64 0, .int .i64 0, .int .i64 0, .slice none 0 0, .int .i64 0, .slice none 0 0] 29)) hb9)) | skip);  (first | (have HNy := hid HNx.out) | (have HNy := hid (heap_alloc_new w9 (.cells #[.string ⟨#[]⟩, .slice none 0 0, .int .i64 0, .int .i64 0, .int .i64 0, .slice none 0 0, .int .i64 0, .slice none 0 0] 29)))); obtain ⟨⟨n0, n1, n2, n3, n4, n5, n6, n7⟩, nf⟩ := g_box8f HNy.out; have nf0 := nf 0; have nf1 := nf 1; have nf2 := nf 2; have nf3 := nf 3; have nf4 := nf 4; have nf5 := nf 5; have nf6 := nf 6; have nf7 := nf 7; have HZ9 := hid (u_blk_below HZ.out HBf.out); clear nf; (try (have m := (show w9.heap[w1.heap.size]? = some (.cells #[.string ⟨#[]⟩, .slice none 0 0, .int .i64 0, .int .i64 0, .int .i64 0, .slice none 0 0, .int .i64 0, .slice none 0 0] 29 (0, 0)) from HNx.out); obtain ⟨⟨m0, m1, m2, m3, m4, m5, m6, m7⟩, mf⟩ := g_box8f m; have mf0 := mf 0; have mf1 := mf 1; have mf2 := mf 2; have mf3 := mf 3; have mf4 := mf 4; have mf5 := mf 5; have mf6 := mf 6; have mf7 := mf 7; clear mf)); clear ho9 hb9))
    all_goals
      go_wp2_with fail
      go_meet
      refine hid ?_
      first
        | (have _hh := HP6.out; exact fin_gate (box8_new HNy.out _ _ _ _ _ _ _ _) (keep8 w9 _ _ _ _ _ _ _ _ _) HZ9.out HBf.out HLT.out (Nat.le_refl _) HO6.out (.inl (lt_of_heap HND.out)) (Nat.le_of_lt (lt_of_heap HND.out)) HO7.out (.inl HP6.out) (Nat.le_refl _) HS6.out H6.out H7.out HO9.out (.inl HP7.out) (Nat.le_trans HS6.out H6.out.size) HFIN.out)
        | (have _hh := HP7.out; exact fin_gate (box8_new HNy.out _ _ _ _ _ _ _ _) (keep8 w9 _ _ _ _ _ _ _ _ _) HZ9.out HBf.out HLT.out HS6.out HO6.out (.inr (Nat.le_refl _)) ((Below.refl w1.heap.size w1).drew).size HO7.out (.inl (lt_of_heap (heap_alloc_new w6 (.cells #[.string ⟨#[]⟩, .slice none 0 0, .int .i64 0, .int .i64 0, .int .i64 0, .slice none 0 0, .int .i64 0, .slice none 0 0] 29)))) (Nat.le_of_lt (lt_of_heap (heap_alloc_new w6 (.cells #[.string ⟨#[]⟩, .slice none 0 0, .int .i64 0, .int .i64 0, .int .i64 0, .slice none 0 0, .int .i64 0, .slice none 0 0] 29)))) HS6.out H6.out H7.out HO9.out (.inl HP7.out) (Nat.le_trans HS6.out H6.out.size) HFIN.out)
        | (have _hh := HNx.out; exact fin_gate (box8_new HNy.out _ _ _ _ _ _ _ _) (keep8 w9 _ _ _ _ _ _ _ _ _) HZ9.out HBf.out HLT.out (Nat.le_trans HS6.out H6.out.size) HO6.out (.inr H6.out.size) ((Below.refl w1.heap.size w1).drew).size HO7.out (.inr (Nat.le_refl _)) (Nat.le_refl _) HS6.out H6.out H7.out HO9.out (.inl (lt_of_heap (heap_alloc_new w7 (.cells #[.string ⟨#[]⟩, .slice none 0 0, .int .i64 0, .int .i64 0, .int .i64 0, .slice none 0 0, .int .i64 0, .slice none 0 0] 29)))) (Nat.le_trans (Nat.le_trans HS6.out H6.out.size) (Nat.le_of_lt (lt_of_heap (heap_alloc_new w7 (.cells #[.string ⟨#[]⟩, .slice none 0 0, .int .i64 0, .int .i64 0, .int .i64 0, .slice none 0 0, .int .i64 0, .slice none 0 0] 29))))) HFIN.out)
        | (exact fin_gate (heap_alloc_new w9 _) (u_KeepB.of_below _ ((Below.refl w9.heap.size w9).alloc (Nat.le_refl _) _)) HZ9.out HBf.out HLT.out HBf.out.size HO6.out (.inr (Nat.le_trans H6.out.size H7.out.size)) ((Below.refl w1.heap.size w1).drew).size HO7.out (.inr H7.out.size) (Nat.le_refl _) HS6.out H6.out H7.out HO9.out (.inr (Nat.le_refl _)) (Nat.le_trans HS6.out H6.out.size) HFIN.out)
  case rest =>
    obtain ⟨p, a6, c6, a7, c7, a9, c9, rfl, hp, hz, hpl, hown, hbv⟩ := hcut.out
    have HOW := hid (hown (.int .i64 L))
    have HBV := hid hbv
    have hne : ¬ p = B + 1 := by have := HLT.out; omega
    have HP := hid (show (wc.setCell ⟨p, 3, none⟩ (.int .i64 L)).heap[p]? = some (.cells #[.string x, .slice a9 nh c9, .int .i64 sk, .int .i64 L, .int .i64 am, .slice a6 sa.length c6, .int .i64 rm, .slice a7 sr.length c7] 29 (0, 0)) from box8_set hp 3 (.int .i64 L))
    have HZ := hid (((u_KeepB.of_set (p := fun b => b = p) (g := p) wc 3 (.int .i64 L) rfl).block (B + 1) (lt_of_heap hz) (fun e => hne (show B + 1 = p from e).symm)).trans hz)
    have HB2 := hid (hbv.setCell (p := ⟨p, 3, none⟩) hpl (.int .i64 L))
    obtain ⟨⟨n0, n1, n2, n3, n4, n5, n6, n7⟩, nf⟩ := g_box8f hp
    have nf3 := nf 3
    clear nf hcut hown hbv hp hz n0 n1 n2 n4 n5 n6 n7 hne
    go_upto_region 8 with fail
    obtain ⟨W9, hW9⟩ : ∃ W9, wc.setCell ⟨p, 3, none⟩ (.int .i64 L) = W9 := ⟨_, rfl⟩
    rw [hW9] at HOW HP HZ HB2 ⊢
    clear hW9 n3 nf3
    obtain ⟨⟨n0, n1, n2, n3, n4, n5, n6, n7⟩, nf⟩ := g_box8f HP.out
    clear nf
    obtain ⟨⟨k0, k1, k2, k3, k4, k5, k6, k7⟩, kf⟩ := g_box8f HZ.out
    have kf0 := kf 0
    have kf1 := kf 1
    have kf2 := kf 2
    have kf3 := kf 3
    have kf4 := kf 4
    have kf5 := kf 5
    have kf6 := kf 6
    have kf7 := kf 7
    clear kf

    go_wp2_with fail
    refine bodyPost_ret (v := .tuple #[.agg #[.string x, .slice a9 nh c9, .int .i64 sk, .int .i64 L, .int .i64 am, .slice a6 sa.length c6, .int .i64 rm, .slice a7 sr.length c7], .nilIface]) (by simp [results, Tryz.results26, go_sem, k0, k1, k2, k3, k4, k5, k6, k7]) rfl ⟨a9, c9, a6, c6, a7, c7, by rw [HGL.out], ?_, ?_⟩
    · refine (HOWN.out _ _ _ _ _ HOW.out (B + 1) HLT.out _ _ _ _ _ _ _ _).mono ?_
      exact (HBi.out).size
    · iterate 8 refine Below.setCell ?_ (show w.heap.size ≤ B + 1 by omega) _
      exact bb HBi.out HB2.out

end Go.Proofs.YtajlgnlifffanaaGreatDoor

namespace Go.Proofs.YtajlgnlifffanaaGreatDoor
open Go.RowKit
set_option linter.unusedVariables false
set_option linter.unusedSimpArgs false

set_option maxRecDepth 8000 in
set_option maxHeartbeats 16000000 in
theorem cTickedBad (g : Gt) (ah : Option Addr) (ch : Nat) (aa : Option Addr) (ca : Nat) (ar : Option Addr) (cr : Nat) (d : Int) (a0 a1 : Addr) (w : World) (hS : SenAt a0 a1 w) (hR : GtRow w g ah aa ar) (hz : GtSz 1048576 g) (hg : gateB g = false) :
    Calls Tryz.prog 7 #[gtV g ah ch aa ca ar cr, .int .i64 d] w fun e w' => e = .returned (.tuple #[.agg #[.string ⟨#[]⟩, .slice none 0 0, .int .i64 0, .int .i64 0, .int .i64 0, .slice none 0 0, .int .i64 0, .slice none 0 0], .bool false]) ∧ Below w.heap.size w w' := by
  have CL := hid (fun wx (h : Below w.heap.size w wx) => cLaterBad g ah ch aa ca ar cr d a0 a1 wx (hS.below h) (hR.below h) hz hg)
  have HSN := hid hS
  have CS := hid (fun (x : ByteArray) (nh : Nat) (sk nw am : Int) (na : Nat) (rm : Int) (nr : Nat) wx (h : SenAt a0 a1 wx) => cSettledBad x ah nh ch sk nw am aa na ca rm ar nr cr ⟨#[]⟩ none 0 0 0 0 0 none 0 0 0 none 0 0 a0 a1 wx h)
  unfold gtV at CL
  unfold erV at CL CS
  rw [show gtV g ah ch aa ca ar cr = .agg #[.string g.name, .slice ah g.hands.length ch, .int .i64 g.skew, .int .i64 g.now, .int .i64 g.ask.most, .slice aa g.ask.rows.length ca, .int .i64 g.hrd.most, .slice ar g.hrd.rows.length cr] from rfl]
  clear hR hz hS
  generalize g.name = x at *
  generalize g.skew = sk at *
  generalize g.now = nw at *
  generalize g.ask.most = am at *
  generalize g.hrd.most = rm at *
  generalize g.hands.length = nh at *
  generalize g.ask.rows.length = na at *
  generalize g.hrd.rows.length = nr at *
  obtain ⟨b1, b2⟩ := u_heap2 w (.cells #[.string x, .slice ah nh ch, .int .i64 sk, .int .i64 nw, .int .i64 am, .slice aa na ca, .int .i64 rm, .slice ar nr cr] 29) (.cells #[.string ⟨#[]⟩, .slice none 0 0, .int .i64 0, .int .i64 0, .int .i64 0, .slice none 0 0, .int .i64 0, .slice none 0 0] 29)
  have HB0 := hid (((Below.refl w.heap.size w).alloc (Nat.le_refl _) (.cells #[.string x, .slice ah nh ch, .int .i64 sk, .int .i64 nw, .int .i64 am, .slice aa na ca, .int .i64 rm, .slice ar nr cr] 29)).alloc (by simp) (.cells #[.string ⟨#[]⟩, .slice none 0 0, .int .i64 0, .int .i64 0, .int .i64 0, .slice none 0 0, .int .i64 0, .slice none 0 0] 29))
  obtain ⟨W0, hW0⟩ : ∃ W0, (w.alloc (.cells #[.string x, .slice ah nh ch, .int .i64 sk, .int .i64 nw, .int .i64 am, .slice aa na ca, .int .i64 rm, .slice ar nr cr] 29)).alloc (.cells #[.string ⟨#[]⟩, .slice none 0 0, .int .i64 0, .int .i64 0, .int .i64 0, .slice none 0 0, .int .i64 0, .slice none 0 0] 29) = W0 := ⟨_, rfl⟩
  rw [hW0] at b1 b2 HB0
  obtain ⟨B, hB⟩ : ∃ B, w.heap.size = B := ⟨_, rfl⟩
  have HBE := hid hB
  rw [hB] at b1 b2
  have HM1 := hid b1
  have HM2 := hid b2
  clear b1 b2
  obtain ⟨⟨f0, f1, f2, f3, f4, f5, f6, f7⟩, ff⟩ := g_box8f HM1.out
  clear ff

  go_enter Tryz.func7, Tryz.ntmps7
  go_wp2_with fail
  refine (CL.out _ HB0.out).mono ?_
  rintro e w1 ⟨rfl, hb1⟩
  have HBi := hid (bb HB0.out hb1)
  have HZ := hid (u_blk_below HM2.out hb1)
  have HZ1 := hid (u_blk_below HM1.out hb1)
  have HLT := hid (show B + 1 < w1.heap.size from lt_of_heap HZ.out)
  clear hb1 CL f0 f1 f2 f3 f4 f5 f6 f7 hW0
  go_upto_region 2 with fail
  have HB2 := hid ((Below.refl w1.heap.size w1).alloc (Nat.le_refl _) (.cells #[.string ⟨#[]⟩, .slice none 0 0, .int .i64 0, .int .i64 0, .int .i64 0, .slice none 0 0, .int .i64 0, .slice none 0 0] 29))
  have HMM := hid (heap_alloc_new w1 (.cells #[.string ⟨#[]⟩, .slice none 0 0, .int .i64 0, .int .i64 0, .int .i64 0, .slice none 0 0, .int .i64 0, .slice none 0 0] 29))
  obtain ⟨w2, hw2⟩ : ∃ w2, w1.alloc (.cells #[.string ⟨#[]⟩, .slice none 0 0, .int .i64 0, .int .i64 0, .int .i64 0, .slice none 0 0, .int .i64 0, .slice none 0 0] 29) = w2 := ⟨_, rfl⟩
  rw [hw2] at HB2 HMM ⊢
  clear hw2
  obtain ⟨M, hM⟩ : ∃ M, w1.heap.size = M := ⟨_, rfl⟩
  have HME := hid hM
  rw [hM] at HMM ⊢
  clear hM
  have HMB := hid (show B + 1 < M from HME.out ▸ HLT.out)
  have HZ2 := hid (u_blk_below HZ.out HB2.out)
  have HZ12 := hid (u_blk_below HZ1.out HB2.out)
  have HBc := hid (u_KeepB.of_below (fun b => b = B + 1) ((Below.refl w2.heap.size w2).drew))
  have HBb := hid ((Below.refl w2.heap.size w2).drew)
  have HSX := hid (show ∀ w', u_KeepB (fun b => b = B + 1) w2 w' → (w'.cell? ⟨B, 0, none⟩ = some (.string x) ∧ w'.cell? ⟨B, 1, none⟩ = some (.slice ah nh ch) ∧ w'.cell? ⟨B, 2, none⟩ = some (.int .i64 sk) ∧ w'.cell? ⟨B, 3, none⟩ = some (.int .i64 nw) ∧ w'.cell? ⟨B, 4, none⟩ = some (.int .i64 am) ∧ w'.cell? ⟨B, 5, none⟩ = some (.slice aa na ca) ∧ w'.cell? ⟨B, 6, none⟩ = some (.int .i64 rm) ∧ w'.cell? ⟨B, 7, none⟩ = some (.slice ar nr cr) ∧ w'.cell? ⟨M, 0, none⟩ = some (.string ⟨#[]⟩) ∧ w'.cell? ⟨M, 1, none⟩ = some (.slice none 0 0) ∧ w'.cell? ⟨M, 2, none⟩ = some (.int .i64 0) ∧ w'.cell? ⟨M, 3, none⟩ = some (.int .i64 0) ∧ w'.cell? ⟨M, 4, none⟩ = some (.int .i64 0) ∧ w'.cell? ⟨M, 5, none⟩ = some (.slice none 0 0) ∧ w'.cell? ⟨M, 6, none⟩ = some (.int .i64 0) ∧ w'.cell? ⟨M, 7, none⟩ = some (.slice none 0 0)) from fun w' hk => by
    obtain ⟨q0, q1, q2, q3, q4, q5, q6, q7⟩ := (g_box8f ((hk.block B (lt_of_heap HZ12.out) (fun e => by have e' : B = B + 1 := e; omega)).trans HZ12.out)).1
    obtain ⟨p0, p1, p2, p3, p4, p5, p6, p7⟩ := (g_box8f ((hk.block M (lt_of_heap HMM.out) (fun e => by have e' : M = B + 1 := e; have := HMB.out; omega)).trans HMM.out)).1
    exact ⟨q0, q1, q2, q3, q4, q5, q6, q7, p0, p1, p2, p3, p4, p5, p6, p7⟩)
  go_region_held3 (fun w' => (w'.cell? ⟨B, 0, none⟩ = some (.string x) ∧ w'.cell? ⟨B, 1, none⟩ = some (.slice ah nh ch) ∧ w'.cell? ⟨B, 2, none⟩ = some (.int .i64 sk) ∧ w'.cell? ⟨B, 3, none⟩ = some (.int .i64 nw) ∧ w'.cell? ⟨B, 4, none⟩ = some (.int .i64 am) ∧ w'.cell? ⟨B, 5, none⟩ = some (.slice aa na ca) ∧ w'.cell? ⟨B, 6, none⟩ = some (.int .i64 rm) ∧ w'.cell? ⟨B, 7, none⟩ = some (.slice ar nr cr) ∧ w'.cell? ⟨M, 0, none⟩ = some (.string ⟨#[]⟩) ∧ w'.cell? ⟨M, 1, none⟩ = some (.slice none 0 0) ∧ w'.cell? ⟨M, 2, none⟩ = some (.int .i64 0) ∧ w'.cell? ⟨M, 3, none⟩ = some (.int .i64 0) ∧ w'.cell? ⟨M, 4, none⟩ = some (.int .i64 0) ∧ w'.cell? ⟨M, 5, none⟩ = some (.slice none 0 0) ∧ w'.cell? ⟨M, 6, none⟩ = some (.int .i64 0) ∧ w'.cell? ⟨M, 7, none⟩ = some (.slice none 0 0))) (first | with_reducible exact HSX.out _ HBc.out | with_reducible exact HSX.out _ (HBc.out.trans (keep8 _ _ _ _ _ _ _ _ _ _)))
    ((go_at_call 27; with_reducible refine (CS.out _ _ _ _ _ _ _ _ _ (HSN.out.below (bb HBi.out (bb HB2.out HBb.out)))).mono ?_; rintro e w3 ⟨rfl, hb3⟩; replace HBb := hid (bb HBb.out hb3); replace HBc := hid (u_KeepB.of_below (fun b => b = B + 1) HBb.out); have HZ3 := hid (u_blk_below HZ2.out HBb.out); obtain ⟨⟨k0, k1, k2, k3, k4, k5, k6, k7⟩, kf⟩ := g_box8f HZ3.out; have kf0 := kf 0; have kf1 := kf 1; have kf2 := kf 2; have kf3 := kf 3; have kf4 := kf 4; have kf5 := kf 5; have kf6 := kf 6; have kf7 := kf 7; clear kf; clear hb3))
  go_wp2_with fail
  refine bodyPost_ret (v := .tuple #[.agg #[.string ⟨#[]⟩, .slice none 0 0, .int .i64 0, .int .i64 0, .int .i64 0, .slice none 0 0, .int .i64 0, .slice none 0 0], .bool false]) (by simp [results, Tryz.results7, go_sem, k0, k1, k2, k3, k4, k5, k6, k7]) rfl ⟨rfl, ?_⟩
  · iterate 8 refine Below.setCell ?_ (show w.heap.size ≤ B + 1 by omega) _
    exact bb HBi.out (bb HB2.out HBb.out)

set_option maxRecDepth 8000 in
set_option maxHeartbeats 16000000 in
theorem cTickedOld (g : Gt) (ah : Option Addr) (ch : Nat) (aa : Option Addr) (ca : Nat) (ar : Option Addr) (cr : Nat) (d : Int) (a0 a1 : Addr) (w : World) (hS : SenAt a0 a1 w) (hR : GtRow w g ah aa ar) (hz : GtSz 1048576 g) (hg : gateB g = true) (hd : ¬ (0 ≤ d ∧ d ≤ 3155759999)) :
    Calls Tryz.prog 7 #[gtV g ah ch aa ca ar cr, .int .i64 d] w fun e w' => ∃ ah' ch' aa' ca' ar' cr', e = .returned (.tuple #[gtV g ah' ch' aa' ca' ar' cr', .bool false]) ∧ GtOwn w' w.heap.size g ah' aa' ar' ∧ Below w.heap.size w w' := by
  have CL := hid (fun wx (h : Below w.heap.size w wx) => show Calls Tryz.prog 26 #[gtV g ah ch aa ca ar cr, .int .i64 d] wx fun e w' => e = .returned (.tuple #[.agg #[.string ⟨#[]⟩, .slice none 0 0, .int .i64 0, .int .i64 0, .int .i64 0, .slice none 0 0, .int .i64 0, .slice none 0 0], erV (.base a1)]) ∧ Below wx.heap.size wx w' from by
    by_cases h0 : d < 0
    · exact cLaterNoNeg g ah ch aa ca ar cr d a0 a1 wx (hS.below h) (hR.below h) hz hg h0
    · exact cLaterNoFar g ah ch aa ca ar cr d a0 a1 wx (hS.below h) (hR.below h) hz hg (by omega) (by omega))
  have HSN := hid hS
  have CS := hid (fun wx (h : Below w.heap.size w wx) => cSettledOld g ah ch aa ca ar cr ⟨#[]⟩ none 0 0 0 0 0 none 0 0 0 none 0 0 a0 a1 wx (hS.below h) (hR.below h) hz (gate_rows hg).1 (gate_rows hg).2.1 (gate_rows hg).2.2)
  have HGV := hid (show ∀ a1 c1 a2 c2 a3 c3, gtV g a1 c1 a2 c2 a3 c3 = .agg #[.string g.name, .slice a1 g.hands.length c1, .int .i64 g.skew, .int .i64 g.now, .int .i64 g.ask.most, .slice a2 g.ask.rows.length c2, .int .i64 g.hrd.most, .slice a3 g.hrd.rows.length c3] from fun a1 c1 a2 c2 a3 c3 => rfl)
  have HOWN := hid (fun (wx : World) (Bx : Nat) (a b c : Option Addr) (h : GtOwn wx Bx g a b c) (R : Nat) (hR : R < Bx) => own_set8 h hR)
  unfold gtV at CL CS
  unfold erV at CL CS
  simp only [HGV.out]
  clear hR hz hS
  generalize g.name = x at *
  generalize g.skew = sk at *
  generalize g.now = nw at *
  generalize g.ask.most = am at *
  generalize g.hrd.most = rm at *
  generalize g.hands.length = nh at *
  generalize g.ask.rows.length = na at *
  generalize g.hrd.rows.length = nr at *
  obtain ⟨b1, b2⟩ := u_heap2 w (.cells #[.string x, .slice ah nh ch, .int .i64 sk, .int .i64 nw, .int .i64 am, .slice aa na ca, .int .i64 rm, .slice ar nr cr] 29) (.cells #[.string ⟨#[]⟩, .slice none 0 0, .int .i64 0, .int .i64 0, .int .i64 0, .slice none 0 0, .int .i64 0, .slice none 0 0] 29)
  have HB0 := hid (((Below.refl w.heap.size w).alloc (Nat.le_refl _) (.cells #[.string x, .slice ah nh ch, .int .i64 sk, .int .i64 nw, .int .i64 am, .slice aa na ca, .int .i64 rm, .slice ar nr cr] 29)).alloc (by simp) (.cells #[.string ⟨#[]⟩, .slice none 0 0, .int .i64 0, .int .i64 0, .int .i64 0, .slice none 0 0, .int .i64 0, .slice none 0 0] 29))
  obtain ⟨W0, hW0⟩ : ∃ W0, (w.alloc (.cells #[.string x, .slice ah nh ch, .int .i64 sk, .int .i64 nw, .int .i64 am, .slice aa na ca, .int .i64 rm, .slice ar nr cr] 29)).alloc (.cells #[.string ⟨#[]⟩, .slice none 0 0, .int .i64 0, .int .i64 0, .int .i64 0, .slice none 0 0, .int .i64 0, .slice none 0 0] 29) = W0 := ⟨_, rfl⟩
  rw [hW0] at b1 b2 HB0
  obtain ⟨B, hB⟩ : ∃ B, w.heap.size = B := ⟨_, rfl⟩
  have HBE := hid hB
  rw [hB] at b1 b2
  have HM1 := hid b1
  have HM2 := hid b2
  clear b1 b2
  obtain ⟨⟨f0, f1, f2, f3, f4, f5, f6, f7⟩, ff⟩ := g_box8f HM1.out
  clear ff

  go_enter Tryz.func7, Tryz.ntmps7
  go_wp2_with fail
  refine (CL.out _ HB0.out).mono ?_
  rintro e w1 ⟨rfl, hb1⟩
  have HBi := hid (bb HB0.out hb1)
  have HZ := hid (u_blk_below HM2.out hb1)
  have HZ1 := hid (u_blk_below HM1.out hb1)
  have HLT := hid (show B + 1 < w1.heap.size from lt_of_heap HZ.out)
  clear hb1 CL f0 f1 f2 f3 f4 f5 f6 f7 hW0
  go_upto_region 2 with fail
  have HB2 := hid ((Below.refl w1.heap.size w1).alloc (Nat.le_refl _) (.cells #[.string ⟨#[]⟩, .slice none 0 0, .int .i64 0, .int .i64 0, .int .i64 0, .slice none 0 0, .int .i64 0, .slice none 0 0] 29))
  have HMM := hid (heap_alloc_new w1 (.cells #[.string ⟨#[]⟩, .slice none 0 0, .int .i64 0, .int .i64 0, .int .i64 0, .slice none 0 0, .int .i64 0, .slice none 0 0] 29))
  obtain ⟨w2, hw2⟩ : ∃ w2, w1.alloc (.cells #[.string ⟨#[]⟩, .slice none 0 0, .int .i64 0, .int .i64 0, .int .i64 0, .slice none 0 0, .int .i64 0, .slice none 0 0] 29) = w2 := ⟨_, rfl⟩
  rw [hw2] at HB2 HMM ⊢
  clear hw2
  obtain ⟨M, hM⟩ : ∃ M, w1.heap.size = M := ⟨_, rfl⟩
  have HME := hid hM
  rw [hM] at HMM ⊢
  clear hM
  have HMB := hid (show B + 1 < M from HME.out ▸ HLT.out)
  have HZ2 := hid (u_blk_below HZ.out HB2.out)
  have HZ12 := hid (u_blk_below HZ1.out HB2.out)
  have HBc := hid (u_KeepB.of_below (fun b => b = B + 1) ((Below.refl w2.heap.size w2).drew))
  have HBb := hid ((Below.refl w2.heap.size w2).drew)
  have HSX := hid (show ∀ w', u_KeepB (fun b => b = B + 1) w2 w' → (w'.cell? ⟨B, 0, none⟩ = some (.string x) ∧ w'.cell? ⟨B, 1, none⟩ = some (.slice ah nh ch) ∧ w'.cell? ⟨B, 2, none⟩ = some (.int .i64 sk) ∧ w'.cell? ⟨B, 3, none⟩ = some (.int .i64 nw) ∧ w'.cell? ⟨B, 4, none⟩ = some (.int .i64 am) ∧ w'.cell? ⟨B, 5, none⟩ = some (.slice aa na ca) ∧ w'.cell? ⟨B, 6, none⟩ = some (.int .i64 rm) ∧ w'.cell? ⟨B, 7, none⟩ = some (.slice ar nr cr) ∧ w'.cell? ⟨M, 0, none⟩ = some (.string ⟨#[]⟩) ∧ w'.cell? ⟨M, 1, none⟩ = some (.slice none 0 0) ∧ w'.cell? ⟨M, 2, none⟩ = some (.int .i64 0) ∧ w'.cell? ⟨M, 3, none⟩ = some (.int .i64 0) ∧ w'.cell? ⟨M, 4, none⟩ = some (.int .i64 0) ∧ w'.cell? ⟨M, 5, none⟩ = some (.slice none 0 0) ∧ w'.cell? ⟨M, 6, none⟩ = some (.int .i64 0) ∧ w'.cell? ⟨M, 7, none⟩ = some (.slice none 0 0)) from fun w' hk => by
    obtain ⟨q0, q1, q2, q3, q4, q5, q6, q7⟩ := (g_box8f ((hk.block B (lt_of_heap HZ12.out) (fun e => by have e' : B = B + 1 := e; omega)).trans HZ12.out)).1
    obtain ⟨p0, p1, p2, p3, p4, p5, p6, p7⟩ := (g_box8f ((hk.block M (lt_of_heap HMM.out) (fun e => by have e' : M = B + 1 := e; have := HMB.out; omega)).trans HMM.out)).1
    exact ⟨q0, q1, q2, q3, q4, q5, q6, q7, p0, p1, p2, p3, p4, p5, p6, p7⟩)
  go_region_held3 (fun w' => (w'.cell? ⟨B, 0, none⟩ = some (.string x) ∧ w'.cell? ⟨B, 1, none⟩ = some (.slice ah nh ch) ∧ w'.cell? ⟨B, 2, none⟩ = some (.int .i64 sk) ∧ w'.cell? ⟨B, 3, none⟩ = some (.int .i64 nw) ∧ w'.cell? ⟨B, 4, none⟩ = some (.int .i64 am) ∧ w'.cell? ⟨B, 5, none⟩ = some (.slice aa na ca) ∧ w'.cell? ⟨B, 6, none⟩ = some (.int .i64 rm) ∧ w'.cell? ⟨B, 7, none⟩ = some (.slice ar nr cr) ∧ w'.cell? ⟨M, 0, none⟩ = some (.string ⟨#[]⟩) ∧ w'.cell? ⟨M, 1, none⟩ = some (.slice none 0 0) ∧ w'.cell? ⟨M, 2, none⟩ = some (.int .i64 0) ∧ w'.cell? ⟨M, 3, none⟩ = some (.int .i64 0) ∧ w'.cell? ⟨M, 4, none⟩ = some (.int .i64 0) ∧ w'.cell? ⟨M, 5, none⟩ = some (.slice none 0 0) ∧ w'.cell? ⟨M, 6, none⟩ = some (.int .i64 0) ∧ w'.cell? ⟨M, 7, none⟩ = some (.slice none 0 0))) (first | with_reducible exact HSX.out _ HBc.out | with_reducible exact HSX.out _ (HBc.out.trans (keep8 _ _ _ _ _ _ _ _ _ _)))
    ((go_at_call 27; with_reducible refine (CS.out _ (bb HBi.out (bb HB2.out HBb.out))).mono ?_; rintro e w3 ⟨h1, e1, h2, e2, h3, e3, rfl, ho3, hb3⟩; replace HBb := hid (bb HBb.out hb3); replace HBc := hid (u_KeepB.of_below (fun b => b = B + 1) HBb.out); have HZ3 := hid (u_blk_below HZ2.out HBb.out); obtain ⟨⟨k0, k1, k2, k3, k4, k5, k6, k7⟩, kf⟩ := g_box8f HZ3.out; have kf0 := kf 0; have kf1 := kf 1; have kf2 := kf 2; have kf3 := kf 3; have kf4 := kf 4; have kf5 := kf 5; have kf6 := kf 6; have kf7 := kf 7; clear kf; have HO3 := hid ho3; have HP3 := hid HBb.out.size; clear ho3 hb3))
  go_wp2_with fail
  refine bodyPost_ret (v := .tuple #[.agg #[.string x, .slice h1 nh e1, .int .i64 sk, .int .i64 nw, .int .i64 am, .slice h2 na e2, .int .i64 rm, .slice h3 nr e3], .bool false]) (by simp [results, Tryz.results7, go_sem, k0, k1, k2, k3, k4, k5, k6, k7]) rfl ⟨h1, e1, h2, e2, h3, e3, rfl, ?_, ?_⟩
  · refine (HOWN.out _ _ _ _ _ HO3.out (B + 1) (by have := HLT.out; have := HB2.out.size; have := ((Below.refl w2.heap.size w2).drew).size; omega) _ _ _ _ _ _ _ _).mono ?_
    exact (bb HBi.out (bb HB2.out ((Below.refl w2.heap.size w2).drew))).size
  · iterate 8 refine Below.setCell ?_ (show w.heap.size ≤ B + 1 by omega) _
    exact bb HBi.out (bb HB2.out HBb.out)

set_option maxRecDepth 8000 in
set_option maxHeartbeats 16000000 in
theorem cTickedLate (g : Gt) (ah : Option Addr) (ch : Nat) (aa : Option Addr) (ca : Nat) (ar : Option Addr) (cr : Nat) (d : Int) (a0 a1 : Addr) (w : World) (hS : SenAt a0 a1 w) (hR : GtRow w g ah aa ar) (hz : GtSz 1048576 g) (hg : gateB g = true) (hd : 0 ≤ d ∧ d ≤ 3155759999) :
    Calls Tryz.prog 7 #[gtV g ah ch aa ca ar cr, .int .i64 d] w fun e w' => ∃ ah' ch' aa' ca' ar' cr', e = .returned (.tuple #[gtV (lateG g (laterOf g.now d)) ah' ch' aa' ca' ar' cr', .bool true]) ∧ GtOwn w' w.heap.size (lateG g (laterOf g.now d)) ah' aa' ar' ∧ Below w.heap.size w w' := by
  have CL := hid (fun wx (h : Below w.heap.size w wx) => cLaterYes g ah ch aa ca ar cr d wx (hR.below h) hz hg hd)
  have HGL := hid (show ∀ a1 c1 a2 c2 a3 c3, gtV (lateG g (laterOf g.now d)) a1 c1 a2 c2 a3 c3 = .agg #[.string g.name, .slice a1 g.hands.length c1, .int .i64 g.skew, .int .i64 (laterOf g.now d), .int .i64 g.ask.most, .slice a2 (sweepR g.ask.rows (laterOf g.now d)).length c2, .int .i64 g.hrd.most, .slice a3 (sweepR g.hrd.rows (laterOf g.now d)).length c3] from fun a1 c1 a2 c2 a3 c3 => rfl)
  have HOWN := hid (fun (wx : World) (Bx : Nat) (a b c : Option Addr) (h : GtOwn wx Bx (lateG g (laterOf g.now d)) a b c) (R : Nat) (hR : R < Bx) => own_set8 h hR)
  have HSZ := hid (show ∀ wx a b c, GtOwn wx w.heap.size (lateG g (laterOf g.now d)) a b c → True from fun _ _ _ _ _ => trivial)
  have CS := hid (fun (x : ByteArray) (nh : Nat) (sk nw am : Int) (na : Nat) (rm : Int) (nr : Nat) (h1 : Option Addr) (e1 : Nat) (L : Int) (h2 : Option Addr) (n2 e2 : Nat) (h3 : Option Addr) (n3 e3 : Nat) wx => cSettledNil x ah nh ch sk nw am aa na ca rm ar nr cr x h1 nh e1 sk L am h2 n2 e2 rm h3 n3 e3 wx)
  obtain ⟨N, hN⟩ : ∃ N, lateG g (laterOf g.now d) = N := ⟨_, rfl⟩
  rw [hN] at CL HOWN HSZ ⊢
  simp only [hN] at HGL
  have HSB := hid (show ∀ (wx wy : World) (Bx : Nat) (a b c : Option Addr), GtOwn wx Bx N a b c → Below wx.heap.size wx wy → GtOwn wy Bx N a b c from fun wx wy Bx a b c h hb => h.below hb)
  simp only [HGL.out] at CL ⊢
  clear hN hg
  rw [show gtV g ah ch aa ca ar cr = .agg #[.string g.name, .slice ah g.hands.length ch, .int .i64 g.skew, .int .i64 g.now, .int .i64 g.ask.most, .slice aa g.ask.rows.length ca, .int .i64 g.hrd.most, .slice ar g.hrd.rows.length cr] from rfl] at CL
  generalize laterOf g.now d = L at *
  generalize sweepR g.ask.rows L = sa at *
  generalize sweepR g.hrd.rows L = sr at *
  rw [show gtV g ah ch aa ca ar cr = .agg #[.string g.name, .slice ah g.hands.length ch, .int .i64 g.skew, .int .i64 g.now, .int .i64 g.ask.most, .slice aa g.ask.rows.length ca, .int .i64 g.hrd.most, .slice ar g.hrd.rows.length cr] from rfl]
  clear hR hz hS
  generalize g.name = x at *
  generalize g.skew = sk at *
  generalize g.now = nw at *
  generalize g.ask.most = am at *
  generalize g.hrd.most = rm at *
  generalize g.hands.length = nh at *
  generalize g.ask.rows.length = na at *
  generalize g.hrd.rows.length = nr at *
  obtain ⟨b1, b2⟩ := u_heap2 w (.cells #[.string x, .slice ah nh ch, .int .i64 sk, .int .i64 nw, .int .i64 am, .slice aa na ca, .int .i64 rm, .slice ar nr cr] 29) (.cells #[.string ⟨#[]⟩, .slice none 0 0, .int .i64 0, .int .i64 0, .int .i64 0, .slice none 0 0, .int .i64 0, .slice none 0 0] 29)
  have HB0 := hid (((Below.refl w.heap.size w).alloc (Nat.le_refl _) (.cells #[.string x, .slice ah nh ch, .int .i64 sk, .int .i64 nw, .int .i64 am, .slice aa na ca, .int .i64 rm, .slice ar nr cr] 29)).alloc (by simp) (.cells #[.string ⟨#[]⟩, .slice none 0 0, .int .i64 0, .int .i64 0, .int .i64 0, .slice none 0 0, .int .i64 0, .slice none 0 0] 29))
  obtain ⟨W0, hW0⟩ : ∃ W0, (w.alloc (.cells #[.string x, .slice ah nh ch, .int .i64 sk, .int .i64 nw, .int .i64 am, .slice aa na ca, .int .i64 rm, .slice ar nr cr] 29)).alloc (.cells #[.string ⟨#[]⟩, .slice none 0 0, .int .i64 0, .int .i64 0, .int .i64 0, .slice none 0 0, .int .i64 0, .slice none 0 0] 29) = W0 := ⟨_, rfl⟩
  rw [hW0] at b1 b2 HB0
  obtain ⟨B, hB⟩ : ∃ B, w.heap.size = B := ⟨_, rfl⟩
  have HBE := hid hB
  rw [hB] at b1 b2
  have HM1 := hid b1
  have HM2 := hid b2
  clear b1 b2
  obtain ⟨⟨f0, f1, f2, f3, f4, f5, f6, f7⟩, ff⟩ := g_box8f HM1.out
  clear ff

  go_enter Tryz.func7, Tryz.ntmps7
  go_wp2_with fail
  refine (CL.out _ HB0.out).mono ?_
  rintro e w1 ⟨h1, e1, h2, e2, h3, e3, rfl, ho1, hb1⟩
  have HO1 := hid ho1
  clear ho1
  have HBi := hid (bb HB0.out hb1)
  have HZ := hid (u_blk_below HM2.out hb1)
  have HZ1 := hid (u_blk_below HM1.out hb1)
  have HLT := hid (show B + 1 < w1.heap.size from lt_of_heap HZ.out)
  clear hb1 CL f0 f1 f2 f3 f4 f5 f6 f7 hW0
  go_upto_region 2 with fail
  have HB2 := hid ((Below.refl w1.heap.size w1).alloc (Nat.le_refl _) (.cells #[.string x, .slice h1 nh e1, .int .i64 sk, .int .i64 L, .int .i64 am, .slice h2 sa.length e2, .int .i64 rm, .slice h3 sr.length e3] 29))
  have HMM := hid (heap_alloc_new w1 (.cells #[.string x, .slice h1 nh e1, .int .i64 sk, .int .i64 L, .int .i64 am, .slice h2 sa.length e2, .int .i64 rm, .slice h3 sr.length e3] 29))
  obtain ⟨w2, hw2⟩ : ∃ w2, w1.alloc (.cells #[.string x, .slice h1 nh e1, .int .i64 sk, .int .i64 L, .int .i64 am, .slice h2 sa.length e2, .int .i64 rm, .slice h3 sr.length e3] 29) = w2 := ⟨_, rfl⟩
  rw [hw2] at HB2 HMM ⊢
  clear hw2
  obtain ⟨M, hM⟩ : ∃ M, w1.heap.size = M := ⟨_, rfl⟩
  have HME := hid hM
  rw [hM] at HMM ⊢
  clear hM
  have HMB := hid (show B + 1 < M from HME.out ▸ HLT.out)
  have HZ2 := hid (u_blk_below HZ.out HB2.out)
  have HZ12 := hid (u_blk_below HZ1.out HB2.out)
  have HBc := hid (u_KeepB.of_below (fun b => b = B + 1) ((Below.refl w2.heap.size w2).drew))
  have HBb := hid ((Below.refl w2.heap.size w2).drew)
  have HSX := hid (show ∀ w', u_KeepB (fun b => b = B + 1) w2 w' → (w'.cell? ⟨B, 0, none⟩ = some (.string x) ∧ w'.cell? ⟨B, 1, none⟩ = some (.slice ah nh ch) ∧ w'.cell? ⟨B, 2, none⟩ = some (.int .i64 sk) ∧ w'.cell? ⟨B, 3, none⟩ = some (.int .i64 nw) ∧ w'.cell? ⟨B, 4, none⟩ = some (.int .i64 am) ∧ w'.cell? ⟨B, 5, none⟩ = some (.slice aa na ca) ∧ w'.cell? ⟨B, 6, none⟩ = some (.int .i64 rm) ∧ w'.cell? ⟨B, 7, none⟩ = some (.slice ar nr cr) ∧ w'.cell? ⟨M, 0, none⟩ = some (.string x) ∧ w'.cell? ⟨M, 1, none⟩ = some (.slice h1 nh e1) ∧ w'.cell? ⟨M, 2, none⟩ = some (.int .i64 sk) ∧ w'.cell? ⟨M, 3, none⟩ = some (.int .i64 L) ∧ w'.cell? ⟨M, 4, none⟩ = some (.int .i64 am) ∧ w'.cell? ⟨M, 5, none⟩ = some (.slice h2 sa.length e2) ∧ w'.cell? ⟨M, 6, none⟩ = some (.int .i64 rm) ∧ w'.cell? ⟨M, 7, none⟩ = some (.slice h3 sr.length e3)) from fun w' hk => by
    obtain ⟨q0, q1, q2, q3, q4, q5, q6, q7⟩ := (g_box8f ((hk.block B (lt_of_heap HZ12.out) (fun e => by have e' : B = B + 1 := e; omega)).trans HZ12.out)).1
    obtain ⟨p0, p1, p2, p3, p4, p5, p6, p7⟩ := (g_box8f ((hk.block M (lt_of_heap HMM.out) (fun e => by have e' : M = B + 1 := e; have := HMB.out; omega)).trans HMM.out)).1
    exact ⟨q0, q1, q2, q3, q4, q5, q6, q7, p0, p1, p2, p3, p4, p5, p6, p7⟩)
  go_region_held3 (fun w' => (w'.cell? ⟨B, 0, none⟩ = some (.string x) ∧ w'.cell? ⟨B, 1, none⟩ = some (.slice ah nh ch) ∧ w'.cell? ⟨B, 2, none⟩ = some (.int .i64 sk) ∧ w'.cell? ⟨B, 3, none⟩ = some (.int .i64 nw) ∧ w'.cell? ⟨B, 4, none⟩ = some (.int .i64 am) ∧ w'.cell? ⟨B, 5, none⟩ = some (.slice aa na ca) ∧ w'.cell? ⟨B, 6, none⟩ = some (.int .i64 rm) ∧ w'.cell? ⟨B, 7, none⟩ = some (.slice ar nr cr) ∧ w'.cell? ⟨M, 0, none⟩ = some (.string x) ∧ w'.cell? ⟨M, 1, none⟩ = some (.slice h1 nh e1) ∧ w'.cell? ⟨M, 2, none⟩ = some (.int .i64 sk) ∧ w'.cell? ⟨M, 3, none⟩ = some (.int .i64 L) ∧ w'.cell? ⟨M, 4, none⟩ = some (.int .i64 am) ∧ w'.cell? ⟨M, 5, none⟩ = some (.slice h2 sa.length e2) ∧ w'.cell? ⟨M, 6, none⟩ = some (.int .i64 rm) ∧ w'.cell? ⟨M, 7, none⟩ = some (.slice h3 sr.length e3))) (first | with_reducible exact HSX.out _ HBc.out | with_reducible exact HSX.out _ (HBc.out.trans (keep8 _ _ _ _ _ _ _ _ _ _)))
    ((go_at_call 27; with_reducible refine (CS.out _ _ _ _ _ _ _ _ _ _ _ _ _ _ _ _ _ _).mono ?_; rintro e w3 ⟨rfl, hb3⟩; replace HBb := hid (bb HBb.out hb3); replace HBc := hid (u_KeepB.of_below (fun b => b = B + 1) HBb.out); have HZ3 := hid (u_blk_below HZ2.out HBb.out); obtain ⟨⟨k0, k1, k2, k3, k4, k5, k6, k7⟩, kf⟩ := g_box8f HZ3.out; have kf0 := kf 0; have kf1 := kf 1; have kf2 := kf 2; have kf3 := kf 3; have kf4 := kf 4; have kf5 := kf 5; have kf6 := kf 6; have kf7 := kf 7; clear kf; clear hb3))
  go_wp2_with fail
  refine bodyPost_ret (v := .tuple #[.agg #[.string x, .slice h1 nh e1, .int .i64 sk, .int .i64 L, .int .i64 am, .slice h2 sa.length e2, .int .i64 rm, .slice h3 sr.length e3], .bool true]) (by simp [results, Tryz.results7, go_sem, k0, k1, k2, k3, k4, k5, k6, k7]) rfl ⟨h1, e1, h2, e2, h3, e3, rfl, ?_, ?_⟩
  · refine (HOWN.out _ _ _ _ _ (HSB.out _ _ _ _ _ _ (HSB.out _ _ _ _ _ _ HO1.out HB2.out) HBb.out) (B + 1) (lt_of_heap HM2.out) _ _ _ _ _ _ _ _).mono ?_
    exact HB0.out.size
  · iterate 8 refine Below.setCell ?_ (show w.heap.size ≤ B + 1 by omega) _
    exact bb HBi.out (bb HB2.out HBb.out)

set_option maxHeartbeats 1000000 in
theorem cTickedI (g : Gt) (ah : Option Addr) (ch : Nat) (aa : Option Addr) (ca : Nat) (ar : Option Addr) (cr : Nat) (d : Int) (a0 a1 : Addr) (w : World) (hS : SenAt a0 a1 w) (hR : GtRow w g ah aa ar) (hz : GtSz 1048576 g) :
    Calls Tryz.prog 7 #[gtV g ah ch aa ca ar cr, .int .i64 d] w fun e w' => ∃ ah' ch' aa' ca' ar' cr', e = .returned (.tuple #[gtV (tickG g d).1 ah' ch' aa' ca' ar' cr', .bool (tickG g d).2]) ∧ GtOwn w' w.heap.size (tickG g d).1 ah' aa' ar' ∧ Below w.heap.size w w' := by
  cases hg : gateB g with
  | false =>
    rw [tickG_bad hg]
    refine (cTickedBad g ah ch aa ca ar cr d a0 a1 w hS hR hz hg).mono ?_
    rintro e w' ⟨rfl, hb⟩
    exact ⟨none, 0, none, 0, none, 0, rfl, ⟨OwnHd.nil _ _ _, OwnRo.nil _ _ _, OwnRo.nil _ _ _, fun h => absurd h (Nat.lt_irrefl 0)⟩, hb⟩
  | true =>
    by_cases hd : 0 ≤ d ∧ d ≤ 3155759999
    · rw [tickG_yes hg hd]
      exact cTickedLate g ah ch aa ca ar cr d a0 a1 w hS hR hz hg hd
    · rw [tickG_no hg hd]
      exact cTickedOld g ah ch aa ca ar cr d a0 a1 w hS hR hz hg hd

end Go.Proofs.YtajlgnlifffanaaGreatDoor
