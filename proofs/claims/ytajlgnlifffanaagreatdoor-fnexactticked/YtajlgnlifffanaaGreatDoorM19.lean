/- Marks in a gate as a whole: markGate, heldGate. Tables: what entering and removing do to what is held. -/
import Derived.Test.YtajlgnlifffanaaGreatDoorM18
import Derived.Test.YtajlgnlifffanaaGreatDoorM6
namespace Go.Proofs.YtajlgnlifffanaaGreatDoor
open Go.RowKit
set_option linter.unusedVariables false
set_option linter.unusedSimpArgs false

theorem own_ro_keep {w w' : World} {p : Nat → Prop} {B : Nat} {a : Option Addr} {l : List Ro} (h : OwnRo w B a l) (hk : u_KeepB p w w') (hp : ∀ g o cu, a = some ⟨g, o, none⟩ → 0 < l.length → w.heap[g]? = some (.cells cu 83 (0, 0)) → ¬ p g) : OwnRo w' B a l := fun hl => by
  obtain ⟨g, o, cu, e1, e2, e3, e4⟩ := h hl
  exact ⟨g, o, cu, e1, e2, (hk.block g (lt_of_heap e3) (hp g o cu e1 hl e3)).trans e3, e4⟩

theorem held_h_keep {w w' : World} {p : Nat → Prop} {a : Option Addr} {n k : Nat} (h : HeldH w a n k) (hk : u_KeepB p w w') (hp : ∀ g o cu, a = some ⟨g, o, none⟩ → 0 < n → w.heap[g]? = some (.cells cu 72 (0, 0)) → ¬ p g) : HeldH w' a n k := fun hl => by
  obtain ⟨g, o, cu, e1, e3, e4⟩ := h hl
  exact ⟨g, o, cu, e1, (hk.block g (lt_of_heap e3) (hp g o cu e1 hl e3)).trans e3, e4⟩

theorem held_k_keep {w w' : World} {p : Nat → Prop} {a : Option Addr} {n k : Nat} (h : HeldK w a n k) (hk : u_KeepB p w w') (hp : ∀ g o cu, a = some ⟨g, o, none⟩ → 0 < n → w.heap[g]? = some (.cells cu 83 (0, 0)) → ¬ p g) : HeldK w' a n k := fun hl => by
  obtain ⟨g, o, cu, e1, e3, e4⟩ := h hl
  exact ⟨g, o, cu, e1, (hk.block g (lt_of_heap e3) (hp g o cu e1 hl e3)).trans e3, e4⟩

/-- No block holds hands and rows. -/
theorem hand_row {w : World} {g : Nat} {cu cv : Array Value} (h1 : w.heap[g]? = some (.cells cu 72 (0, 0))) (h2 : w.heap[g]? = some (.cells cv 83 (0, 0))) : False := by
  rw [h1] at h2
  injection h2 with h2
  injection h2 with _ ht
  exact absurd ht (by decide)

/-- A gate is marked. -/
def HeldG (w : World) (ah : Option Addr) (nh : Nat) (aa : Option Addr) (na : Nat) (ar : Option Addr) (nr : Nat) : Prop := HeldH w ah nh 1 ∧ HeldK w aa na (1 + 4 * nh) ∧ HeldK w ar nr (1 + 4 * nh + 2 * na)

theorem HeldG.below {w w' : World} {ah aa ar : Option Addr} {nh na nr : Nat} (h : HeldG w ah nh aa na ar nr) (hb : Below w.heap.size w w') : HeldG w' ah nh aa na ar nr := ⟨h.1.below hb, h.2.1.below hb, h.2.2.below hb⟩

/-- The blocks of a gate. -/
def BlkG (ah : Option Addr) (nh : Nat) (aa : Option Addr) (na : Nat) (ar : Option Addr) (nr : Nat) : Nat → Prop := fun b => BlkOf ah nh b ∨ BlkOf aa na b ∨ BlkOf ar nr b

set_option maxRecDepth 8000 in
set_option maxHeartbeats 8000000 in
theorem cMarkGate (g : Gt) (ah : Option Addr) (ch : Nat) (aa : Option Addr) (ca : Nat) (ar : Option Addr) (cr B : Nat) (w : World) (hO : GtOwn w B g ah aa ar) (hk : 1 + 4 * g.hands.length + 2 * g.ask.rows.length + 2 * g.hrd.rows.length ≤ 100000000) :
    Calls Tryz.prog 21 #[gtV g ah ch aa ca ar cr, .int .i64 1] w fun e w' => e = .returned (.int .i64 ((1 + 4 * g.hands.length + 2 * g.ask.rows.length + 2 * g.hrd.rows.length : Nat) : Int)) ∧ HeldG w' ah g.hands.length aa g.ask.rows.length ar g.hrd.rows.length ∧ u_KeepB (BlkG ah g.hands.length aa g.ask.rows.length ar g.hrd.rows.length) w w' := by
  have HX0 := hid (GtBox.new w g.name (.slice ah g.hands.length ch) g.skew g.now g.ask.most (.slice aa g.ask.rows.length ca) g.hrd.most (.slice ar g.hrd.rows.length cr) 29)
  have HB0 := hid ((Below.refl w.heap.size w).alloc (Nat.le_refl _) (.cells #[.string g.name, .slice ah g.hands.length ch, .int .i64 g.skew, .int .i64 g.now, .int .i64 g.ask.most, .slice aa g.ask.rows.length ca, .int .i64 g.hrd.most, .slice ar g.hrd.rows.length cr] 29))
  obtain ⟨W0, hW0⟩ : ∃ W0, w.alloc (.cells #[.string g.name, .slice ah g.hands.length ch, .int .i64 g.skew, .int .i64 g.now, .int .i64 g.ask.most, .slice aa g.ask.rows.length ca, .int .i64 g.hrd.most, .slice ar g.hrd.rows.length cr] 29) = W0 := ⟨_, rfl⟩
  rw [hW0] at HX0 HB0
  have C1 := hid (fun wx (h : OwnHd wx B ah g.hands) => cMarkHands ah ch B 1 g.hands wx h (by omega))
  have C2 := hid (fun wx (h : OwnRo wx B aa g.ask.rows) => cMarkTableK g.ask aa ca B (1 + 4 * g.hands.length) wx h (by omega))
  have C3 := hid (fun wx (h : OwnRo wx B ar g.hrd.rows) => cMarkTableK g.hrd ar cr B (1 + 4 * g.hands.length + 2 * g.ask.rows.length) wx h (by omega))
  have HO0 := hid (hO.below HB0.out)
  -- the blocks are not one another's
  have P1 := hid (fun (wx : World) (o1 : OwnHd wx B ah g.hands) (g0 : Nat) (cu : Array Value) (h : wx.heap[g0]? = some (.cells cu 83 (0, 0))) => (show ¬ BlkOf ah g.hands.length g0 from fun ⟨o, e, hl⟩ => by
    obtain ⟨y, _, _, e1, _, e3, _⟩ := o1 hl
    rw [e] at e1
    cases e1
    exact hand_row e3 h))
  have P2 := hid (fun (wx : World) (o2 : OwnRo wx B aa g.ask.rows) (g0 : Nat) (cu : Array Value) (h : wx.heap[g0]? = some (.cells cu 72 (0, 0))) => (show ¬ BlkOf aa g.ask.rows.length g0 from fun ⟨o, e, hl⟩ => by
    obtain ⟨y, _, _, e1, _, e3, _⟩ := o2 hl
    rw [e] at e1
    cases e1
    exact hand_row h e3))
  have P3 := hid (fun (wx : World) (o3 : OwnRo wx B ar g.hrd.rows) (g0 : Nat) (cu : Array Value) (h : wx.heap[g0]? = some (.cells cu 72 (0, 0))) => (show ¬ BlkOf ar g.hrd.rows.length g0 from fun ⟨o, e, hl⟩ => by
    obtain ⟨y, _, _, e1, _, e3, _⟩ := o3 hl
    rw [e] at e1
    cases e1
    exact hand_row h e3))
  have AP := hid (fun (g0 o : Nat) (e : ar = some ⟨g0, o, none⟩) (hr : 0 < g.hrd.rows.length) => (show ¬ BlkOf aa g.ask.rows.length g0 from fun ⟨o', e', ha⟩ => hO.2.2.2 ha hr g0 o' g0 o e' e rfl))
  have AQ := hid (fun (g0 o : Nat) (e : aa = some ⟨g0, o, none⟩) (ha : 0 < g.ask.rows.length) => (show ¬ BlkOf ar g.hrd.rows.length g0 from fun ⟨o', e', hr⟩ => hO.2.2.2 ha hr g0 o g0 o' e e' rfl))
  unfold gtV
  unfold tbV at C2 C3
  obtain ⟨l1, hl1⟩ : ∃ l, g.hands = l := ⟨_, rfl⟩
  obtain ⟨l2, hl2⟩ : ∃ l, g.ask.rows = l := ⟨_, rfl⟩
  obtain ⟨l3, hl3⟩ : ∃ l, g.hrd.rows = l := ⟨_, rfl⟩
  have HO1 := hid HO0.out.1
  have HO2 := hid HO0.out.2.1
  have HO3 := hid HO0.out.2.2.1
  clear HO0 hO
  rw [hl1] at C1 C2 C3 HX0 hW0 HO1 P1 ⊢
  rw [hl2] at C2 C3 HX0 hW0 HO2 P2 AP AQ ⊢
  rw [hl3] at C3 HX0 hW0 HO3 P3 AP AQ ⊢
  clear hl1 hl2 hl3 hk
  obtain ⟨nh, hnh⟩ : ∃ n, l1.length = n := ⟨_, rfl⟩
  obtain ⟨na, hna⟩ : ∃ n, l2.length = n := ⟨_, rfl⟩
  obtain ⟨nr, hnr⟩ : ∃ n, l3.length = n := ⟨_, rfl⟩
  have HNH := hid hnh
  have HNA := hid hna
  have HNR := hid hnr
  rw [hnh] at C1 C2 C3 HX0 hW0 P1 ⊢
  rw [hna] at C2 C3 HX0 hW0 P2 AP AQ ⊢
  rw [hnr] at C3 HX0 hW0 P3 AP AQ ⊢
  clear hnh hna hnr
  generalize g.name = x at *
  generalize g.skew = sk at *
  generalize g.now = nw at *
  generalize g.ask.most = am at *
  generalize g.hrd.most = rm at *
  unfold HeldG
  obtain ⟨K1, hK1⟩ : ∃ K, 1 + 4 * nh = K := ⟨_, rfl⟩
  rw [hK1] at C1 C2 C3 ⊢
  obtain ⟨K2, hK2⟩ : ∃ K, K1 + 2 * na = K := ⟨_, rfl⟩
  rw [hK2] at C2 C3 ⊢
  obtain ⟨K3, hK3⟩ : ∃ K, K2 + 2 * nr = K := ⟨_, rfl⟩
  rw [hK3] at C3 ⊢
  clear hK1 hK2 hK3
  have HKK := hid (u_KeepB.of_below (BlkG ah nh aa na ar nr) HB0.out)
  obtain ⟨D, hD⟩ : ∃ D, w.heap.size = D := ⟨_, rfl⟩
  rw [hD] at HX0
  -- the gate's own box is none of its rows
  have HNB := hid (fun (W : World) (b : Nat) (T : TypeId) (cu : Array Value) (hT : ¬ T = 29) (h : W.heap[b]? = some (.cells cu T (0, 0))) (hg : ∃ cv, W.heap[D]? = some (.cells cv 29 (0, 0))) => (show ¬ D = b from fun e => by
    obtain ⟨cv, hg⟩ := hg
    rw [e, h] at hg
    injection hg with hg
    injection hg with _ ht
    exact hT ht))
  have HG0 := hid (show ∃ cv, W0.heap[D]? = some (.cells cv 29 (0, 0)) from ⟨_, by rw [← hW0, ← hD]; exact heap_alloc_new _ _⟩)
  have HBX := hid (fun (W W' : World) (p : Nat → Prop) (hk : u_KeepB p W W') (hp : ¬ p D) (hx : GtBox W D x (.slice ah nh ch) sk nw am (.slice aa na ca) rm (.slice ar nr cr)) => (show GtBox W' D x (.slice ah nh ch) sk nw am (.slice aa na ca) rm (.slice ar nr cr) from by
    have hb := hk.block D hx.lt hp
    exact ⟨Nat.lt_of_lt_of_le hx.lt hk.size, (World.cell?_of_block (a := ⟨D, 0, none⟩) hb).trans hx.c0, (World.cell?_of_block (a := ⟨D, 1, none⟩) hb).trans hx.c1, (World.cell?_of_block (a := ⟨D, 2, none⟩) hb).trans hx.c2, (World.cell?_of_block (a := ⟨D, 3, none⟩) hb).trans hx.c3, (World.cell?_of_block (a := ⟨D, 4, none⟩) hb).trans hx.c4, (World.cell?_of_block (a := ⟨D, 5, none⟩) hb).trans hx.c5, (World.cell?_of_block (a := ⟨D, 6, none⟩) hb).trans hx.c6, (World.cell?_of_block (a := ⟨D, 7, none⟩) hb).trans hx.c7⟩))
  obtain ⟨f0, f1, f2, f3, f4, f5, f6, f7⟩ := HX0.out.cells
  go_enter Tryz.func21, Tryz.ntmps21
  go_wp2_with fail
  clear f0 f1 f2 f3 f4 f5 f6 f7 hW0
  refine (C1.out _ HO1.out).mono ?_
  rintro e w1 ⟨rfl, hh1, hk1⟩
  have nD1 : ¬ BlkOf ah nh D := fun ⟨o, e, hl⟩ => by
    obtain ⟨y, _, _, e1, _, e3, _⟩ := HO1.out (by rw [HNH.out]; exact hl)
    rw [e] at e1
    cases e1
    exact HNB.out W0 _ _ _ (by decide) e3 HG0.out rfl
  have HX1 := hid (HBX.out W0 w1 _ hk1 nD1 HX0.out)
  have HH1 := hid hh1
  have R2 := hid (own_ro_keep HO2.out hk1 (fun g0 o cu _ _ h => P1.out W0 HO1.out g0 cu h))
  have R3 := hid (own_ro_keep HO3.out hk1 (fun g0 o cu _ _ h => P1.out W0 HO1.out g0 cu h))
  have HG1 := hid (show ∃ cv, w1.heap[D]? = some (.cells cv 29 (0, 0)) from by
    obtain ⟨cv, h⟩ := HG0.out
    exact ⟨cv, (hk1.block D (lt_of_heap h) nD1).trans h⟩)
  have KK1 := hid (HKK.out.trans (u_KeepB.mono hk1 (q := BlkG ah nh aa na ar nr) (fun b h => .inl h)))
  clear hh1 hk1 HX0 HG0 HKK HO2 HO3 nD1 C1 HB0
  obtain ⟨f0, f1, f2, f3, f4, f5, f6, f7⟩ := HX1.out.cells
  go_wp2_with fail
  clear f0 f1 f2 f3 f4 f5 f6 f7
  refine (C2.out _ R2.out).mono ?_
  rintro e w2 ⟨rfl, hh2, hk2⟩
  have nD2 : ¬ BlkOf aa na D := fun ⟨o, e, hl⟩ => by
    obtain ⟨y, _, _, e1, _, e3, _⟩ := R2.out (by rw [HNA.out]; exact hl)
    rw [e] at e1
    cases e1
    exact HNB.out w1 _ _ _ (by decide) e3 HG1.out rfl
  have HX2 := hid (HBX.out w1 w2 _ hk2 nD2 HX1.out)
  have HH2 := hid hh2
  have HH1b := hid (held_h_keep HH1.out hk2 (fun g0 o cu _ _ h => P2.out w1 R2.out g0 cu h))
  have R3b := hid (own_ro_keep R3.out hk2 (fun g0 o cu e hl _ => AP.out g0 o e (by rw [← HNR.out]; exact hl)))
  have HG2 := hid (show ∃ cv, w2.heap[D]? = some (.cells cv 29 (0, 0)) from by
    obtain ⟨cv, h⟩ := HG1.out
    exact ⟨cv, (hk2.block D (lt_of_heap h) nD2).trans h⟩)
  have KK2 := hid (KK1.out.trans (u_KeepB.mono hk2 (q := BlkG ah nh aa na ar nr) (fun b h => .inr (.inl h))))
  clear hh2 hk2 HX1 HG1 KK1 nD2 C2 R2 R3 HH1
  obtain ⟨f0, f1, f2, f3, f4, f5, f6, f7⟩ := HX2.out.cells
  go_wp2_with fail
  clear f0 f1 f2 f3 f4 f5 f6 f7
  refine (C3.out _ R3b.out).mono ?_
  rintro e w3 ⟨rfl, hh3, hk3⟩
  have HH3 := hid hh3
  have HH1c := hid (held_h_keep HH1b.out hk3 (fun g0 o cu _ _ h => P3.out w2 R3b.out g0 cu h))
  have HH2c := hid (held_k_keep HH2.out hk3 (fun g0 o cu e hl _ => AQ.out g0 o e hl))
  have KK3 := hid (KK2.out.trans (u_KeepB.mono hk3 (q := BlkG ah nh aa na ar nr) (fun b h => .inr (.inr h))))
  clear hh3 hk3
  go_wp2_with fail
  go_ret
  exact ⟨rfl, ⟨HH1c.out, HH2c.out, HH3.out⟩, KK3.out⟩

set_option maxRecDepth 8000 in
set_option maxHeartbeats 8000000 in
theorem cHeldGate (g : Gt) (ah : Option Addr) (ch : Nat) (aa : Option Addr) (ca : Nat) (ar : Option Addr) (cr : Nat) (w : World) (hH : HeldG w ah g.hands.length aa g.ask.rows.length ar g.hrd.rows.length) (hk : 1 + 4 * g.hands.length + 2 * g.ask.rows.length + 2 * g.hrd.rows.length ≤ 100000000) :
    Calls Tryz.prog 22 #[gtV g ah ch aa ca ar cr, .int .i64 1] w fun e w' => e = .returned (.int .i64 ((1 + 4 * g.hands.length + 2 * g.ask.rows.length + 2 * g.hrd.rows.length : Nat) : Int)) ∧ Below w.heap.size w w' := by
  have HX0 := hid (GtBox.new w g.name (.slice ah g.hands.length ch) g.skew g.now g.ask.most (.slice aa g.ask.rows.length ca) g.hrd.most (.slice ar g.hrd.rows.length cr) 29)
  have HB0 := hid ((Below.refl w.heap.size w).alloc (Nat.le_refl _) (.cells #[.string g.name, .slice ah g.hands.length ch, .int .i64 g.skew, .int .i64 g.now, .int .i64 g.ask.most, .slice aa g.ask.rows.length ca, .int .i64 g.hrd.most, .slice ar g.hrd.rows.length cr] 29))
  have C1 := hid (fun wx (h : Below w.heap.size w wx) => cHeldHands ah ch g.hands.length 1 wx (hH.1.below h) (by omega))
  have C2 := hid (fun wx (h : Below w.heap.size w wx) => cHeldTableK g.ask aa ca (1 + 4 * g.hands.length) wx (hH.2.1.below h) (by omega))
  have C3 := hid (fun wx (h : Below w.heap.size w wx) => cHeldTableK g.hrd ar cr (1 + 4 * g.hands.length + 2 * g.ask.rows.length) wx (hH.2.2.below h) (by omega))
  unfold gtV
  unfold tbV at C2 C3
  clear hH hk
  generalize g.name = x at *
  generalize g.hands.length = nh at *
  generalize g.skew = sk at *
  generalize g.now = nw at *
  generalize g.ask.most = am at *
  generalize g.ask.rows.length = na at *
  generalize g.hrd.most = rm at *
  generalize g.hrd.rows.length = nr at *
  obtain ⟨K1, hK1⟩ : ∃ K, 1 + 4 * nh = K := ⟨_, rfl⟩
  rw [hK1] at C1 C2 C3 ⊢
  obtain ⟨K2, hK2⟩ : ∃ K, K1 + 2 * na = K := ⟨_, rfl⟩
  rw [hK2] at C2 C3 ⊢
  obtain ⟨K3, hK3⟩ : ∃ K, K2 + 2 * nr = K := ⟨_, rfl⟩
  rw [hK3] at C3 ⊢
  clear hK1 hK2 hK3
  have d1 : decide ((K1 : Int) < 0) = false := by simp
  have d2 : decide ((K2 : Int) < 0) = false := by simp
  have d3 : decide ((K3 : Int) < 0) = false := by simp
  obtain ⟨W0, hW0⟩ : ∃ W0, w.alloc (.cells #[.string x, .slice ah nh ch, .int .i64 sk, .int .i64 nw, .int .i64 am, .slice aa na ca, .int .i64 rm, .slice ar nr cr] 29) = W0 := ⟨_, rfl⟩
  rw [hW0] at HX0 HB0
  obtain ⟨D, hD⟩ : ∃ D, w.heap.size = D := ⟨_, rfl⟩
  rw [hD] at HX0
  obtain ⟨f0, f1, f2, f3, f4, f5, f6, f7⟩ := HX0.out.cells
  go_enter Tryz.func22, Tryz.ntmps22
  go_wp2_with fail
  clear f0 f1 f2 f3 f4 f5 f6 f7 hW0
  refine (C1.out _ HB0.out).mono ?_
  rintro e w1 ⟨rfl, hb⟩
  have HB1 := hid (bb HB0.out hb)
  have HX1 := hid (HX0.out.below hb)
  clear hb
  obtain ⟨f0, f1, f2, f3, f4, f5, f6, f7⟩ := HX1.out.cells
  go_wp2_with fail
  clear f0 f1 f2 f3 f4 f5 f6 f7
  refine (C2.out _ HB1.out).mono ?_
  rintro e w2 ⟨rfl, hb⟩
  have HB2 := hid (bb HB1.out hb)
  have HX2 := hid (HX1.out.below hb)
  clear hb
  obtain ⟨f0, f1, f2, f3, f4, f5, f6, f7⟩ := HX2.out.cells
  go_wp2_with fail
  clear f0 f1 f2 f3 f4 f5 f6 f7
  refine (C3.out _ HB2.out).mono ?_
  rintro e w3 ⟨rfl, hb⟩
  have HB3 := hid (bb HB2.out hb)
  clear hb
  go_wp2_with fail
  go_ret
  exact ⟨rfl, hD ▸ HB3.out⟩

end Go.Proofs.YtajlgnlifffanaaGreatDoor

namespace Go.Proofs.YtajlgnlifffanaaGreatDoor
open Go.RowKit
set_option linter.unusedVariables false
set_option linter.unusedSimpArgs false

/-- Right rows whose ids rise. -/
def Up (l : List Ro) : Prop := (∀ x ∈ l, roB x = true) ∧ l.Pairwise (fun x y => u_ltB x.id y.id = true)

theorem up_of {l : List Ro} (h : RowsP l l.length) : Up l := by
  refine ⟨fun x hx => ?_, List.pairwise_iff_getElem.2 fun i j hi hj hij => rise h hj hij hj⟩
  obtain ⟨i, hi, rfl⟩ := List.getElem_of_mem hx
  exact (h i hi hi).1

theorem of_up {l : List Ro} (h : Up l) : RowsP l l.length := fun i hi _ =>
  ⟨h.1 _ (List.getElem_mem hi), fun h0 => List.pairwise_iff_getElem.1 h.2 (i - 1) i (by omega) hi (by omega)⟩

theorem split_at {l : List Ro} {k : Nat} (h : k < l.length) : l = l.take k ++ l[k] :: l.drop (k + 1) := by
  rw [List.getElem_cons_drop, List.take_append_drop]

theorem up_del {a b : List Ro} {x : Ro} (h : Up (a ++ x :: b)) : Up (a ++ b) := by
  have hs : (a ++ b).Sublist (a ++ x :: b) := List.Sublist.append (List.Sublist.refl a) (List.sublist_cons_self x b)
  exact ⟨fun y hy => h.1 y (hs.subset hy), h.2.sublist hs⟩

theorem up_out {a b : List Ro} {x : Ro} (h : Up (a ++ x :: b)) : ¬ ∃ y ∈ a ++ b, y.id = x.id := by
  rintro ⟨y, hy, e⟩
  obtain ⟨_, h2, h3⟩ := List.pairwise_append.1 h.2
  have : u_ltB x.id x.id = true := by
    rcases List.mem_append.1 hy with h1 | h1
    · have := h3 y h1 x (List.mem_cons_self ..)
      rw [e] at this
      exact this
    · have := (List.pairwise_cons.1 h2).1 y h1
      rw [e] at this
      exact this
  rw [u_ltB_irr] at this
  cases this

theorem up_ins {a b : List Ro} {x : Ro} (h : Up (a ++ b)) (hx : roB x = true) (h1 : ∀ y ∈ a, u_ltB y.id x.id = true) (h2 : ∀ y ∈ b, u_ltB x.id y.id = true) : Up (a ++ x :: b) := by
  obtain ⟨p1, p2, p3⟩ := List.pairwise_append.1 h.2
  refine ⟨fun y hy => ?_, List.pairwise_append.2 ⟨p1, List.pairwise_cons.2 ⟨h2, p2⟩, fun y hy z hz => ?_⟩⟩
  · rcases List.mem_append.1 hy with h3 | h3
    · exact h.1 y (List.mem_append_left _ h3)
    · rcases List.mem_cons.1 h3 with rfl | h4
      · exact hx
      · exact h.1 y (List.mem_append_right _ h4)
  · rcases List.mem_cons.1 hz with rfl | h4
    · exact h1 y hy
    · exact p3 y hy z h4

/-- Where it is not there: what lies behind is greater. -/
theorem behind {l : List Ro} {id : ByteArray} (hP : RowsP l l.length) (hi : isR l id = false) : ∀ y ∈ l.drop (findR l id), u_ltB id y.id = true := by
  intro y hy
  obtain ⟨i, h1, rfl⟩ := List.getElem_of_mem hy
  rw [List.length_drop] at h1
  rw [List.getElem_drop]
  have hk : findR l id < l.length := by omega
  have h2 : u_ltB id l[findR l id].id = true := by
    cases h3 : u_ltB id l[findR l id].id with
    | true => rfl
    | false =>
      have e := u_ltB_tri (findR_ge hk) h3
      have : isR l id = true := (isR_iff hP).2 ⟨_, List.getElem_mem hk, e⟩
      rw [hi] at this
      cases this
  match i with
  | 0 => exact h2
  | i + 1 => exact u_ltB_trans h2 (rise hP (i := findR l id + (i + 1)) (j := findR l id) (by omega) (by omega) (by omega))

theorem ahead {l : List Ro} {id : ByteArray} : ∀ y ∈ l.take (findR l id), u_ltB y.id id = true := by
  intro y hy
  obtain ⟨i, h1, rfl⟩ := List.getElem_of_mem hy
  rw [List.getElem_take]
  exact findR_lt (by rw [List.length_take] at h1; omega)

/-- What is entered. -/
theorem ins_up {l : List Ro} {x : Ro} (hP : RowsP l l.length) (hi : isR l x.id = false) (hx : roB x = true) : Up (insR l (findR l x.id) x) := by
  unfold insR
  refine up_ins ?_ hx ahead (behind hP hi)
  rw [List.take_append_drop]
  exact up_of hP

theorem ins_find {l : List Ro} {x : Ro} : findR (insR l (findR l x.id) x) x.id = findR l x.id := by
  have hk := findR_le l x.id
  have hl := insR_len l (findR l x.id) x hk
  refine findR_at (by omega) (fun j hj => ?_) (fun q => ?_)
  · have e : (insR l (findR l x.id) x)[j]'(by omega) = l[j]'(by omega) := by
      unfold insR
      rw [List.getElem_append_left (by rw [List.length_take]; omega), List.getElem_take]
    rw [e]
    exact findR_lt hj
  · have e2 : (insR l (findR l x.id) x)[findR l x.id]? = some x := by
      unfold insR
      have h1 : (l.take (findR l x.id)).length = findR l x.id := by rw [List.length_take]; omega
      rw [List.getElem?_append_right (by omega), h1, Nat.sub_self]
      rfl
    have e := Option.some.inj ((List.getElem?_eq_getElem q).symm.trans e2)
    rw [e]
    exact u_ltB_irr _

theorem ins_back {l : List Ro} {x : Ro} : (insR l (findR l x.id) x).take (findR l x.id) ++ (insR l (findR l x.id) x).drop (findR l x.id + 1) = l := by
  have hk := findR_le l x.id
  generalize findR l x.id = k at *
  unfold insR
  have h1 : (l.take k).length = k := by rw [List.length_take]; omega
  rw [List.take_append_of_le_length (by omega), List.take_of_length_le (by omega), List.drop_append, h1, List.drop_of_length_le (by omega)]
  simp

theorem mem_ins {l : List Ro} {k : Nat} {x y : Ro} (h : y ∈ l) : y ∈ insR l k x := by
  unfold insR
  rw [← List.take_append_drop k l] at h
  rcases List.mem_append.1 h with h | h
  · exact List.mem_append_left _ h
  · exact List.mem_append_right _ (List.mem_cons_of_mem _ h)

theorem holds_iff {t : Tb} (h : tableB t = true) (id : ByteArray) : holdsT t id = true ↔ ∃ x ∈ t.rows, x.id = id := by
  unfold holdsT
  rw [h, Bool.true_and]
  exact isR_iff (tableB_p h).2.2

/-- What Removed answers. -/
theorem rem_is (t : Tb) (id : ByteArray) : (removedT t id).2 = holdsT t id := by
  unfold removedT removeT holdsT
  cases tableB t <;> cases isR t.rows id <;> rfl

theorem rem_law {t : Tb} {id : ByteArray} (h : (removedT t id).2 = true) : holdsT (removedT t id).1 id = false ∧ tableB (removedT t id).1 = true := by
  rw [rem_is] at h
  have ht : tableB t = true := by unfold holdsT at h; simp only [Bool.and_eq_true] at h; exact h.1
  have hi : isR t.rows id = true := by unfold holdsT at h; simp only [Bool.and_eq_true] at h; exact h.2
  obtain ⟨q, e⟩ := isR_some hi
  obtain ⟨m1, m2, m3⟩ := tableB_p ht
  have hu := up_of m3
  rw [split_at q] at hu
  have hd := up_del hu
  have ho := up_out hu
  have er : (removedT t id).1 = ⟨t.most, t.rows.take (findR t.rows id) ++ t.rows.drop (findR t.rows id + 1)⟩ := by
    unfold removedT removeT
    rw [if_pos ht, if_pos hi]
  have hb : tableB (removedT t id).1 = true := by
    rw [er]
    refine tableB_mk m1 ?_ (of_up hd)
    have : (t.rows.take (findR t.rows id) ++ t.rows.drop (findR t.rows id + 1)).length ≤ t.rows.length := by
      rw [List.length_append, List.length_take, List.length_drop]; omega
    show ((t.rows.take (findR t.rows id) ++ t.rows.drop (findR t.rows id + 1)).length : Int) ≤ t.most
    omega
  refine ⟨?_, hb⟩
  cases h9 : holdsT (removedT t id).1 id with
  | false => rfl
  | true =>
    obtain ⟨x, hx, e2⟩ := (holds_iff hb id).1 h9
    rw [er] at hx
    exact absurd ⟨x, hx, e2.trans e.symm⟩ ho

theorem new_law (m : Int) (h : (newT m).2 = true) : tableB (newT m).1 = true := by
  unfold newT at h ⊢
  by_cases hm : mostB m = true
  · rw [if_pos hm]
    unfold mostB at hm
    simp only [decide_eq_true_eq] at hm
    refine tableB_mk hm ?_ (fun i hi => absurd hi (Nat.not_lt_zero _))
    show (0 : Int) ≤ m
    omega
  · rw [if_neg hm] at h
    cases h

/-- What Entered answers. -/
theorem ent_law (t : Tb) (id : ByteArray) (til : Int) :
    ((enteredT t id til).2 = 3 ∧ (enteredT t id til).1 = zeroT) ∨ ((enteredT t id til).2 = 1 ∧ (enteredT t id til).1 = t ∧ holdsT t id = true)
    ∨ ((enteredT t id til).2 = 2 ∧ (enteredT t id til).1 = t ∧ (t.rows.length : Int) = t.most ∧ holdsT t id = false)
    ∨ ((enteredT t id til).2 = 0 ∧ tableB (enteredT t id til).1 = true ∧ (∀ j (h : j < t.rows.length), holdsT (enteredT t id til).1 t.rows[j].id = true) ∧ holdsT (enteredT t id til).1 id = true ∧ removedT (enteredT t id til).1 id = (t, true)) := by
  by_cases hg : (tableB t && u_idOk id && utmB til) = true
  · have e0 : enteredT t id til = enterT t id til := by unfold enteredT; rw [if_pos hg]
    simp only [Bool.and_eq_true] at hg
    obtain ⟨⟨ht, hid⟩, htm⟩ := hg
    rw [e0]
    by_cases hi : isR t.rows id = true
    · have e1 : enterT t id til = (t, 1) := by unfold enterT; rw [if_pos hi]
      rw [e1]
      exact .inr (.inl ⟨rfl, rfl, by unfold holdsT; rw [ht, hi]; rfl⟩)
    · have hi' : isR t.rows id = false := by cases h : isR t.rows id; rfl; exact absurd h hi
      by_cases hf : (t.rows.length : Int) = t.most
      · have e1 : enterT t id til = (t, 2) := by unfold enterT; rw [if_neg hi, if_pos hf]
        rw [e1]
        exact .inr (.inr (.inl ⟨rfl, rfl, hf, by unfold holdsT; rw [ht, hi']; rfl⟩))
      · have e1 : enterT t id til = (⟨t.most, insR t.rows (findR t.rows id) ⟨id, til⟩⟩, 0) := by unfold enterT; rw [if_neg hi, if_neg hf]
        rw [e1]
        obtain ⟨m1, m2, m3⟩ := tableB_p ht
        have hx : roB ⟨id, til⟩ = true := by unfold roB; rw [hid, htm]; rfl
        have hu : Up (insR t.rows (findR t.rows id) ⟨id, til⟩) := ins_up (x := ⟨id, til⟩) m3 hi' hx
        have hb : tableB ⟨t.most, insR t.rows (findR t.rows id) ⟨id, til⟩⟩ = true := by
          refine tableB_mk m1 ?_ (of_up hu)
          show ((insR t.rows (findR t.rows id) ⟨id, til⟩).length : Int) ≤ t.most
          rw [insR_len _ _ _ (findR_le _ _)]
          omega
        have hin : (⟨id, til⟩ : Ro) ∈ insR t.rows (findR t.rows id) ⟨id, til⟩ := by
          unfold insR
          exact List.mem_append_right _ (List.mem_cons_self ..)
        have hh : holdsT ⟨t.most, insR t.rows (findR t.rows id) ⟨id, til⟩⟩ id = true := (holds_iff hb id).2 ⟨_, hin, rfl⟩
        refine .inr (.inr (.inr ⟨rfl, hb, fun j hj => (holds_iff hb _).2 ⟨_, mem_ins (List.getElem_mem hj), rfl⟩, hh, ?_⟩))
        have hr : isR (insR t.rows (findR t.rows id) ⟨id, til⟩) id = true := by
          unfold holdsT at hh
          simp only [Bool.and_eq_true] at hh
          exact hh.2
        unfold removedT removeT
        rw [if_pos hb]
        show (if isR (insR t.rows (findR t.rows id) ⟨id, til⟩) id = true then _ else _) = _
        rw [if_pos hr]
        have e2 : findR (insR t.rows (findR t.rows id) ⟨id, til⟩) id = findR t.rows id := ins_find (x := ⟨id, til⟩)
        have e3 := ins_back (l := t.rows) (x := ⟨id, til⟩)
        show ((⟨t.most, (insR t.rows (findR t.rows id) ⟨id, til⟩).take (findR (insR t.rows (findR t.rows id) ⟨id, til⟩) id) ++ (insR t.rows (findR t.rows id) ⟨id, til⟩).drop (findR (insR t.rows (findR t.rows id) ⟨id, til⟩) id + 1)⟩ : Tb), true) = (t, true)
        rw [e2]
        have e4 : (⟨t.most, t.rows⟩ : Tb) = t := rfl
        have e5 : (insR t.rows (findR t.rows id) ⟨id, til⟩).take (findR t.rows id) ++ (insR t.rows (findR t.rows id) ⟨id, til⟩).drop (findR t.rows id + 1) = t.rows := e3
        rw [e5]
  · have e0 : enteredT t id til = (zeroT, 3) := by unfold enteredT; rw [if_neg hg]
    rw [e0]
    exact .inl ⟨rfl, rfl⟩

end Go.Proofs.YtajlgnlifffanaaGreatDoor
