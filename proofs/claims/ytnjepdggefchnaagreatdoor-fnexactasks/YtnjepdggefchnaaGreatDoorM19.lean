/- Marks in a gate as a whole: markGate, heldGate. What Asks tells. -/
import Derived.Test.YtnjepdggefchnaaGreatDoorM18
import Derived.Test.YtnjepdggefchnaaGreatDoorM17
import Derived.Test.YtnjepdggefchnaaGreatDoorM12
namespace Go.Proofs.YtnjepdggefchnaaGreatDoor
open Go.RowKit
set_option linter.unusedVariables false
set_option linter.unusedSimpArgs false

theorem own_ro_keep {w w' : World} {p : Nat → Prop} {B : Nat} {a : Option Addr} {l : List Ro} (h : OwnRo w B a l) (hk : u_KeepB p w w') (hp : ∀ g o cu, a = some ⟨g, o, none⟩ → 0 < l.length → w.heap[g]? = some (.cells cu 78 (0, 0)) → ¬ p g) : OwnRo w' B a l := fun hl => by
  obtain ⟨g, o, cu, e1, e2, e3, e4⟩ := h hl
  exact ⟨g, o, cu, e1, e2, (hk.block g (lt_of_heap e3) (hp g o cu e1 hl e3)).trans e3, e4⟩

theorem held_h_keep {w w' : World} {p : Nat → Prop} {a : Option Addr} {n k : Nat} (h : HeldH w a n k) (hk : u_KeepB p w w') (hp : ∀ g o cu, a = some ⟨g, o, none⟩ → 0 < n → w.heap[g]? = some (.cells cu 69 (0, 0)) → ¬ p g) : HeldH w' a n k := fun hl => by
  obtain ⟨g, o, cu, e1, e3, e4⟩ := h hl
  exact ⟨g, o, cu, e1, (hk.block g (lt_of_heap e3) (hp g o cu e1 hl e3)).trans e3, e4⟩

theorem held_k_keep {w w' : World} {p : Nat → Prop} {a : Option Addr} {n k : Nat} (h : HeldK w a n k) (hk : u_KeepB p w w') (hp : ∀ g o cu, a = some ⟨g, o, none⟩ → 0 < n → w.heap[g]? = some (.cells cu 78 (0, 0)) → ¬ p g) : HeldK w' a n k := fun hl => by
  obtain ⟨g, o, cu, e1, e3, e4⟩ := h hl
  exact ⟨g, o, cu, e1, (hk.block g (lt_of_heap e3) (hp g o cu e1 hl e3)).trans e3, e4⟩

/-- No block holds hands and rows. -/
theorem hand_row {w : World} {g : Nat} {cu cv : Array Value} (h1 : w.heap[g]? = some (.cells cu 69 (0, 0))) (h2 : w.heap[g]? = some (.cells cv 78 (0, 0))) : False := by
  rw [h1] at h2
  injection h2 with h2
  injection h2 with _ ht
  exact absurd ht (by decide)

/-- A gate is marked. -/
def HeldG (w : World) (ah : Option Addr) (nh : Nat) (aa : Option Addr) (na : Nat) (ar : Option Addr) (nr : Nat) : Prop := HeldH w ah nh 1 ∧ HeldK w aa na (1 + 4 * nh) ∧ HeldK w ar nr (1 + 4 * nh + 2 * na)

theorem HeldG.below {w w' : World} {ah aa ar : Option Addr} {nh na nr : Nat} (h : HeldG w ah nh aa na ar nr) (hb : Below w.heap.size w w') : HeldG w' ah nh aa na ar nr := ⟨h.1.below hb, h.2.1.below hb, h.2.2.below hb⟩

/-- The blocks of a gate. -/
def BlkG (ah : Option Addr) (nh : Nat) (aa : Option Addr) (na : Nat) (ar : Option Addr) (nr : Nat) : Nat → Prop := fun b => BlkOf ah nh b ∨ BlkOf aa na b ∨ BlkOf ar nr b

set_option maxRecDepth 8000 in
set_option maxHeartbeats 8000000 in
theorem cMarkGate (g : Gt) (ah : Option Addr) (ch : Nat) (aa : Option Addr) (ca : Nat) (ar : Option Addr) (cr B : Nat) (w : World) (hO : GtOwn w B g ah aa ar) (hk : 1 + 4 * g.hands.length + 2 * g.ask.rows.length + 2 * g.hrd.rows.length ≤ 100000000) :
    Calls Tryz.prog 9 #[gtV g ah ch aa ca ar cr, .int .i64 1] w fun e w' => e = .returned (.int .i64 ((1 + 4 * g.hands.length + 2 * g.ask.rows.length + 2 * g.hrd.rows.length : Nat) : Int)) ∧ HeldG w' ah g.hands.length aa g.ask.rows.length ar g.hrd.rows.length ∧ u_KeepB (BlkG ah g.hands.length aa g.ask.rows.length ar g.hrd.rows.length) w w' := by
  have HX0 := hid (GtBox.new w g.name (.slice ah g.hands.length ch) g.skew g.now g.ask.most (.slice aa g.ask.rows.length ca) g.hrd.most (.slice ar g.hrd.rows.length cr) 34)
  have HB0 := hid ((Below.refl w.heap.size w).alloc (Nat.le_refl _) (.cells #[.string g.name, .slice ah g.hands.length ch, .int .i64 g.skew, .int .i64 g.now, .int .i64 g.ask.most, .slice aa g.ask.rows.length ca, .int .i64 g.hrd.most, .slice ar g.hrd.rows.length cr] 34))
  obtain ⟨W0, hW0⟩ : ∃ W0, w.alloc (.cells #[.string g.name, .slice ah g.hands.length ch, .int .i64 g.skew, .int .i64 g.now, .int .i64 g.ask.most, .slice aa g.ask.rows.length ca, .int .i64 g.hrd.most, .slice ar g.hrd.rows.length cr] 34) = W0 := ⟨_, rfl⟩
  rw [hW0] at HX0 HB0
  have C1 := hid (fun wx (h : OwnHd wx B ah g.hands) => cMarkHands ah ch B 1 g.hands wx h (by omega))
  have C2 := hid (fun wx (h : OwnRo wx B aa g.ask.rows) => cMarkTableK g.ask aa ca B (1 + 4 * g.hands.length) wx h (by omega))
  have C3 := hid (fun wx (h : OwnRo wx B ar g.hrd.rows) => cMarkTableK g.hrd ar cr B (1 + 4 * g.hands.length + 2 * g.ask.rows.length) wx h (by omega))
  have HO0 := hid (hO.below HB0.out)
  -- the blocks are not one another's
  have P1 := hid (fun (wx : World) (o1 : OwnHd wx B ah g.hands) (g0 : Nat) (cu : Array Value) (h : wx.heap[g0]? = some (.cells cu 78 (0, 0))) => (show ¬ BlkOf ah g.hands.length g0 from fun ⟨o, e, hl⟩ => by
    obtain ⟨y, _, _, e1, _, e3, _⟩ := o1 hl
    rw [e] at e1
    cases e1
    exact hand_row e3 h))
  have P2 := hid (fun (wx : World) (o2 : OwnRo wx B aa g.ask.rows) (g0 : Nat) (cu : Array Value) (h : wx.heap[g0]? = some (.cells cu 69 (0, 0))) => (show ¬ BlkOf aa g.ask.rows.length g0 from fun ⟨o, e, hl⟩ => by
    obtain ⟨y, _, _, e1, _, e3, _⟩ := o2 hl
    rw [e] at e1
    cases e1
    exact hand_row h e3))
  have P3 := hid (fun (wx : World) (o3 : OwnRo wx B ar g.hrd.rows) (g0 : Nat) (cu : Array Value) (h : wx.heap[g0]? = some (.cells cu 69 (0, 0))) => (show ¬ BlkOf ar g.hrd.rows.length g0 from fun ⟨o, e, hl⟩ => by
    obtain ⟨y, _, _, e1, _, e3, _⟩ := o3 hl
    rw [e] at e1
    cases e1
    exact hand_row h e3))
  have AP := hid (fun (g0 o : Nat) (e : ar = some ⟨g0, o, none⟩) (hr : 0 < g.hrd.rows.length) => (show ¬ BlkOf aa g.ask.rows.length g0 from fun ⟨o', e', ha⟩ => hO.2.2.2 ha hr g0 o' g0 o e' e rfl))
  have AQ := hid (fun (g0 o : Nat) (e : aa = some ⟨g0, o, none⟩) (ha : 0 < g.ask.rows.length) => (show ¬ BlkOf ar g.hrd.rows.length g0 from fun ⟨o', e', hr⟩ => hO.2.2.2 ha hr g0 o g0 o' e e' rfl))
  unfold gtV
  unfold tbV at C2 C3
  obtain ⟨l1, hl1⟩ : ∃ l, g.hands = l := ⟨_, rfl⟩
  obtain ⟨l2, hl2⟩ : ∃ l, g.ask.rows = l := ⟨_, rfl⟩
  obtain ⟨l3, hl3⟩ : ∃ l, g.hrd.rows = l := ⟨_, rfl⟩
  have HO1 := hid HO0.out.1
  have HO2 := hid HO0.out.2.1
  have HO3 := hid HO0.out.2.2.1
  clear HO0 hO
  rw [hl1] at C1 C2 C3 HX0 hW0 HO1 P1 ⊢
  rw [hl2] at C2 C3 HX0 hW0 HO2 P2 AP AQ ⊢
  rw [hl3] at C3 HX0 hW0 HO3 P3 AP AQ ⊢
  clear hl1 hl2 hl3 hk
  obtain ⟨nh, hnh⟩ : ∃ n, l1.length = n := ⟨_, rfl⟩
  obtain ⟨na, hna⟩ : ∃ n, l2.length = n := ⟨_, rfl⟩
  obtain ⟨nr, hnr⟩ : ∃ n, l3.length = n := ⟨_, rfl⟩
  have HNH := hid hnh
  have HNA := hid hna
  have HNR := hid hnr
  rw [hnh] at C1 C2 C3 HX0 hW0 P1 ⊢
  rw [hna] at C2 C3 HX0 hW0 P2 AP AQ ⊢
  rw [hnr] at C3 HX0 hW0 P3 AP AQ ⊢
  clear hnh hna hnr
  generalize g.name = x at *
  generalize g.skew = sk at *
  generalize g.now = nw at *
  generalize g.ask.most = am at *
  generalize g.hrd.most = rm at *
  unfold HeldG
  obtain ⟨K1, hK1⟩ : ∃ K, 1 + 4 * nh = K := ⟨_, rfl⟩
  rw [hK1] at C1 C2 C3 ⊢
  obtain ⟨K2, hK2⟩ : ∃ K, K1 + 2 * na = K := ⟨_, rfl⟩
  rw [hK2] at C2 C3 ⊢
  obtain ⟨K3, hK3⟩ : ∃ K, K2 + 2 * nr = K := ⟨_, rfl⟩
  rw [hK3] at C3 ⊢
  clear hK1 hK2 hK3
  have HKK := hid (u_KeepB.of_below (BlkG ah nh aa na ar nr) HB0.out)
  obtain ⟨D, hD⟩ : ∃ D, w.heap.size = D := ⟨_, rfl⟩
  rw [hD] at HX0
  -- the gate's own box is none of its rows
  have HNB := hid (fun (W : World) (b : Nat) (T : TypeId) (cu : Array Value) (hT : ¬ T = 34) (h : W.heap[b]? = some (.cells cu T (0, 0))) (hg : ∃ cv, W.heap[D]? = some (.cells cv 34 (0, 0))) => (show ¬ D = b from fun e => by
    obtain ⟨cv, hg⟩ := hg
    rw [e, h] at hg
    injection hg with hg
    injection hg with _ ht
    exact hT ht))
  have HG0 := hid (show ∃ cv, W0.heap[D]? = some (.cells cv 34 (0, 0)) from ⟨_, by rw [← hW0, ← hD]; exact heap_alloc_new _ _⟩)
  have HBX := hid (fun (W W' : World) (p : Nat → Prop) (hk : u_KeepB p W W') (hp : ¬ p D) (hx : GtBox W D x (.slice ah nh ch) sk nw am (.slice aa na ca) rm (.slice ar nr cr)) => (show GtBox W' D x (.slice ah nh ch) sk nw am (.slice aa na ca) rm (.slice ar nr cr) from by
    have hb := hk.block D hx.lt hp
    exact ⟨Nat.lt_of_lt_of_le hx.lt hk.size, (World.cell?_of_block (a := ⟨D, 0, none⟩) hb).trans hx.c0, (World.cell?_of_block (a := ⟨D, 1, none⟩) hb).trans hx.c1, (World.cell?_of_block (a := ⟨D, 2, none⟩) hb).trans hx.c2, (World.cell?_of_block (a := ⟨D, 3, none⟩) hb).trans hx.c3, (World.cell?_of_block (a := ⟨D, 4, none⟩) hb).trans hx.c4, (World.cell?_of_block (a := ⟨D, 5, none⟩) hb).trans hx.c5, (World.cell?_of_block (a := ⟨D, 6, none⟩) hb).trans hx.c6, (World.cell?_of_block (a := ⟨D, 7, none⟩) hb).trans hx.c7⟩))
  obtain ⟨f0, f1, f2, f3, f4, f5, f6, f7⟩ := HX0.out.cells
  go_enter Tryz.func9, Tryz.ntmps9
  go_wp2_with fail
  clear f0 f1 f2 f3 f4 f5 f6 f7 hW0
  refine (C1.out _ HO1.out).mono ?_
  rintro e w1 ⟨rfl, hh1, hk1⟩
  have nD1 : ¬ BlkOf ah nh D := fun ⟨o, e, hl⟩ => by
    obtain ⟨y, _, _, e1, _, e3, _⟩ := HO1.out (by rw [HNH.out]; exact hl)
    rw [e] at e1
    cases e1
    exact HNB.out W0 _ _ _ (by decide) e3 HG0.out rfl
  have HX1 := hid (HBX.out W0 w1 _ hk1 nD1 HX0.out)
  have HH1 := hid hh1
  have R2 := hid (own_ro_keep HO2.out hk1 (fun g0 o cu _ _ h => P1.out W0 HO1.out g0 cu h))
  have R3 := hid (own_ro_keep HO3.out hk1 (fun g0 o cu _ _ h => P1.out W0 HO1.out g0 cu h))
  have HG1 := hid (show ∃ cv, w1.heap[D]? = some (.cells cv 34 (0, 0)) from by
    obtain ⟨cv, h⟩ := HG0.out
    exact ⟨cv, (hk1.block D (lt_of_heap h) nD1).trans h⟩)
  have KK1 := hid (HKK.out.trans (u_KeepB.mono hk1 (q := BlkG ah nh aa na ar nr) (fun b h => .inl h)))
  clear hh1 hk1 HX0 HG0 HKK HO2 HO3 nD1 C1 HB0
  obtain ⟨f0, f1, f2, f3, f4, f5, f6, f7⟩ := HX1.out.cells
  go_wp2_with fail
  clear f0 f1 f2 f3 f4 f5 f6 f7
  refine (C2.out _ R2.out).mono ?_
  rintro e w2 ⟨rfl, hh2, hk2⟩
  have nD2 : ¬ BlkOf aa na D := fun ⟨o, e, hl⟩ => by
    obtain ⟨y, _, _, e1, _, e3, _⟩ := R2.out (by rw [HNA.out]; exact hl)
    rw [e] at e1
    cases e1
    exact HNB.out w1 _ _ _ (by decide) e3 HG1.out rfl
  have HX2 := hid (HBX.out w1 w2 _ hk2 nD2 HX1.out)
  have HH2 := hid hh2
  have HH1b := hid (held_h_keep HH1.out hk2 (fun g0 o cu _ _ h => P2.out w1 R2.out g0 cu h))
  have R3b := hid (own_ro_keep R3.out hk2 (fun g0 o cu e hl _ => AP.out g0 o e (by rw [← HNR.out]; exact hl)))
  have HG2 := hid (show ∃ cv, w2.heap[D]? = some (.cells cv 34 (0, 0)) from by
    obtain ⟨cv, h⟩ := HG1.out
    exact ⟨cv, (hk2.block D (lt_of_heap h) nD2).trans h⟩)
  have KK2 := hid (KK1.out.trans (u_KeepB.mono hk2 (q := BlkG ah nh aa na ar nr) (fun b h => .inr (.inl h))))
  clear hh2 hk2 HX1 HG1 KK1 nD2 C2 R2 R3 HH1
  obtain ⟨f0, f1, f2, f3, f4, f5, f6, f7⟩ := HX2.out.cells
  go_wp2_with fail
  clear f0 f1 f2 f3 f4 f5 f6 f7
  refine (C3.out _ R3b.out).mono ?_
  rintro e w3 ⟨rfl, hh3, hk3⟩
  have HH3 := hid hh3
  have HH1c := hid (held_h_keep HH1b.out hk3 (fun g0 o cu _ _ h => P3.out w2 R3b.out g0 cu h))
  have HH2c := hid (held_k_keep HH2.out hk3 (fun g0 o cu e hl _ => AQ.out g0 o e hl))
  have KK3 := hid (KK2.out.trans (u_KeepB.mono hk3 (q := BlkG ah nh aa na ar nr) (fun b h => .inr (.inr h))))
  clear hh3 hk3
  go_wp2_with fail
  go_ret
  exact ⟨rfl, ⟨HH1c.out, HH2c.out, HH3.out⟩, KK3.out⟩

set_option maxRecDepth 8000 in
set_option maxHeartbeats 8000000 in
theorem cHeldGate (g : Gt) (ah : Option Addr) (ch : Nat) (aa : Option Addr) (ca : Nat) (ar : Option Addr) (cr : Nat) (w : World) (hH : HeldG w ah g.hands.length aa g.ask.rows.length ar g.hrd.rows.length) (hk : 1 + 4 * g.hands.length + 2 * g.ask.rows.length + 2 * g.hrd.rows.length ≤ 100000000) :
    Calls Tryz.prog 10 #[gtV g ah ch aa ca ar cr, .int .i64 1] w fun e w' => e = .returned (.int .i64 ((1 + 4 * g.hands.length + 2 * g.ask.rows.length + 2 * g.hrd.rows.length : Nat) : Int)) ∧ Below w.heap.size w w' := by
  have HX0 := hid (GtBox.new w g.name (.slice ah g.hands.length ch) g.skew g.now g.ask.most (.slice aa g.ask.rows.length ca) g.hrd.most (.slice ar g.hrd.rows.length cr) 34)
  have HB0 := hid ((Below.refl w.heap.size w).alloc (Nat.le_refl _) (.cells #[.string g.name, .slice ah g.hands.length ch, .int .i64 g.skew, .int .i64 g.now, .int .i64 g.ask.most, .slice aa g.ask.rows.length ca, .int .i64 g.hrd.most, .slice ar g.hrd.rows.length cr] 34))
  have C1 := hid (fun wx (h : Below w.heap.size w wx) => cHeldHands ah ch g.hands.length 1 wx (hH.1.below h) (by omega))
  have C2 := hid (fun wx (h : Below w.heap.size w wx) => cHeldTableK g.ask aa ca (1 + 4 * g.hands.length) wx (hH.2.1.below h) (by omega))
  have C3 := hid (fun wx (h : Below w.heap.size w wx) => cHeldTableK g.hrd ar cr (1 + 4 * g.hands.length + 2 * g.ask.rows.length) wx (hH.2.2.below h) (by omega))
  unfold gtV
  unfold tbV at C2 C3
  clear hH hk
  generalize g.name = x at *
  generalize g.hands.length = nh at *
  generalize g.skew = sk at *
  generalize g.now = nw at *
  generalize g.ask.most = am at *
  generalize g.ask.rows.length = na at *
  generalize g.hrd.most = rm at *
  generalize g.hrd.rows.length = nr at *
  obtain ⟨K1, hK1⟩ : ∃ K, 1 + 4 * nh = K := ⟨_, rfl⟩
  rw [hK1] at C1 C2 C3 ⊢
  obtain ⟨K2, hK2⟩ : ∃ K, K1 + 2 * na = K := ⟨_, rfl⟩
  rw [hK2] at C2 C3 ⊢
  obtain ⟨K3, hK3⟩ : ∃ K, K2 + 2 * nr = K := ⟨_, rfl⟩
  rw [hK3] at C3 ⊢
  clear hK1 hK2 hK3
  have d1 : decide ((K1 : Int) < 0) = false := by simp
  have d2 : decide ((K2 : Int) < 0) = false := by simp
  have d3 : decide ((K3 : Int) < 0) = false := by simp
  obtain ⟨W0, hW0⟩ : ∃ W0, w.alloc (.cells #[.string x, .slice ah nh ch, .int .i64 sk, .int .i64 nw, .int .i64 am, .slice aa na ca, .int .i64 rm, .slice ar nr cr] 34) = W0 := ⟨_, rfl⟩
  rw [hW0] at HX0 HB0
  obtain ⟨D, hD⟩ : ∃ D, w.heap.size = D := ⟨_, rfl⟩
  rw [hD] at HX0
  obtain ⟨f0, f1, f2, f3, f4, f5, f6, f7⟩ := HX0.out.cells
  go_enter Tryz.func10, Tryz.ntmps10
  go_wp2_with fail
  clear f0 f1 f2 f3 f4 f5 f6 f7 hW0
  refine (C1.out _ HB0.out).mono ?_
  rintro e w1 ⟨rfl, hb⟩
  have HB1 := hid (bb HB0.out hb)
  have HX1 := hid (HX0.out.below hb)
  clear hb
  obtain ⟨f0, f1, f2, f3, f4, f5, f6, f7⟩ := HX1.out.cells
  go_wp2_with fail
  clear f0 f1 f2 f3 f4 f5 f6 f7
  refine (C2.out _ HB1.out).mono ?_
  rintro e w2 ⟨rfl, hb⟩
  have HB2 := hid (bb HB1.out hb)
  have HX2 := hid (HX1.out.below hb)
  clear hb
  obtain ⟨f0, f1, f2, f3, f4, f5, f6, f7⟩ := HX2.out.cells
  go_wp2_with fail
  clear f0 f1 f2 f3 f4 f5 f6 f7
  refine (C3.out _ HB2.out).mono ?_
  rintro e w3 ⟨rfl, hb⟩
  have HB3 := hid (bb HB2.out hb)
  clear hb
  go_wp2_with fail
  go_ret
  exact ⟨rfl, hD ▸ HB3.out⟩

end Go.Proofs.YtnjepdggefchnaaGreatDoor

namespace Go.Proofs.YtnjepdggefchnaaGreatDoor
open Go.RowKit
set_option linter.unusedVariables false
set_option linter.unusedSimpArgs false

def askedG (g : Gt) (T : Tb) : Gt := ⟨g.name, g.hands, g.skew, g.now, T, g.hrd⟩

noncomputable def asksG (g : Gt) (id : ByteArray) (til : Int) : Gt × Int :=
  if (gateB g && u_idOk id && utmB til) = true then (askedG g (enterT g.ask id til).1, (enterT g.ask id til).2) else (zeroG, 3)

theorem asksG_no {g : Gt} {id : ByteArray} {til : Int} (h : (gateB g && u_idOk id && utmB til) = false) : asksG g id til = (zeroG, 3) := if_neg (by rw [h]; exact Bool.false_ne_true)
theorem asksG_yes {g : Gt} {id : ByteArray} {til : Int} (h : (gateB g && u_idOk id && utmB til) = true) : asksG g id til = (askedG g (enterT g.ask id til).1, (enterT g.ask id til).2) := if_pos h

theorem insR_sz {l : List Ro} {k : Nat} {id : ByteArray} {til : Int} {b : Nat} (h : RoSz b l) (hi : id.size ≤ b) : RoSz b (insR l k ⟨id, til⟩) := fun x hx => by
  unfold insR at hx
  rcases List.mem_append.1 hx with h1 | h1
  · exact h x (List.mem_of_mem_take h1)
  · rcases List.mem_cons.1 h1 with rfl | h2
    · exact hi
    · exact h x (List.mem_of_mem_drop h2)

theorem enterT_sz {t : Tb} {id : ByteArray} {til : Int} {b : Nat} (h : RoSz b t.rows) (hi : id.size ≤ b) : RoSz b (enterT t id til).1.rows := by
  unfold enterT
  split
  · exact h
  · split
    · exact h
    · exact insR_sz h hi

theorem enterT_len {t : Tb} {id : ByteArray} {til : Int} : (enterT t id til).1.rows.length ≤ t.rows.length + 1 := by
  unfold enterT
  split
  · exact Nat.le_succ _
  · split
    · exact Nat.le_succ _
    · show (insR t.rows (findR t.rows id) ⟨id, til⟩).length ≤ _
      rw [insR_len _ _ _ (findR_le _ _)]
      exact Nat.le_refl _

theorem gate_pA {g : Gt} (h : gateB g = true) : g.hands.length ≤ 4 ∧ tableB g.ask = true ∧ tableB g.hrd = true := by
  unfold gateB at h
  simp only [Bool.and_eq_true] at h
  obtain ⟨_, h1, _, h3, h4, h5⟩ := h
  exact ⟨(handsB_p h1).1, h4, h5⟩

theorem gate_rowsA {g : Gt} (h : gateB g = true) : g.hands.length ≤ 100000 ∧ g.ask.rows.length ≤ 100000 ∧ g.hrd.rows.length ≤ 100000 := by
  obtain ⟨h1, h2, h3⟩ := gate_pA h
  exact ⟨Nat.le_trans h1 (by decide), Nat.le_trans (tableB_len h2) (by decide), Nat.le_trans (tableB_len h3) (by decide)⟩

theorem gate_lenA {g : Gt} (h : gateB g = true) : g.ask.rows.length ≤ 20 := by
  exact tableB_len (gate_pA h).2.1

theorem asksG_sz {g : Gt} {id : ByteArray} {til : Int} (h : GtSz 1048576 g) (hi : id.size ≤ 1048576) : GtSz 1048576 (asksG g id til).1 := by
  cases hb : (gateB g && u_idOk id && utmB til) with
  | false =>
    rw [asksG_no hb]
    exact ⟨Nat.zero_le _, fun y hy => absurd hy (List.not_mem_nil), Nat.zero_le _, fun y hy => absurd hy (List.not_mem_nil), Nat.zero_le _, fun y hy => absurd hy (List.not_mem_nil), Nat.zero_le _⟩
  | true =>
    rw [asksG_yes hb]
    obtain ⟨z1, z2, z3, z4, z5, z6, z7⟩ := h
    have hg : gateB g = true := by
      rw [Bool.and_eq_true, Bool.and_eq_true] at hb
      exact hb.1.1
    refine ⟨z1, z2, z3, enterT_sz z4 hi, ?_, z6, z7⟩
    have h1 := gate_lenA hg
    have h2 := enterT_len (t := g.ask) (id := id) (til := til)
    show (enterT g.ask id til).1.rows.length ≤ _
    omega

end Go.Proofs.YtnjepdggefchnaaGreatDoor
