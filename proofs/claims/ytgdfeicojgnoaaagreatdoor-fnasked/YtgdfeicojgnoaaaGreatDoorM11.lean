/- The program's gateWith and copiedGate. The program's copiedGate. Marks in a table: set, and held. -/
import Derived.Test.YtgdfeicojgnoaaaGreatDoorM9
import Derived.Test.YtgdfeicojgnoaaaGreatDoorM10
import Derived.Test.YtgdfeicojgnoaaaGreatDoorM7
namespace Go.Proofs.YtgdfeicojgnoaaaGreatDoor
open Go.RowKit
set_option linter.unusedVariables false
set_option linter.unusedSimpArgs false

/-- Four boxes laid one behind the other. -/
theorem g_heap4 (w : World) (o1 o2 o3 o4 : Obj) : ((((w.alloc o1).alloc o2).alloc o3).alloc o4).heap[w.heap.size]? = some o1 ∧ ((((w.alloc o1).alloc o2).alloc o3).alloc o4).heap[w.heap.size + 1]? = some o2 ∧ ((((w.alloc o1).alloc o2).alloc o3).alloc o4).heap[w.heap.size + 2]? = some o3 ∧ ((((w.alloc o1).alloc o2).alloc o3).alloc o4).heap[w.heap.size + 3]? = some o4 := by
  obtain ⟨b1, b2, b3⟩ := u_heap3 w o1 o2 o3
  have h4 := heap_alloc_new (((w.alloc o1).alloc o2).alloc o3) o4
  rw [World.size_alloc, World.size_alloc, World.size_alloc] at h4
  exact ⟨(Below.heap_alloc _ _ _ (by simp; try omega)).trans b1, (Below.heap_alloc _ _ _ (by simp; try omega)).trans b2, (Below.heap_alloc _ _ _ (by simp; try omega)).trans b3, h4⟩

set_option maxRecDepth 8000 in
set_option maxHeartbeats 16000000 in
theorem cGateWith (x : ByteArray) (l : List Hd) (ah : Option Addr) (ch : Nat) (sk nw am0 : Int) (aa0 : Option Addr) (na0 ca0 : Nat) (rm0 : Int) (ar0 : Option Addr) (nr0 cr0 : Nat) (am : Int) (aa : Option Addr) (na ca : Nat) (rm : Int) (ar : Option Addr) (nr cr : Nat) (w : World) (hR : HdRow w ah l) (hz : HdSz 1048576 l) (hn : l.length ≤ 100000) (hx : x.size ≤ 1048576) :
    Calls Tryz.prog 64 #[.agg #[.string x, .slice ah l.length ch, .int .i64 sk, .int .i64 nw, .int .i64 am0, .slice aa0 na0 ca0, .int .i64 rm0, .slice ar0 nr0 cr0], .agg #[.int .i64 am, .slice aa na ca], .agg #[.int .i64 rm, .slice ar nr cr]] w fun e w' => ∃ ah' ch', e = .returned (.agg #[.string x, .slice ah' l.length ch', .int .i64 sk, .int .i64 nw, .int .i64 am, .slice aa na ca, .int .i64 rm, .slice ar nr cr]) ∧ w'.ownsRow w.heap.size 72 4 (.slice ah' l.length ch') l.length (hdC l) ∧ Below w.heap.size w w' := by
  have C1 := hid (fun wx => c_strings_Clone x wx hx)
  have C2 := hid (fun wx (h : Below w.heap.size w wx) => cCopiedHands ah ch l wx (hR.below h) hz hn)
  clear hR hz hn hx
  obtain ⟨nh, hnn⟩ : ∃ n, l.length = n := ⟨_, rfl⟩
  rw [hnn] at C2 ⊢
  clear hnn
  obtain ⟨b1, b2, b3, b4⟩ := g_heap4 w (.cells #[.string x, .slice ah nh ch, .int .i64 sk, .int .i64 nw, .int .i64 am0, .slice aa0 na0 ca0, .int .i64 rm0, .slice ar0 nr0 cr0] 29) (.cells #[.int .i64 am, .slice aa na ca] 27) (.cells #[.int .i64 rm, .slice ar nr cr] 27) (.cells #[.string ⟨#[]⟩, .slice none 0 0, .int .i64 0, .int .i64 0, .int .i64 0, .slice none 0 0, .int .i64 0, .slice none 0 0] 29)
  have HB0 := hid (((((Below.refl w.heap.size w).alloc (Nat.le_refl _) (.cells #[.string x, .slice ah nh ch, .int .i64 sk, .int .i64 nw, .int .i64 am0, .slice aa0 na0 ca0, .int .i64 rm0, .slice ar0 nr0 cr0] 29)).alloc (by simp) (.cells #[.int .i64 am, .slice aa na ca] 27)).alloc (by simp; try omega) (.cells #[.int .i64 rm, .slice ar nr cr] 27)).alloc (by simp; try omega) (.cells #[.string ⟨#[]⟩, .slice none 0 0, .int .i64 0, .int .i64 0, .int .i64 0, .slice none 0 0, .int .i64 0, .slice none 0 0] 29))
  obtain ⟨W0, hW0⟩ : ∃ W0, ((((w.alloc (.cells #[.string x, .slice ah nh ch, .int .i64 sk, .int .i64 nw, .int .i64 am0, .slice aa0 na0 ca0, .int .i64 rm0, .slice ar0 nr0 cr0] 29)).alloc (.cells #[.int .i64 am, .slice aa na ca] 27)).alloc (.cells #[.int .i64 rm, .slice ar nr cr] 27)).alloc (.cells #[.string ⟨#[]⟩, .slice none 0 0, .int .i64 0, .int .i64 0, .int .i64 0, .slice none 0 0, .int .i64 0, .slice none 0 0] 29)) = W0 := ⟨_, rfl⟩
  rw [hW0] at b1 b2 b3 b4 HB0
  obtain ⟨B, hB⟩ : ∃ B, w.heap.size = B := ⟨_, rfl⟩
  rw [hB] at b1 b2 b3 b4
  have HM1 := hid b1
  have HM2 := hid b2
  have HM3 := hid b3
  have HM4 := hid b4
  clear b1 b2 b3 b4
  have HXX := hid (fun W' (h : Below W0.heap.size W0 W') => And.intro (g_box8f (u_blk_below HM1.out h)).1 (And.intro (u_box2f (u_blk_below HM2.out h)).1 (And.intro (u_box2f (u_blk_below HM3.out h)).1 (g_box8f (u_blk_below HM4.out h)))))
  obtain ⟨⟨f0, f1, f2, f3, f4, f5, f6, f7⟩, ⟨p0, p1⟩, ⟨q0, q1⟩, ⟨k0, k1, k2, k3, k4, k5, k6, k7⟩, kf⟩ := HXX.out _ (Below.refl _ _)
  clear kf
  go_enter Tryz.func64, Tryz.ntmps64
  go_wp2_with fail
  have HLT := hid (show B + 3 < W0.heap.size from lt_of_heap HM4.out)
  have HBf := hid ((Below.refl W0.heap.size W0).drew)
  have HBc := hid (HBf.out.mono (Nat.le_of_lt HLT.out))
  have HSX := hid (show ∀ W', Below (B + 3) W0 W' → W'.cell? ⟨B, 0, none⟩ = some (.string x) ∧ W'.cell? ⟨B, 1, none⟩ = some (.slice ah nh ch) ∧ W'.cell? ⟨B, 2, none⟩ = some (.int .i64 sk) ∧ W'.cell? ⟨B, 3, none⟩ = some (.int .i64 nw) ∧ W'.cell? ⟨B + 1, 0, none⟩ = some (.int .i64 am) ∧ W'.cell? ⟨B + 1, 1, none⟩ = some (.slice aa na ca) ∧ W'.cell? ⟨B + 2, 0, none⟩ = some (.int .i64 rm) ∧ W'.cell? ⟨B + 2, 1, none⟩ = some (.slice ar nr cr) from fun W' hb => by
    have m1 := (hb.block B (by omega)).trans HM1.out
    have m2 := (hb.block (B + 1) (by omega)).trans HM2.out
    have m3 := (hb.block (B + 2) (by omega)).trans HM3.out
    exact ⟨(g_box8f m1).1.1, (g_box8f m1).1.2.1, (g_box8f m1).1.2.2.1, (g_box8f m1).1.2.2.2.1, (u_box2f m2).1.1, (u_box2f m2).1.2, (u_box2f m3).1.1, (u_box2f m3).1.2⟩)
  clear f0 f1 f2 f3 f4 f5 f6 f7 p0 p1 q0 q1 k0 k1 k2 k3 k4 k5 k6 k7
  go_region_held3 (fun w' => w'.cell? ⟨B, 0, none⟩ = some (.string x) ∧ w'.cell? ⟨B, 1, none⟩ = some (.slice ah nh ch) ∧ w'.cell? ⟨B, 2, none⟩ = some (.int .i64 sk) ∧ w'.cell? ⟨B, 3, none⟩ = some (.int .i64 nw) ∧ w'.cell? ⟨B + 1, 0, none⟩ = some (.int .i64 am) ∧ w'.cell? ⟨B + 1, 1, none⟩ = some (.slice aa na ca) ∧ w'.cell? ⟨B + 2, 0, none⟩ = some (.int .i64 rm) ∧ w'.cell? ⟨B + 2, 1, none⟩ = some (.slice ar nr cr)) (first | with_reducible exact HSX.out _ HBc.out | (with_reducible refine HSX.out _ ?_; (iterate 8 refine Below.setCell ?_ (Nat.le_refl (B + 3)) _); with_reducible exact HBc.out))
    (first
      | (go_at_call 97; refine (C1.out _).mono ?_; rintro e w6 ⟨rfl, hb6⟩; replace HBf := hid (bb HBf.out hb6); replace HBc := hid (HBf.out.mono (Nat.le_of_lt HLT.out)); clear hb6)
      | (go_at_call 98; refine (C2.out _ (bb HB0.out HBf.out)).mono ?_; rintro e w7 ⟨a7, c7, rfl, ho7, hb7⟩; have HO7 := hid ho7; have HS6 := hid HBf.out.size; replace HBf := hid (bb HBf.out hb7); replace HBc := hid (HBf.out.mono (Nat.le_of_lt HLT.out)); have HB7 := HBf; obtain ⟨_, _, _, ⟨kb0, kb1, kb2, kb3, kb4, kb5, kb6, kb7⟩, kbf⟩ := HXX.out _ HB7.out; have kf0 := kbf 0; have kf1 := kbf 1; have kf2 := kbf 2; have kf3 := kbf 3; have kf4 := kbf 4; have kf5 := kbf 5; have kf6 := kbf 6; have kf7 := kbf 7; clear ho7 hb7 kbf))
  all_goals
    have HD := hid ((show B + 3 < W0.heap.size from lt_of_heap HM4.out))
    have HW := hid ((HB0.out.trans (HB7.out.mono HB0.out.size)))
    go_wp2_with fail
    refine bodyPost_ret (v := .agg #[.string x, .slice a7 nh c7, .int .i64 sk, .int .i64 nw, .int .i64 am, .slice aa na ca, .int .i64 rm, .slice ar nr cr]) (by simp [results, Tryz.results64, go_sem, kb0, kb1, kb2, kb3, kb4, kb5, kb6, kb7]) rfl ⟨a7, c7, rfl, ?_, ?_⟩
    · have hBw : B ≤ w6.heap.size := by have := HD.out; have := HS6.out; omega
      rw [hB]
      have hDl : B + 3 < w6.heap.size := by have := HD.out; have := HS6.out; omega
      exact u_own_base (u_own_keep (u_own_keep (u_own_keep (u_own_keep (u_own_keep (u_own_keep (u_own_keep (u_own_keep HO7.out hDl _ _) hDl _ _) hDl _ _) hDl _ _) hDl _ _) hDl _ _) hDl _ _) hDl _ _) hBw
    · iterate 8 refine Below.setCell ?_ (show w.heap.size ≤ B + 3 by omega) _
      exact HW.out

end Go.Proofs.YtgdfeicojgnoaaaGreatDoor

namespace Go.Proofs.YtgdfeicojgnoaaaGreatDoor
open Go.RowKit
set_option linter.unusedVariables false
set_option linter.unusedSimpArgs false

/-- Two rows that share no block. -/
def Apart (a b : Option Addr) (n m : Nat) : Prop := 0 < n → 0 < m → ∀ x o y p, a = some ⟨x, o, none⟩ → b = some ⟨y, p, none⟩ → ¬ x = y

/-- A gate in memory of its own from B on. -/
def GtOwn (w : World) (B : Nat) (g : Gt) (ah aa ar : Option Addr) : Prop := OwnHd w B ah g.hands ∧ OwnRo w B aa g.ask.rows ∧ OwnRo w B ar g.hrd.rows ∧ Apart aa ar g.ask.rows.length g.hrd.rows.length

theorem GtOwn.row {w : World} {B : Nat} {g : Gt} {ah aa ar : Option Addr} (h : GtOwn w B g ah aa ar) : GtRow w g ah aa ar := ⟨h.1.row, h.2.1.row, h.2.2.1.row⟩

theorem GtOwn.below {w w' : World} {B : Nat} {g : Gt} {ah aa ar : Option Addr} (h : GtOwn w B g ah aa ar) (hb : Below w.heap.size w w') : GtOwn w' B g ah aa ar := ⟨h.1.below hb, h.2.1.below hb, h.2.2.1.below hb, h.2.2.2⟩

theorem GtOwn.mono {w : World} {B B' : Nat} {g : Gt} {ah aa ar : Option Addr} (h : GtOwn w B g ah aa ar) (hB : B' ≤ B) : GtOwn w B' g ah aa ar := ⟨h.1.mono hB, h.2.1.mono hB, h.2.2.1.mono hB, h.2.2.2⟩

theorem GtOwn.keep {w w' : World} {B : Nat} {p : Nat → Prop} {g : Gt} {ah aa ar : Option Addr} (h : GtOwn w B g ah aa ar) (hk : u_KeepB p w w') (hp : ∀ b, p b → b < B) : GtOwn w' B g ah aa ar := ⟨h.1.keep hk hp, h.2.1.keep hk hp, h.2.2.1.keep hk hp, h.2.2.2⟩

/-- Eight stores into a box below B. -/
theorem own_set8 {w : World} {B R : Nat} {g : Gt} {ah aa ar : Option Addr} (h : GtOwn w B g ah aa ar) (hR : R < B) (v0 v1 v2 v3 v4 v5 v6 v7 : Value) :
    GtOwn ((((((((w.setCell ⟨R, 0, none⟩ v0).setCell ⟨R, 1, none⟩ v1).setCell ⟨R, 2, none⟩ v2).setCell ⟨R, 3, none⟩ v3).setCell ⟨R, 4, none⟩ v4).setCell ⟨R, 5, none⟩ v5).setCell ⟨R, 6, none⟩ v6).setCell ⟨R, 7, none⟩ v7) B g ah aa ar := by
  have hp : ∀ b, (fun k => k = R) b → b < B := fun b e => by rw [e]; exact hR
  exact (((((((h.keep (u_KeepB.of_set (p := fun k => k = R) w 0 v0 rfl) hp).keep (u_KeepB.of_set (p := fun k => k = R) _ 1 v1 rfl) hp).keep (u_KeepB.of_set (p := fun k => k = R) _ 2 v2 rfl) hp).keep (u_KeepB.of_set (p := fun k => k = R) _ 3 v3 rfl) hp).keep (u_KeepB.of_set (p := fun k => k = R) _ 4 v4 rfl) hp).keep (u_KeepB.of_set (p := fun k => k = R) _ 5 v5 rfl) hp).keep (u_KeepB.of_set (p := fun k => k = R) _ 6 v6 rfl) hp).keep (u_KeepB.of_set (p := fun k => k = R) _ 7 v7 rfl) hp

/-- Two rows of which one was made after the other. -/
theorem apart_of {w w2 : World} {B C : Nat} {a b : Option Addr} {l m : List Ro} (h1 : OwnRo w B a l) (hC : w.heap.size ≤ C) (h2 : OwnRo w2 C b m) : Apart a b l.length m.length := fun hl hm x o y p e1 e2 e => by
  obtain ⟨g1, _, _, d1, _, k1, _⟩ := h1 hl
  obtain ⟨g2, _, _, d2, c2, _, _⟩ := h2 hm
  rw [e1] at d1
  rw [e2] at d2
  cases d1
  cases d2
  have := lt_of_heap k1
  omega

set_option maxRecDepth 8000 in
set_option maxHeartbeats 16000000 in
theorem cCopiedGate (g : Gt) (ah : Option Addr) (ch : Nat) (aa : Option Addr) (ca : Nat) (ar : Option Addr) (cr : Nat) (w : World) (hR : GtRow w g ah aa ar) (hz : GtSz 1048576 g) (hn1 : g.hands.length ≤ 100000) (hn2 : g.ask.rows.length ≤ 100000) (hn3 : g.hrd.rows.length ≤ 100000) :
    Calls Tryz.prog 67 #[gtV g ah ch aa ca ar cr] w fun e w' => ∃ ah' ch' aa' ca' ar' cr', e = .returned (gtV g ah' ch' aa' ca' ar' cr') ∧ GtOwn w' w.heap.size g ah' aa' ar' ∧ Below w.heap.size w w' := by
  obtain ⟨z1, z2, z3, z4, z5, z6, z7⟩ := hz
  have CA := hid (fun wx (h : Below w.heap.size w wx) => cCopiedTable g.ask aa ca wx (hR.2.1.below h) z4 hn2)
  have CR := hid (fun wx (h : Below w.heap.size w wx) => cCopiedTable g.hrd ar cr wx (hR.2.2.below h) z6 hn3)
  have CG := hid (fun (aa' : Option Addr) (ca' : Nat) (ar' : Option Addr) (cr' : Nat) wx (h : Below w.heap.size w wx) => cGateWith g.name g.hands ah ch g.skew g.now g.ask.most aa g.ask.rows.length ca g.hrd.most ar g.hrd.rows.length cr g.ask.most aa' g.ask.rows.length ca' g.hrd.most ar' g.hrd.rows.length cr' wx (hR.1.below h) z2 hn1 z1)
  have HFIN := hid (fun (w6 w7 w9 wz : World) (B6 B7 B9 : Nat) (a6 a7 a9 : Option Addr) (c6 c7 c9 : Nat) (ho6 : w6.ownsRow B6 83 2 (.slice a6 g.ask.rows.length c6) g.ask.rows.length (roC g.ask.rows)) (hb6 : Below w6.heap.size w6 wz) (hB7 : w6.heap.size ≤ B7) (ho7 : w7.ownsRow B7 83 2 (.slice a7 g.hrd.rows.length c7) g.hrd.rows.length (roC g.hrd.rows)) (hb7 : Below w7.heap.size w7 wz) (ho9 : wz.ownsRow B9 72 4 (.slice a9 g.hands.length c9) g.hands.length (hdC g.hands)) (Bx : Nat) (q6 : Bx ≤ B6) (q7 : Bx ≤ B7) (q9 : Bx ≤ B9) => (show GtOwn wz Bx g a9 a6 a7 from by
    obtain ⟨a, c, e, o6⟩ := own_ro ho6 rfl
    cases e
    obtain ⟨a, c, e, o7⟩ := own_ro ho7 rfl
    cases e
    obtain ⟨a, c, e, o9⟩ := own_hd ho9 rfl
    cases e
    exact ⟨o9.mono q9, (o6.below hb6).mono q6, (o7.below hb7).mono q7, apart_of o6 hB7 o7⟩))
  have HOWN := hid (fun (wx : World) (Bx : Nat) (a b c : Option Addr) (h : GtOwn wx Bx g a b c) (R : Nat) (hR : R < Bx) => own_set8 h hR)
  unfold gtV
  unfold tbV at CA CR
  clear hR z1 z2 z3 z4 z5 z6 z7 hn1 hn2 hn3
  generalize g.name = x at *
  generalize g.skew = sk at *
  generalize g.now = nw at *
  generalize g.ask.most = am at *
  generalize g.hrd.most = rm at *
  generalize g.hands.length = nh at *
  generalize g.ask.rows.length = na at *
  generalize g.hrd.rows.length = nr at *
  obtain ⟨b1, b2⟩ := u_heap2 w (.cells #[.string x, .slice ah nh ch, .int .i64 sk, .int .i64 nw, .int .i64 am, .slice aa na ca, .int .i64 rm, .slice ar nr cr] 29) (.cells #[.string ⟨#[]⟩, .slice none 0 0, .int .i64 0, .int .i64 0, .int .i64 0, .slice none 0 0, .int .i64 0, .slice none 0 0] 29)
  have HB0 := hid (((Below.refl w.heap.size w).alloc (Nat.le_refl _) (.cells #[.string x, .slice ah nh ch, .int .i64 sk, .int .i64 nw, .int .i64 am, .slice aa na ca, .int .i64 rm, .slice ar nr cr] 29)).alloc (by simp) (.cells #[.string ⟨#[]⟩, .slice none 0 0, .int .i64 0, .int .i64 0, .int .i64 0, .slice none 0 0, .int .i64 0, .slice none 0 0] 29))
  obtain ⟨W0, hW0⟩ : ∃ W0, (w.alloc (.cells #[.string x, .slice ah nh ch, .int .i64 sk, .int .i64 nw, .int .i64 am, .slice aa na ca, .int .i64 rm, .slice ar nr cr] 29)).alloc (.cells #[.string ⟨#[]⟩, .slice none 0 0, .int .i64 0, .int .i64 0, .int .i64 0, .slice none 0 0, .int .i64 0, .slice none 0 0] 29) = W0 := ⟨_, rfl⟩
  rw [hW0] at b1 b2 HB0
  obtain ⟨B, hB⟩ : ∃ B, w.heap.size = B := ⟨_, rfl⟩
  have HBE := hid hB
  rw [hB] at b1 b2
  have HM1 := hid b1
  have HM2 := hid b2
  clear b1 b2
  have HLT := hid (show B + 1 < W0.heap.size from lt_of_heap HM2.out)
  obtain ⟨⟨f0, f1, f2, f3, f4, f5, f6, f7⟩, _⟩ := g_box8f HM1.out
  obtain ⟨⟨k0, k1, k2, k3, k4, k5, k6, k7⟩, _⟩ := g_box8f HM2.out
  go_enter Tryz.func67, Tryz.ntmps67
  go_wp2_with fail
  clear f0 f1 f2 f3 f4 f5 f6 f7 k0 k1 k2 k3 k4 k5 k6 k7
  have HBf := hid ((Below.refl W0.heap.size W0).drew)
  have HBc := hid (HBf.out.mono (Nat.le_of_lt HLT.out))
  have HSX := hid (show ∀ W', Below (B + 1) W0 W' → W'.cell? ⟨B, 0, none⟩ = some (.string x) ∧ W'.cell? ⟨B, 1, none⟩ = some (.slice ah nh ch) ∧ W'.cell? ⟨B, 2, none⟩ = some (.int .i64 sk) ∧ W'.cell? ⟨B, 3, none⟩ = some (.int .i64 nw) ∧ W'.cell? ⟨B, 4, none⟩ = some (.int .i64 am) ∧ W'.cell? ⟨B, 5, none⟩ = some (.slice aa na ca) ∧ W'.cell? ⟨B, 6, none⟩ = some (.int .i64 rm) ∧ W'.cell? ⟨B, 7, none⟩ = some (.slice ar nr cr) from fun W' hb => (g_box8f ((hb.block B (by omega)).trans HM1.out)).1)
  go_region_held3 (fun w' => w'.cell? ⟨B, 0, none⟩ = some (.string x) ∧ w'.cell? ⟨B, 1, none⟩ = some (.slice ah nh ch) ∧ w'.cell? ⟨B, 2, none⟩ = some (.int .i64 sk) ∧ w'.cell? ⟨B, 3, none⟩ = some (.int .i64 nw) ∧ w'.cell? ⟨B, 4, none⟩ = some (.int .i64 am) ∧ w'.cell? ⟨B, 5, none⟩ = some (.slice aa na ca) ∧ w'.cell? ⟨B, 6, none⟩ = some (.int .i64 rm) ∧ w'.cell? ⟨B, 7, none⟩ = some (.slice ar nr cr)) (first | with_reducible exact HSX.out _ HBc.out | (with_reducible refine HSX.out _ ?_; (iterate 8 refine Below.setCell ?_ (Nat.le_refl (B + 1)) _); with_reducible exact HBc.out))
    (first
      | (go_at_call 69; with_reducible refine (CA.out _ (bb HB0.out HBf.out)).mono ?_; rintro e w6 ⟨a6, c6, rfl, ho6, hb6⟩; have HO6 := hid ho6; have HS5 := hid HBf.out.size; have H6 := hid (Below.refl w6.heap.size w6); replace HBf := hid (bb HBf.out hb6); replace HBc := hid (HBf.out.mono (Nat.le_of_lt HLT.out)); clear ho6 hb6)
      | (go_at_call 69; with_reducible refine (CR.out _ (bb HB0.out HBf.out)).mono ?_; rintro e w7 ⟨a7, c7, rfl, ho7, hb7⟩; have HO7 := hid ho7; have HS6 := hid HBf.out.size; have HS67 := hid H6.out.size; have H7 := hid (Below.refl w7.heap.size w7); replace H6 := hid (bb H6.out hb7); replace HBf := hid (bb HBf.out hb7); replace HBc := hid (HBf.out.mono (Nat.le_of_lt HLT.out)); clear ho7 hb7)
      | (go_at_call 64; refine (CG.out a6 c6 a7 c7 _ (bb HB0.out HBf.out)).mono ?_; rintro e w9 ⟨a9, c9, rfl, ho9, hb9⟩; have HO9 := hid ho9; have HS9 := hid (bb HB0.out HBf.out).size; have HL9 := hid HBf.out.size; replace H6 := hid (bb H6.out hb9); replace H7 := hid (bb H7.out hb9); replace HBf := hid (bb HBf.out hb9); replace HBc := hid (HBf.out.mono (Nat.le_of_lt HLT.out)); obtain ⟨⟨kb0, kb1, kb2, kb3, kb4, kb5, kb6, kb7⟩, kbf⟩ := g_box8f (u_blk_below HM2.out HBf.out); have kf0 := kbf 0; have kf1 := kbf 1; have kf2 := kbf 2; have kf3 := kbf 3; have kf4 := kbf 4; have kf5 := kbf 5; have kf6 := kbf 6; have kf7 := kbf 7; clear ho9 hb9 kbf))
  have HG := hid (HFIN.out w6 w7 w9 w9 _ _ _ a6 a7 a9 c6 c7 c9 HO6.out H6.out HS67.out HO7.out H7.out HO9.out W0.heap.size HS5.out HS6.out HL9.out)
  go_wp2_with fail
  refine bodyPost_ret (v := .agg #[.string x, .slice a9 nh c9, .int .i64 sk, .int .i64 nw, .int .i64 am, .slice a6 na c6, .int .i64 rm, .slice a7 nr c7]) (by simp [results, Tryz.results67, go_sem, kb0, kb1, kb2, kb3, kb4, kb5, kb6, kb7]) rfl ⟨a9, c9, a6, c6, a7, c7, rfl, ?_, ?_⟩
  · refine (HOWN.out _ _ _ _ _ HG.out (B + 1) HLT.out _ _ _ _ _ _ _ _).mono ?_
    have := HLT.out
    omega
  · iterate 8 refine Below.setCell ?_ (show w.heap.size ≤ B + 1 by omega) _
    exact bb HB0.out HBf.out

end Go.Proofs.YtgdfeicojgnoaaaGreatDoor

namespace Go.Proofs.YtgdfeicojgnoaaaGreatDoor
open Go.RowKit
set_option linter.unusedVariables false
set_option linter.unusedSimpArgs false

/-- The first n rows from o on bear the marks from k on. -/
def MarksR (cur : Array Value) (o n k : Nat) : Prop := ∀ j, j < n → cur[o + j * 2]? = some (.string (u_markS (k + 2 * j))) ∧ cur[o + j * 2 + 1]? = some (.int .i64 ((k + 2 * j + 1 : Nat) : Int))

theorem cMarkRow0 (a : Option Addr) (cap k : Nat) (w : World) :
    Calls Tryz.prog 91 #[.slice a 0 cap, .int .i64 k] w fun e w' => e = .returned (.int .i64 k) ∧ w' = w := by
  go_enter Tryz.func91, Tryz.ntmps91
  go_wp2
  go_loop [1, 5] (fun x j => x = .int .i64 (k : Int) ∧ j = .int .i64 0) (fun _ _ => 0)
  case atStart => exact ⟨rfl, rfl⟩
  case round =>
    obtain ⟨rfl, rfl⟩ := hrel
    go_wp2
    go_ret
    exact ⟨rfl, rfl⟩

set_option maxRecDepth 8000 in
set_option maxHeartbeats 2000000 in
theorem cMarkRowS (g o cap n k : Nat) (cur0 : Array Value) (w : World) (hg : w.heap[g]? = some (.cells cur0 83 (0, 0))) (ho : o + n * 2 ≤ cur0.size) (hk : k + 2 * n ≤ 100000000) :
    Calls Tryz.prog 91 #[.slice (some ⟨g, o, none⟩) n cap, .int .i64 k] w fun e w' => e = .returned (.int .i64 ((k + 2 * n : Nat) : Int)) ∧ (∃ cur, w'.heap[g]? = some (.cells cur 83 (0, 0)) ∧ cur.size = cur0.size ∧ MarksR cur o n k) ∧ w.grownBy w' (some g) := by
  have HG := hid hg
  clear hg
  go_enter Tryz.func91, Tryz.ntmps91
  go_wp2
  go_loopw [1, 5] (fun x y wr => ∃ (i : Nat) (cur : Array Value), x = .int .i64 ((k + 2 * i : Nat) : Int) ∧ y = .int .i64 (i : Int) ∧ i ≤ n ∧ Hid (wr.heap[g]? = some (.cells cur 83 (0, 0))) ∧ cur.size = cur0.size ∧ Hid (MarksR cur o i k) ∧ Hid (w.grownBy wr (some g))) (fun _ y _ => n - (intOf y).toNat)
  case atStart => exact ⟨0, cur0, rfl, rfl, Nat.zero_le _, HG.out, rfl, fun j h => by omega, World.grownBy.refl _ _⟩
  case round =>
    clear HG
    obtain ⟨i, cur, rfl, rfl, hi, HH, hcs, HM, HW⟩ := hrel
    by_cases hlt : i < n
    · have hin : (i : Int) < (n : Int) := by omega
      have C1 := fun w => u_cMarkText (k + 2 * i) (by omega) w
      obtain ⟨K, hK⟩ : ∃ K, k + 2 * i = K := ⟨_, rfl⟩
      obtain ⟨X, hX⟩ : ∃ X, u_markS (k + 2 * i) = X := ⟨_, rfl⟩
      have HX := hid hX
      have HKK := hid hK
      have HE := hid (show K + 2 = k + 2 * (i + 1) by omega)
      rw [hX] at C1
      rw [hK] at C1 ⊢
      have hKb : K ≤ 100000000 := by omega
      clear hX hK
      go_wp2_with fail
      refine (C1 _).mono ?_
      rintro e w2 ⟨rfl, hb2⟩
      have HW2 := hid (u_gr_below HW.out hb2)
      have H2 := hid (u_blk_below HH.out hb2)
      obtain ⟨o1, k1⟩ := u_cell_there H2.out (i := o + i * 2) (by omega)
      have f1 : w2.frozen? ⟨g, o + i * 2, none⟩ = false := Lib.frozen_of_heap H2.out _
      have H3 := hid (u_heap_set (i := o + i * 2) H2.out (.string X))
      have HW3 := hid (u_gr_set HW2.out (o + i * 2) (.string X))
      clear hb2 C1
      obtain ⟨w3, hw3⟩ : ∃ w3, w2.setCell ⟨g, o + i * 2, none⟩ (.string X) = w3 := ⟨_, rfl⟩
      rw [hw3] at H3 HW3
      obtain ⟨o2, k2⟩ := u_cell_there H3.out (i := o + i * 2 + 1) (by simp; omega)
      have f2 : w3.frozen? ⟨g, o + i * 2 + 1, none⟩ = false := Lib.frozen_of_heap H3.out _
      have H5 := hid (u_heap_set (i := o + i * 2 + 1) H3.out (.int .i64 ((K + 1 : Nat) : Int)))
      have HW5 := hid (u_gr_set HW3.out (o + i * 2 + 1) (.int .i64 ((K + 1 : Nat) : Int)))
      have HM5 := hid (show MarksR ((cur.setIfInBounds (o + i * 2) (.string X)).setIfInBounds (o + i * 2 + 1) (.int .i64 ((K + 1 : Nat) : Int))) o (i + 1) k from fun j hj => by
        by_cases e : j = i
        · subst e
          rw [HX.out, HKK.out]
          simp [Array.getElem?_setIfInBounds, hcs]
          omega
        · have := HM.out j (by omega)
          simp only [Array.getElem?_setIfInBounds]
          rw [if_neg (by omega), if_neg (by omega), if_neg (by omega), if_neg (by omega)]
          exact this)
      have eK : ((K + 1 : Nat) : Int) = (K : Int) + 1 := by omega
      rw [eK] at HW5 H5 HM5
      clear eK
      go_wp2_with fail
      go_roundw
      case rel => exact ⟨i + 1, _, by rw [← HE.out]; go_num, by go_num, by omega, H5.out, by simp [hcs], HM5.out, HW5.out⟩
      case measure => simp [intOf]; omega
    · have hie : i = n := by omega
      subst hie
      go_wp2_with fail
      go_ret
      exact ⟨rfl, ⟨cur, HH.out, hcs, HM.out⟩, HW.out⟩

set_option maxRecDepth 8000 in
set_option maxHeartbeats 2000000 in
theorem cHeldRowS (a : Option Addr) (cap k : Nat) (l : List Ro) (w : World) (hR : RoRow w a l) (hm : ∀ j (h : j < l.length), l[j].id = u_markS (k + 2 * j) ∧ l[j].til = ((k + 2 * j + 1 : Nat) : Int)) (hk : k + 2 * l.length ≤ 100000000) :
    Calls Tryz.prog 92 #[.slice a l.length cap, .int .i64 k] w fun e w' => e = .returned (.int .i64 ((k + 2 * l.length : Nat) : Int)) ∧ Below w.heap.size w w' := by
  have HR := hid hR
  have HM := hid hm
  clear hR hm
  obtain ⟨n, hnn⟩ : ∃ n, l.length = n := ⟨_, rfl⟩
  have HN := hid hnn
  rw [hnn] at hk ⊢
  clear hnn
  go_enter Tryz.func92, Tryz.ntmps92
  go_wp2
  go_loopw [1, 5] (fun x y wr => ∃ i : Nat, x = .int .i64 ((k + 2 * i : Nat) : Int) ∧ y = .int .i64 (i : Int) ∧ i ≤ n ∧ Hid (Below w.heap.size w wr)) (fun _ y _ => n - (intOf y).toNat)
  case atStart => exact ⟨0, rfl, rfl, Nat.zero_le _, Below.refl _ _⟩
  case round =>
    obtain ⟨i, rfl, rfl, hi, HB⟩ := hrel
    by_cases hlt : i < n
    · have his : i < l.length := by rw [HN.out]; exact hlt
      have hin : (i : Int) < (n : Int) := by omega
      obtain ⟨b, o, rfl, hb, c1, c2⟩ := HR.out.below HB.out i his
      obtain ⟨m1, m2⟩ := HM.out i his
      rw [m1] at c1
      rw [m2] at c2
      have C1 := fun w => u_cMarkText (k + 2 * i) (by omega) w
      have s1 := u_markS_size (k + 2 * i)
      obtain ⟨K, hK⟩ : ∃ K, k + 2 * i = K := ⟨_, rfl⟩
      obtain ⟨X, hX⟩ : ∃ X, u_markS (k + 2 * i) = X := ⟨_, rfl⟩
      have HE := hid (show K + 2 = k + 2 * (i + 1) by omega)
      rw [hX] at C1 c1 s1
      rw [hK] at C1 s1 c2 ⊢
      have hKb : K ≤ 100000000 := by omega
      have eK : ((K + 1 : Nat) : Int) = (K : Int) + 1 := by omega
      rw [eK] at c2
      clear hX hK m1 m2 eK
      have q1 : (X.toList != X.toList) = false := by simp
      have q2 : (((K : Int) + 1) != ((K : Int) + 1)) = false := by simp
      have HNB := hid (bw_any wr)
      obtain ⟨d1, d2⟩ := pair_bw hb c1 c2
      go_wp2_with fail
      haveI := HNB.out
      refine wp_region_below (by kernel_rfl) (by kernel_rfl) (Below.refl wr.heap.size wr) ?_
      repeat (go_big_quiet_step ((go_at_call 90; exact calls_bw _ (C1 _))))
      refine wpQuiet_nil ?_
      intro w2 hw'
      obtain ⟨⟨wx, hb2⟩, hw''⟩ := hw'
      subst hw''
      have HB2 := hid (bb HB.out hb2)
      have e2 : w2.cell? ⟨b, o + i * 2 + 1, none⟩ = some (.int .i64 ((K : Int) + 1)) := (hb2.cell (p := ⟨b, o + i * 2 + 1, none⟩) hb).trans c2
      clear this HNB d1 d2 c1 c2 C1 hb2
      go_wp2_with fail
      go_roundw
      case rel => exact ⟨i + 1, by rw [← HE.out]; go_num, by go_num, by omega, HB2.out⟩
      case measure => simp [intOf]; omega
    · have hie : i = n := by omega
      subst hie
      go_wp2_with fail
      go_ret
      exact ⟨rfl, HB.out⟩

theorem ro_room {cu : Array Value} {o : Nat} {l : List Ro} (h : RoCells cu o l) (hl : 0 < l.length) : o + l.length * 2 ≤ cu.size := by
  have h1 := (h (l.length - 1) (by omega)).2
  have h2 : o + (l.length - 1) * 2 + 1 < cu.size := by
    rcases Nat.lt_or_ge (o + (l.length - 1) * 2 + 1) cu.size with h' | h'
    · exact h'
    · rw [Array.getElem?_eq_none h'] at h1
      cases h1
  omega

/-- The rows are marked. -/
def HeldR (w : World) (a : Option Addr) (n : Nat) : Prop := 0 < n → ∃ g o cu, a = some ⟨g, o, none⟩ ∧ w.heap[g]? = some (.cells cu 83 (0, 0)) ∧ MarksR cu o n 1

theorem HeldR.below {w w' : World} {a : Option Addr} {n : Nat} (h : HeldR w a n) (hb : Below w.heap.size w w') : HeldR w' a n := fun hn => by
  obtain ⟨g, o, cu, e1, e2, e3⟩ := h hn
  exact ⟨g, o, cu, e1, u_blk_below e2 hb, e3⟩

set_option maxHeartbeats 4000000 in
theorem cMarkTable (t : Tb) (a : Option Addr) (cap B : Nat) (w : World) (hO : OwnRo w B a t.rows) (hn : t.rows.length ≤ 1048577) :
    Calls Tryz.prog 56 #[tbV t a cap, .int .i64 1] w fun e w' => e = .returned (.int .i64 ((1 + 2 * t.rows.length : Nat) : Int)) ∧ HeldR w' a t.rows.length ∧ u_KeepB (fun b => ∃ o, a = some ⟨b, o, none⟩ ∧ 0 < t.rows.length) w w' := by
  have HB0 := hid ((Below.refl w.heap.size w).alloc (Nat.le_refl _) (.cells #[.int .i64 t.most, .slice a t.rows.length cap] 27))
  have HO := hid hO
  unfold tbV
  clear hO
  rcases Nat.eq_zero_or_pos t.rows.length with h0 | h0
  · have CM := hid (fun wx => cMarkRow0 a cap 1 wx)
    rw [h0] at HB0 hn ⊢
    go_enter Tryz.func56, Tryz.ntmps56
    go_wp2_with fail
    refine (CM.out _).mono ?_
    rintro e w1 ⟨rfl, rfl⟩
    go_wp2_with fail
    go_ret
    exact ⟨rfl, fun h => absurd h (Nat.lt_irrefl 0), u_KeepB.of_below _ HB0.out⟩
  · obtain ⟨g, o, cu, e1, e2, e3, e4⟩ := HO.out h0
    subst e1
    have CM := hid (cMarkRowS g o cap t.rows.length 1 cu (w.alloc (.cells #[.int .i64 t.most, .slice (some ⟨g, o, none⟩) t.rows.length cap] 27)) (u_blk_below e3 HB0.out) (ro_room e4 h0) (by omega))
    have H0 := hid h0
    clear e2 e3 e4 HO h0
    obtain ⟨n, hnn⟩ : ∃ n, t.rows.length = n := ⟨_, rfl⟩
    rw [hnn] at CM HB0 hn H0 ⊢
    clear hnn
    generalize t.most = m at *
    obtain ⟨K, hK⟩ : ∃ K, 1 + 2 * n = K := ⟨_, rfl⟩
    rw [hK] at CM ⊢
    clear hK
    go_enter Tryz.func56, Tryz.ntmps56
    go_wp2_with fail
    refine CM.out.mono ?_
    rintro e w1 ⟨rfl, hm, hgr⟩
    have HH := hid (show HeldR w1 (some ⟨g, o, none⟩) n from fun _ => by
      obtain ⟨cur, k1, _, k3⟩ := hm
      exact ⟨g, o, cur, rfl, k1, k3⟩)
    have HK := hid ((u_KeepB.of_below (fun b => ∃ o', (some ⟨g, o, none⟩ : Option Addr) = some ⟨b, o', none⟩ ∧ 0 < n) HB0.out).trans (u_KeepB.of_grown (p := fun b => ∃ o', (some ⟨g, o, none⟩ : Option Addr) = some ⟨b, o', none⟩ ∧ 0 < n) hgr ⟨o, rfl, H0.out⟩))
    clear hgr CM hm
    go_wp2_with fail
    go_ret
    exact ⟨rfl, HH.out, HK.out⟩

/-- The marked rows. -/
def markR (n : Nat) : List Ro := (List.range n).map fun j => ⟨u_markS (1 + 2 * j), ((1 + 2 * j + 1 : Nat) : Int)⟩

theorem markR_len (n : Nat) : (markR n).length = n := by unfold markR; rw [List.length_map, List.length_range]

theorem markR_at (n j : Nat) (h : j < (markR n).length) : (markR n)[j] = ⟨u_markS (1 + 2 * j), ((1 + 2 * j + 1 : Nat) : Int)⟩ := by
  simp [markR]

theorem HeldR.row {w : World} {a : Option Addr} {n : Nat} (h : HeldR w a n) : RoRow w a (markR n) := fun j hj => by
  have hj' : j < n := by rw [markR_len] at hj; exact hj
  obtain ⟨g, o, cu, e1, e2, e3⟩ := h (by omega)
  rw [markR_at]
  exact ⟨g, o, e1, lt_of_heap e2, by rw [Lib.cell_of_heap e2]; exact (e3 j hj').1, by rw [Lib.cell_of_heap e2]; exact (e3 j hj').2⟩

set_option maxHeartbeats 4000000 in
theorem cHeldTable (t : Tb) (a : Option Addr) (cap : Nat) (w : World) (hH : HeldR w a t.rows.length) (hn : t.rows.length ≤ 1048577) :
    Calls Tryz.prog 58 #[tbV t a cap, .int .i64 1] w fun e w' => e = .returned (.int .i64 ((1 + 2 * t.rows.length : Nat) : Int)) ∧ Below w.heap.size w w' := by
  have HB0 := hid ((Below.refl w.heap.size w).alloc (Nat.le_refl _) (.cells #[.int .i64 t.most, .slice a t.rows.length cap] 27))
  have CH := hid (fun (wx : World) (h : Below w.heap.size w wx) => cHeldRowS a cap 1 (markR t.rows.length) wx ((hH.below h).row) (fun j hj => by rw [markR_at]; exact ⟨rfl, rfl⟩) (by rw [markR_len]; omega))
  rw [markR_len] at CH
  unfold tbV
  clear hH
  obtain ⟨n, hnn⟩ : ∃ n, t.rows.length = n := ⟨_, rfl⟩
  rw [hnn] at CH HB0 hn ⊢
  clear hnn
  generalize t.most = m at *
  obtain ⟨K, hK⟩ : ∃ K, 1 + 2 * n = K := ⟨_, rfl⟩
  rw [hK] at CH ⊢
  clear hK
  have hd : decide ((K : Int) < 0) = false := by simp
  go_enter Tryz.func58, Tryz.ntmps58
  go_wp2_with fail
  refine (CH.out _ HB0.out).mono ?_
  rintro e w1 ⟨rfl, hb1⟩
  have HB1 := hid (bb HB0.out hb1)
  clear hb1 CH
  go_wp2_with fail
  go_ret
  exact ⟨rfl, HB1.out⟩

end Go.Proofs.YtgdfeicojgnoaaaGreatDoor
