/- The program's withRow. Stores into a box of a gate, and the rows that stand beside it. The program's askingGate. -/
import Derived.Test.YtajlgnlifffanaaGreatDoorM33
import Derived.Test.YtajlgnlifffanaaGreatDoorM10
import Derived.Test.YtajlgnlifffanaaGreatDoorM11
import Derived.Test.YtajlgnlifffanaaGreatDoorM31
import Derived.Test.YtajlgnlifffanaaGreatDoorM6
import Derived.Deep.Cut
import Derived.Deep.CutRange
import Derived.Deep.RegionHeld3
namespace Go.Proofs.YtajlgnlifffanaaGreatDoor
open Go.RowKit
set_option linter.unusedVariables false
set_option linter.unusedSimpArgs false

set_option maxRecDepth 8000 in
set_option maxHeartbeats 8000000 in
theorem cRowIn (t : Tb) (a : Option Addr) (cap : Nat) (id : ByteArray) (til : Int) (a0 a1 a2 : Addr) (w : World) (hS : SenA a0 a1 a2 w) (hR : RoRow w a t.rows) (hz : RoSz 1048576 t.rows) (hn : t.rows.length ≤ 1048576) (hi : id.size ≤ 1048576) (hc : (enteredT t id til).2 = 0) :
    Calls Tryz.prog 68 #[tbV t a cap, .string id, .int .i64 til] w fun e w' => ∃ a' c', e = .returned (.tuple #[tbV (enteredT t id til).1 a' c', .nilIface]) ∧ OwnRo w' w.heap.size a' (enteredT t id til).1.rows ∧ Below w.heap.size w w' := by
  have CE := hid (fun wx (h : Below w.heap.size w wx) => cEnteredI t a cap id til wx (hR.below h) hz hn hi)
  have HS := hid hS
  rw [hc] at CE
  generalize enteredT t id til = E at *
  clear hR hz hn hi hS hc
  have HTV := hid (show ∀ (T : Tb) (p : Option Addr) (q : Nat), tbV T p q = .agg #[.int .i64 T.most, .slice p T.rows.length q] from fun _ _ _ => rfl)
  rw [HTV.out] at CE ⊢
  simp only [HTV.out] at CE ⊢
  generalize t.most = m at *
  generalize t.rows.length = n at *
  obtain ⟨b1, b2⟩ := u_heap2 w (.cells #[.int .i64 m, .slice a n cap] 27) (.cells #[.int .i64 0, .slice none 0 0] 27)
  have HB0 := hid (((Below.refl w.heap.size w).alloc (Nat.le_refl _) (.cells #[.int .i64 m, .slice a n cap] 27)).alloc (by simp) (.cells #[.int .i64 0, .slice none 0 0] 27))
  obtain ⟨W0, hW0⟩ : ∃ W0, (w.alloc (.cells #[.int .i64 m, .slice a n cap] 27)).alloc (.cells #[.int .i64 0, .slice none 0 0] 27) = W0 := ⟨_, rfl⟩
  rw [hW0] at b1 b2 HB0
  obtain ⟨B, hB⟩ : ∃ B, w.heap.size = B := ⟨_, rfl⟩
  rw [hB] at b1 b2
  have HM1 := hid b1
  have HM2 := hid b2
  clear b1 b2
  obtain ⟨⟨f0, f1⟩, ff0, ff1⟩ := u_box2f HM1.out
  go_enter Tryz.func68, Tryz.ntmps68
  go_wp2_with fail
  refine (CE.out _ HB0.out).mono ?_
  rintro e w1 ⟨a', c', rfl, ho, hb1⟩
  have HO := hid ho
  have HB1 := hid (bb HB0.out hb1)
  have HZ := hid (u_blk_below HM2.out hb1)
  have HLT := hid (show B + 1 < W0.heap.size from lt_of_heap HM2.out)
  have HSZ := hid hb1.size
  clear ho hb1 CE hW0 f0 f1 ff0 ff1
  have HA := hid ((Below.refl w1.heap.size w1).alloc (Nat.le_refl _) (.cells #[.int .i64 E.1.most, .slice a' E.1.rows.length c'] 27))
  have HN := hid (heap_alloc_new w1 (.cells #[.int .i64 E.1.most, .slice a' E.1.rows.length c'] 27))
  obtain ⟨w2, hw2⟩ : ∃ w2, w1.alloc (.cells #[.int .i64 E.1.most, .slice a' E.1.rows.length c'] 27) = w2 := ⟨_, rfl⟩
  have HW := hid hw2
  rw [hw2] at HA HN
  clear hw2
  have HZ2 := hid (u_blk_below HZ.out HA.out)
  have HB2 := hid (bb HB1.out HA.out)
  go_upto_region 2 with fail
  rw [HW.out]
  clear HW
  obtain ⟨⟨k0, k1⟩, kf0, kf1⟩ := u_box2f HZ2.out
  obtain ⟨⟨n0, n1⟩, nf0, nf1⟩ := u_box2f HN.out
  go_wp2_with fail
  refine bodyPost_ret (v := .tuple #[.agg #[.int .i64 E.1.most, .slice a' E.1.rows.length c'], .nilIface]) (by simp [results, Tryz.results68, go_sem, k0, k1]) rfl ⟨a', c', rfl, ?_, ?_⟩
  · have hk := (u_KeepB.of_set (p := fun b => b = B + 1) (g := B + 1) w2 0 (.int .i64 E.1.most) rfl).trans (u_KeepB.of_set (p := fun b => b = B + 1) (g := B + 1) _ 1 (.slice a' E.1.rows.length c') rfl)
    refine ((HO.out.below HA.out).keep hk (fun b e => by rw [show b = B + 1 from e]; exact HLT.out)).mono ?_
    exact HB0.out.size
  · iterate 2 refine Below.setCell ?_ (show w.heap.size ≤ B + 1 by omega) _
    exact HB2.out

set_option maxRecDepth 8000 in
set_option maxHeartbeats 8000000 in
theorem cRowThere (t : Tb) (a : Option Addr) (cap : Nat) (id : ByteArray) (til : Int) (a0 a1 a2 : Addr) (w : World) (hS : SenA a0 a1 a2 w) (hR : RoRow w a t.rows) (hz : RoSz 1048576 t.rows) (hn : t.rows.length ≤ 1048576) (hi : id.size ≤ 1048576) (hc : (enteredT t id til).2 = 1) :
    Calls Tryz.prog 68 #[tbV t a cap, .string id, .int .i64 til] w fun e w' => e = .returned (.tuple #[.agg #[.int .i64 0, .slice none 0 0], erV (.wrap 1 (.base a2))]) ∧ Below w.heap.size w w' := by
  have CE := hid (fun wx (h : Below w.heap.size w wx) => cEnteredI t a cap id til wx (hR.below h) hz hn hi)
  have HS := hid hS
  rw [hc] at CE
  generalize enteredT t id til = E at *
  clear hR hz hn hi hS hc
  have HTV := hid (show ∀ (T : Tb) (p : Option Addr) (q : Nat), tbV T p q = .agg #[.int .i64 T.most, .slice p T.rows.length q] from fun _ _ _ => rfl)
  rw [HTV.out] at CE ⊢
  simp only [HTV.out] at CE
  generalize t.most = m at *
  generalize t.rows.length = n at *
  obtain ⟨b1, b2⟩ := u_heap2 w (.cells #[.int .i64 m, .slice a n cap] 27) (.cells #[.int .i64 0, .slice none 0 0] 27)
  have HB0 := hid (((Below.refl w.heap.size w).alloc (Nat.le_refl _) (.cells #[.int .i64 m, .slice a n cap] 27)).alloc (by simp) (.cells #[.int .i64 0, .slice none 0 0] 27))
  obtain ⟨W0, hW0⟩ : ∃ W0, (w.alloc (.cells #[.int .i64 m, .slice a n cap] 27)).alloc (.cells #[.int .i64 0, .slice none 0 0] 27) = W0 := ⟨_, rfl⟩
  rw [hW0] at b1 b2 HB0
  obtain ⟨B, hB⟩ : ∃ B, w.heap.size = B := ⟨_, rfl⟩
  rw [hB] at b1 b2
  have HM1 := hid b1
  have HM2 := hid b2
  clear b1 b2
  have hgB : ¬ 2 = B + 1 := by have := lt_of_cell HS.out.cells.2.2; omega
  have hgC := hgB
  have hgD : ¬ B + 1 = 2 := fun e => hgB e.symm
  (try simp at hgC)
  obtain ⟨⟨f0, f1⟩, ff0, ff1⟩ := u_box2f HM1.out
  unfold erV
  unfold erV
  go_enter Tryz.func68, Tryz.ntmps68
  go_wp2_with fail
  refine (CE.out _ HB0.out).mono ?_
  rintro e w1 ⟨a', c', rfl, ho, hb1⟩
  have HO := hid ho
  have HB1 := hid (bb HB0.out hb1)
  have HZ := hid (u_blk_below HM2.out hb1)
  have HLT := hid (show B + 1 < W0.heap.size from lt_of_heap HM2.out)
  have HSZ := hid hb1.size
  clear ho hb1 CE hW0 f0 f1 ff0 ff1
  have HA := hid ((Below.refl w1.heap.size w1).alloc (Nat.le_refl _) (.cells #[.int .i64 E.1.most, .slice a' E.1.rows.length c'] 27))
  have HN := hid (heap_alloc_new w1 (.cells #[.int .i64 E.1.most, .slice a' E.1.rows.length c'] 27))
  obtain ⟨w2, hw2⟩ : ∃ w2, w1.alloc (.cells #[.int .i64 E.1.most, .slice a' E.1.rows.length c'] 27) = w2 := ⟨_, rfl⟩
  have HW := hid hw2
  rw [hw2] at HA HN
  clear hw2
  have HZ2 := hid (u_blk_below HZ.out HA.out)
  have HB2 := hid (bb HB1.out HA.out)
  go_upto_region 2 with fail
  rw [HW.out]
  clear HW
  obtain ⟨⟨k0, k1⟩, kf0, kf1⟩ := u_box2f HZ2.out
  have e0 := (HS.out.below HB2.out).cells.2.2
  unfold erV at e0
  go_wp2_with fail
  go_region
  go_wp2_with fail
  refine bodyPost_ret (v := .tuple #[.agg #[.int .i64 0, .slice none 0 0], .iface 102 (.agg #[.int .i64 1, .iface 229 (.pointer (some a2))])]) (by simp [results, Tryz.results68, go_sem, k0, k1]) rfl ⟨rfl, ?_⟩
  refine Below.drew ?_
  iterate 2 refine Below.setCell ?_ (show w.heap.size ≤ B + 1 by omega) _
  exact HB2.out

set_option maxRecDepth 8000 in
set_option maxHeartbeats 8000000 in
theorem cRowFull (t : Tb) (a : Option Addr) (cap : Nat) (id : ByteArray) (til : Int) (a0 a1 a2 : Addr) (w : World) (hS : SenA a0 a1 a2 w) (hR : RoRow w a t.rows) (hz : RoSz 1048576 t.rows) (hn : t.rows.length ≤ 1048576) (hi : id.size ≤ 1048576) (hc : (enteredT t id til).2 = 2) :
    Calls Tryz.prog 68 #[tbV t a cap, .string id, .int .i64 til] w fun e w' => e = .returned (.tuple #[.agg #[.int .i64 0, .slice none 0 0], erV (.wrap 2 (.base a1))]) ∧ Below w.heap.size w w' := by
  have CE := hid (fun wx (h : Below w.heap.size w wx) => cEnteredI t a cap id til wx (hR.below h) hz hn hi)
  have HS := hid hS
  rw [hc] at CE
  generalize enteredT t id til = E at *
  clear hR hz hn hi hS hc
  have HTV := hid (show ∀ (T : Tb) (p : Option Addr) (q : Nat), tbV T p q = .agg #[.int .i64 T.most, .slice p T.rows.length q] from fun _ _ _ => rfl)
  rw [HTV.out] at CE ⊢
  simp only [HTV.out] at CE
  generalize t.most = m at *
  generalize t.rows.length = n at *
  obtain ⟨b1, b2⟩ := u_heap2 w (.cells #[.int .i64 m, .slice a n cap] 27) (.cells #[.int .i64 0, .slice none 0 0] 27)
  have HB0 := hid (((Below.refl w.heap.size w).alloc (Nat.le_refl _) (.cells #[.int .i64 m, .slice a n cap] 27)).alloc (by simp) (.cells #[.int .i64 0, .slice none 0 0] 27))
  obtain ⟨W0, hW0⟩ : ∃ W0, (w.alloc (.cells #[.int .i64 m, .slice a n cap] 27)).alloc (.cells #[.int .i64 0, .slice none 0 0] 27) = W0 := ⟨_, rfl⟩
  rw [hW0] at b1 b2 HB0
  obtain ⟨B, hB⟩ : ∃ B, w.heap.size = B := ⟨_, rfl⟩
  rw [hB] at b1 b2
  have HM1 := hid b1
  have HM2 := hid b2
  clear b1 b2
  obtain ⟨⟨f0, f1⟩, ff0, ff1⟩ := u_box2f HM1.out
  unfold erV
  unfold erV
  go_enter Tryz.func68, Tryz.ntmps68
  go_wp2_with fail
  refine (CE.out _ HB0.out).mono ?_
  rintro e w1 ⟨a', c', rfl, ho, hb1⟩
  have HO := hid ho
  have HB1 := hid (bb HB0.out hb1)
  have HZ := hid (u_blk_below HM2.out hb1)
  have HLT := hid (show B + 1 < W0.heap.size from lt_of_heap HM2.out)
  have HSZ := hid hb1.size
  clear ho hb1 CE hW0 f0 f1 ff0 ff1
  have HA := hid ((Below.refl w1.heap.size w1).alloc (Nat.le_refl _) (.cells #[.int .i64 E.1.most, .slice a' E.1.rows.length c'] 27))
  have HN := hid (heap_alloc_new w1 (.cells #[.int .i64 E.1.most, .slice a' E.1.rows.length c'] 27))
  obtain ⟨w2, hw2⟩ : ∃ w2, w1.alloc (.cells #[.int .i64 E.1.most, .slice a' E.1.rows.length c'] 27) = w2 := ⟨_, rfl⟩
  have HW := hid hw2
  rw [hw2] at HA HN
  clear hw2
  have HZ2 := hid (u_blk_below HZ.out HA.out)
  have HB2 := hid (bb HB1.out HA.out)
  go_upto_region 2 with fail
  rw [HW.out]
  clear HW
  obtain ⟨⟨k0, k1⟩, kf0, kf1⟩ := u_box2f HZ2.out
  have CN := hid (fun wx h => cNotSo 2 a1 wx h)
  have HC := hid (HS.out.below HB2.out).cells.2.1
  unfold erV at CN
  unfold erV at CN
  go_wp2_with fail
  refine (CN.out _ (by have h := HC.out; unfold erV at h; exact h)).mono ?_
  rintro e w3 ⟨rfl, hw3⟩
  obtain rfl := hw3.symm
  go_wp2_with fail
  refine bodyPost_ret (v := .tuple #[.agg #[.int .i64 0, .slice none 0 0], .iface 102 (.agg #[.int .i64 2, .iface 229 (.pointer (some a1))])]) (by simp [results, Tryz.results68, go_sem, k0, k1]) rfl ⟨rfl, ?_⟩
  iterate 2 refine Below.setCell ?_ (show w.heap.size ≤ B + 1 by omega) _
  exact HB2.out

set_option maxRecDepth 8000 in
set_option maxHeartbeats 8000000 in
theorem cRowBad (t : Tb) (a : Option Addr) (cap : Nat) (id : ByteArray) (til : Int) (a0 a1 a2 : Addr) (w : World) (hS : SenA a0 a1 a2 w) (hR : RoRow w a t.rows) (hz : RoSz 1048576 t.rows) (hn : t.rows.length ≤ 1048576) (hi : id.size ≤ 1048576) (hc : (enteredT t id til).2 = 3) :
    Calls Tryz.prog 68 #[tbV t a cap, .string id, .int .i64 til] w fun e w' => e = .returned (.tuple #[.agg #[.int .i64 0, .slice none 0 0], erV (.wrap 3 (.base a0))]) ∧ Below w.heap.size w w' := by
  have CE := hid (fun wx (h : Below w.heap.size w wx) => cEnteredI t a cap id til wx (hR.below h) hz hn hi)
  have HS := hid hS
  rw [hc] at CE
  generalize enteredT t id til = E at *
  clear hR hz hn hi hS hc
  have HTV := hid (show ∀ (T : Tb) (p : Option Addr) (q : Nat), tbV T p q = .agg #[.int .i64 T.most, .slice p T.rows.length q] from fun _ _ _ => rfl)
  rw [HTV.out] at CE ⊢
  simp only [HTV.out] at CE
  generalize t.most = m at *
  generalize t.rows.length = n at *
  obtain ⟨b1, b2⟩ := u_heap2 w (.cells #[.int .i64 m, .slice a n cap] 27) (.cells #[.int .i64 0, .slice none 0 0] 27)
  have HB0 := hid (((Below.refl w.heap.size w).alloc (Nat.le_refl _) (.cells #[.int .i64 m, .slice a n cap] 27)).alloc (by simp) (.cells #[.int .i64 0, .slice none 0 0] 27))
  obtain ⟨W0, hW0⟩ : ∃ W0, (w.alloc (.cells #[.int .i64 m, .slice a n cap] 27)).alloc (.cells #[.int .i64 0, .slice none 0 0] 27) = W0 := ⟨_, rfl⟩
  rw [hW0] at b1 b2 HB0
  obtain ⟨B, hB⟩ : ∃ B, w.heap.size = B := ⟨_, rfl⟩
  rw [hB] at b1 b2
  have HM1 := hid b1
  have HM2 := hid b2
  clear b1 b2
  have hgB : ¬ 0 = B + 1 := by have := lt_of_cell HS.out.cells.1; omega
  have hgC := hgB
  have hgD : ¬ B + 1 = 0 := fun e => hgB e.symm
  (try simp at hgC)
  obtain ⟨⟨f0, f1⟩, ff0, ff1⟩ := u_box2f HM1.out
  unfold erV
  unfold erV
  go_enter Tryz.func68, Tryz.ntmps68
  go_wp2_with fail
  refine (CE.out _ HB0.out).mono ?_
  rintro e w1 ⟨a', c', rfl, ho, hb1⟩
  have HO := hid ho
  have HB1 := hid (bb HB0.out hb1)
  have HZ := hid (u_blk_below HM2.out hb1)
  have HLT := hid (show B + 1 < W0.heap.size from lt_of_heap HM2.out)
  have HSZ := hid hb1.size
  clear ho hb1 CE hW0 f0 f1 ff0 ff1
  have HA := hid ((Below.refl w1.heap.size w1).alloc (Nat.le_refl _) (.cells #[.int .i64 E.1.most, .slice a' E.1.rows.length c'] 27))
  have HN := hid (heap_alloc_new w1 (.cells #[.int .i64 E.1.most, .slice a' E.1.rows.length c'] 27))
  obtain ⟨w2, hw2⟩ : ∃ w2, w1.alloc (.cells #[.int .i64 E.1.most, .slice a' E.1.rows.length c'] 27) = w2 := ⟨_, rfl⟩
  have HW := hid hw2
  rw [hw2] at HA HN
  clear hw2
  have HZ2 := hid (u_blk_below HZ.out HA.out)
  have HB2 := hid (bb HB1.out HA.out)
  go_upto_region 2 with fail
  rw [HW.out]
  clear HW
  obtain ⟨⟨k0, k1⟩, kf0, kf1⟩ := u_box2f HZ2.out
  have e0 := (HS.out.below HB2.out).cells.1
  unfold erV at e0
  go_wp2_with fail
  go_region
  go_wp2_with fail
  refine bodyPost_ret (v := .tuple #[.agg #[.int .i64 0, .slice none 0 0], .iface 102 (.agg #[.int .i64 3, .iface 229 (.pointer (some a0))])]) (by simp [results, Tryz.results68, go_sem, k0, k1]) rfl ⟨rfl, ?_⟩
  refine Below.drew ?_
  iterate 2 refine Below.setCell ?_ (show w.heap.size ≤ B + 1 by omega) _
  exact HB2.out

end Go.Proofs.YtajlgnlifffanaaGreatDoor

namespace Go.Proofs.YtajlgnlifffanaaGreatDoor
open Go.RowKit
set_option linter.unusedVariables false
set_option linter.unusedSimpArgs false

/-- Eight stores into a box, and one more. -/
theorem keep8 (w : World) (p : Nat) (v0 v1 v2 v3 v4 v5 v6 v7 : Value) : u_KeepB (fun b => b = p) w ((((((((w.setCell ⟨p, 0, none⟩ v0).setCell ⟨p, 1, none⟩ v1).setCell ⟨p, 2, none⟩ v2).setCell ⟨p, 3, none⟩ v3).setCell ⟨p, 4, none⟩ v4).setCell ⟨p, 5, none⟩ v5).setCell ⟨p, 6, none⟩ v6).setCell ⟨p, 7, none⟩ v7) :=
  (((((((u_KeepB.of_set (p := fun b => b = p) (g := p) w 0 v0 rfl).trans (u_KeepB.of_set (p := fun b => b = p) (g := p) _ 1 v1 rfl)).trans (u_KeepB.of_set (p := fun b => b = p) (g := p) _ 2 v2 rfl)).trans (u_KeepB.of_set (p := fun b => b = p) (g := p) _ 3 v3 rfl)).trans (u_KeepB.of_set (p := fun b => b = p) (g := p) _ 4 v4 rfl)).trans (u_KeepB.of_set (p := fun b => b = p) (g := p) _ 5 v5 rfl)).trans (u_KeepB.of_set (p := fun b => b = p) (g := p) _ 6 v6 rfl)).trans (u_KeepB.of_set (p := fun b => b = p) (g := p) _ 7 v7 rfl)

theorem box8_set {w : World} {p : Nat} {T : TypeId} {c : Array Value} (h : w.heap[p]? = some (.cells c T (0, 0))) (j : Nat) (v : Value) : (w.setCell ⟨p, j, none⟩ v).heap[p]? = some (.cells (c.setIfInBounds j v) T (0, 0)) := Lib.heap_setCell_same h v

theorem box8_new {w : World} {p : Nat} {T : TypeId} {z0 z1 z2 z3 z4 z5 z6 z7 : Value} (h : w.heap[p]? = some (.cells #[z0, z1, z2, z3, z4, z5, z6, z7] T (0, 0))) (v0 v1 v2 v3 v4 v5 v6 v7 : Value) : ((((((((w.setCell ⟨p, 0, none⟩ v0).setCell ⟨p, 1, none⟩ v1).setCell ⟨p, 2, none⟩ v2).setCell ⟨p, 3, none⟩ v3).setCell ⟨p, 4, none⟩ v4).setCell ⟨p, 5, none⟩ v5).setCell ⟨p, 6, none⟩ v6).setCell ⟨p, 7, none⟩ v7).heap[p]? = some (.cells #[v0, v1, v2, v3, v4, v5, v6, v7] T (0, 0)) := by
  have h0 : (w.setCell ⟨p, 0, none⟩ v0).heap[p]? = some (.cells #[v0, z1, z2, z3, z4, z5, z6, z7] T (0, 0)) := box8_set h 0 v0
  have h1 : ((w.setCell ⟨p, 0, none⟩ v0).setCell ⟨p, 1, none⟩ v1).heap[p]? = some (.cells #[v0, v1, z2, z3, z4, z5, z6, z7] T (0, 0)) := box8_set h0 1 v1
  have h2 : (((w.setCell ⟨p, 0, none⟩ v0).setCell ⟨p, 1, none⟩ v1).setCell ⟨p, 2, none⟩ v2).heap[p]? = some (.cells #[v0, v1, v2, z3, z4, z5, z6, z7] T (0, 0)) := box8_set h1 2 v2
  have h3 : ((((w.setCell ⟨p, 0, none⟩ v0).setCell ⟨p, 1, none⟩ v1).setCell ⟨p, 2, none⟩ v2).setCell ⟨p, 3, none⟩ v3).heap[p]? = some (.cells #[v0, v1, v2, v3, z4, z5, z6, z7] T (0, 0)) := box8_set h2 3 v3
  have h4 : (((((w.setCell ⟨p, 0, none⟩ v0).setCell ⟨p, 1, none⟩ v1).setCell ⟨p, 2, none⟩ v2).setCell ⟨p, 3, none⟩ v3).setCell ⟨p, 4, none⟩ v4).heap[p]? = some (.cells #[v0, v1, v2, v3, v4, z5, z6, z7] T (0, 0)) := box8_set h3 4 v4
  have h5 : ((((((w.setCell ⟨p, 0, none⟩ v0).setCell ⟨p, 1, none⟩ v1).setCell ⟨p, 2, none⟩ v2).setCell ⟨p, 3, none⟩ v3).setCell ⟨p, 4, none⟩ v4).setCell ⟨p, 5, none⟩ v5).heap[p]? = some (.cells #[v0, v1, v2, v3, v4, v5, z6, z7] T (0, 0)) := box8_set h4 5 v5
  have h6 : (((((((w.setCell ⟨p, 0, none⟩ v0).setCell ⟨p, 1, none⟩ v1).setCell ⟨p, 2, none⟩ v2).setCell ⟨p, 3, none⟩ v3).setCell ⟨p, 4, none⟩ v4).setCell ⟨p, 5, none⟩ v5).setCell ⟨p, 6, none⟩ v6).heap[p]? = some (.cells #[v0, v1, v2, v3, v4, v5, v6, z7] T (0, 0)) := box8_set h5 6 v6
  have h7 : ((((((((w.setCell ⟨p, 0, none⟩ v0).setCell ⟨p, 1, none⟩ v1).setCell ⟨p, 2, none⟩ v2).setCell ⟨p, 3, none⟩ v3).setCell ⟨p, 4, none⟩ v4).setCell ⟨p, 5, none⟩ v5).setCell ⟨p, 6, none⟩ v6).setCell ⟨p, 7, none⟩ v7).heap[p]? = some (.cells #[v0, v1, v2, v3, v4, v5, v6, v7] T (0, 0)) := box8_set h6 7 v7
  exact h7

theorem ro_stands {w6 wq wz : World} {K p : Nat} {a : Option Addr} {l : List Ro} (o : OwnRo w6 K a l) (hb : Below w6.heap.size w6 wq) (hk : u_KeepB (fun b => b = p) wq wz) (h : p < K ∨ w6.heap.size ≤ p) : OwnRo wz K a l := by
  rcases h with h | h
  · exact (o.below hb).keep hk (fun b e => by rw [e]; exact h)
  · exact o.below (hb.trans (hk.below hb.size (fun b e => by rw [e]; exact h)))

theorem hd_stands {w6 wq wz : World} {K p : Nat} {a : Option Addr} {l : List Hd} (o : OwnHd w6 K a l) (hb : Below w6.heap.size w6 wq) (hk : u_KeepB (fun b => b = p) wq wz) (h : p < K ∨ w6.heap.size ≤ p) : OwnHd wz K a l := by
  rcases h with h | h
  · exact (o.below hb).keep hk (fun b e => by rw [e]; exact h)
  · exact o.below (hb.trans (hk.below hb.size (fun b e => by rw [e]; exact h)))

end Go.Proofs.YtajlgnlifffanaaGreatDoor

namespace Go.Proofs.YtajlgnlifffanaaGreatDoor
open Go.RowKit
set_option linter.unusedVariables false
set_option linter.unusedSimpArgs false

theorem blk_allocA {w : World} {B : Nat} {o : Obj} (h : w.heap[B]? = some o) (o' : Obj) : (w.alloc o').heap[B]? = some o := (Below.heap_alloc w o' B (lt_of_heap h)).trans h

set_option maxRecDepth 8000 in
set_option maxHeartbeats 16000000 in
theorem cAskNo (g : Gt) (ah : Option Addr) (ch : Nat) (aa : Option Addr) (ca : Nat) (ar : Option Addr) (cr : Nat) (id : ByteArray) (til : Int) (a0 a1 a2 : Addr) (w : World) (hS : SenA a0 a1 a2 w) (hR : GtRow w g ah aa ar) (hz : GtSz 1048576 g) (hg : gateB g = false) :
    Calls Tryz.prog 30 #[gtV g ah ch aa ca ar cr, .string id, .int .i64 til] w fun e w' => e = .returned (.tuple #[.agg #[.string ⟨#[]⟩, .slice none 0 0, .int .i64 0, .int .i64 0, .int .i64 0, .slice none 0 0, .int .i64 0, .slice none 0 0], erV (.wrap 3 (.base a0))]) ∧ Below w.heap.size w w' := by
  have CO := hid (fun wx (h : Below w.heap.size w wx) => cGateOkI g ah ch aa ca ar cr wx (hR.below h) hz)
  have HS := hid hS
  rw [hg] at CO
  unfold gtV at CO
  rw [show gtV g ah ch aa ca ar cr = .agg #[.string g.name, .slice ah g.hands.length ch, .int .i64 g.skew, .int .i64 g.now, .int .i64 g.ask.most, .slice aa g.ask.rows.length ca, .int .i64 g.hrd.most, .slice ar g.hrd.rows.length cr] from rfl]
  clear hR hz hg hS
  generalize g.name = x at *
  generalize g.skew = sk at *
  generalize g.now = nw at *
  generalize g.ask.most = am at *
  generalize g.hrd.most = rm at *
  generalize g.hands.length = nh at *
  generalize g.ask.rows.length = na at *
  generalize g.hrd.rows.length = nr at *
  obtain ⟨b1, b2⟩ := u_heap2 w (.cells #[.string x, .slice ah nh ch, .int .i64 sk, .int .i64 nw, .int .i64 am, .slice aa na ca, .int .i64 rm, .slice ar nr cr] 29) (.cells #[.string ⟨#[]⟩, .slice none 0 0, .int .i64 0, .int .i64 0, .int .i64 0, .slice none 0 0, .int .i64 0, .slice none 0 0] 29)
  have HB0 := hid (((Below.refl w.heap.size w).alloc (Nat.le_refl _) (.cells #[.string x, .slice ah nh ch, .int .i64 sk, .int .i64 nw, .int .i64 am, .slice aa na ca, .int .i64 rm, .slice ar nr cr] 29)).alloc (by simp) (.cells #[.string ⟨#[]⟩, .slice none 0 0, .int .i64 0, .int .i64 0, .int .i64 0, .slice none 0 0, .int .i64 0, .slice none 0 0] 29))
  obtain ⟨W0, hW0⟩ : ∃ W0, (w.alloc (.cells #[.string x, .slice ah nh ch, .int .i64 sk, .int .i64 nw, .int .i64 am, .slice aa na ca, .int .i64 rm, .slice ar nr cr] 29)).alloc (.cells #[.string ⟨#[]⟩, .slice none 0 0, .int .i64 0, .int .i64 0, .int .i64 0, .slice none 0 0, .int .i64 0, .slice none 0 0] 29) = W0 := ⟨_, rfl⟩
  rw [hW0] at b1 b2 HB0
  obtain ⟨B, hB⟩ : ∃ B, w.heap.size = B := ⟨_, rfl⟩
  have HBE := hid hB
  rw [hB] at b1 b2
  have HM1 := hid b1
  have HM2 := hid b2
  clear b1 b2
  have hgB : ¬ 0 = B + 1 := by have := lt_of_cell HS.out.cells.1; omega
  have hgC := hgB
  have hgD : ¬ B + 1 = 0 := fun e => hgB e.symm
  (try simp at hgC)
  obtain ⟨⟨f0, f1, f2, f3, f4, f5, f6, f7⟩, ff⟩ := g_box8f HM1.out
  clear ff

  unfold erV
  unfold erV
  go_enter Tryz.func30, Tryz.ntmps30
  go_wp2_with fail
  refine (CO.out _ HB0.out).mono ?_
  rintro e w1 ⟨rfl, hb1⟩
  have HBf := hid (bb HB0.out hb1)
  have HZ := hid (u_blk_below HM2.out hb1)
  have e0 := (HS.out.below HBf.out).cells.1
  unfold erV at e0
  clear hb1 CO f0 f1 f2 f3 f4 f5 f6 f7 hW0
  obtain ⟨⟨k0, k1, k2, k3, k4, k5, k6, k7⟩, kf⟩ := g_box8f HZ.out
  have kf0 := kf 0
  have kf1 := kf 1
  have kf2 := kf 2
  have kf3 := kf 3
  have kf4 := kf 4
  have kf5 := kf 5
  have kf6 := kf 6
  have kf7 := kf 7
  clear kf

  go_wp2_with fail
  go_region
  go_wp2_with fail
  refine bodyPost_ret (v := .tuple #[.agg #[.string ⟨#[]⟩, .slice none 0 0, .int .i64 0, .int .i64 0, .int .i64 0, .slice none 0 0, .int .i64 0, .slice none 0 0], .iface 102 (.agg #[.int .i64 3, .iface 229 (.pointer (some a0))])]) (by simp [results, Tryz.results30, go_sem, k0, k1, k2, k3, k4, k5, k6, k7]) rfl ⟨rfl, ?_⟩
  refine Below.drew ?_
  iterate 8 refine Below.setCell ?_ (show w.heap.size ≤ B + 1 by omega) _
  exact HBf.out

set_option maxRecDepth 8000 in
set_option maxHeartbeats 16000000 in
theorem cAskErr (g : Gt) (ah : Option Addr) (ch : Nat) (aa : Option Addr) (ca : Nat) (ar : Option Addr) (cr : Nat) (id : ByteArray) (til : Int) (c : Int) (b : Addr) (w : World) (hR : GtRow w g ah aa ar) (hz : GtSz 1048576 g) (hg : gateB g = true)
    (hW : ∀ wx, Below w.heap.size w wx → Calls Tryz.prog 68 #[tbV g.ask aa ca, .string id, .int .i64 til] wx fun e w' => e = .returned (.tuple #[.agg #[.int .i64 0, .slice none 0 0], erV (.wrap c (.base b))]) ∧ Below wx.heap.size wx w') :
    Calls Tryz.prog 30 #[gtV g ah ch aa ca ar cr, .string id, .int .i64 til] w fun e w' => e = .returned (.tuple #[.agg #[.string ⟨#[]⟩, .slice none 0 0, .int .i64 0, .int .i64 0, .int .i64 0, .slice none 0 0, .int .i64 0, .slice none 0 0], erV (.wrap c (.base b))]) ∧ Below w.heap.size w w' := by
  have CO := hid (fun wx (h : Below w.heap.size w wx) => cGateOkI g ah ch aa ca ar cr wx (hR.below h) hz)
  have CW := hid hW
  rw [hg] at CO
  unfold gtV at CO
  unfold tbV at CW
  unfold erV at CW ⊢
  unfold erV
  unfold erV at CW
  rw [show gtV g ah ch aa ca ar cr = .agg #[.string g.name, .slice ah g.hands.length ch, .int .i64 g.skew, .int .i64 g.now, .int .i64 g.ask.most, .slice aa g.ask.rows.length ca, .int .i64 g.hrd.most, .slice ar g.hrd.rows.length cr] from rfl]
  clear hR hz hg hW
  generalize g.name = x at *
  generalize g.skew = sk at *
  generalize g.now = nw at *
  generalize g.ask.most = am at *
  generalize g.hrd.most = rm at *
  generalize g.hands.length = nh at *
  generalize g.ask.rows.length = na at *
  generalize g.hrd.rows.length = nr at *
  obtain ⟨b1, b2⟩ := u_heap2 w (.cells #[.string x, .slice ah nh ch, .int .i64 sk, .int .i64 nw, .int .i64 am, .slice aa na ca, .int .i64 rm, .slice ar nr cr] 29) (.cells #[.string ⟨#[]⟩, .slice none 0 0, .int .i64 0, .int .i64 0, .int .i64 0, .slice none 0 0, .int .i64 0, .slice none 0 0] 29)
  have HB0 := hid (((Below.refl w.heap.size w).alloc (Nat.le_refl _) (.cells #[.string x, .slice ah nh ch, .int .i64 sk, .int .i64 nw, .int .i64 am, .slice aa na ca, .int .i64 rm, .slice ar nr cr] 29)).alloc (by simp) (.cells #[.string ⟨#[]⟩, .slice none 0 0, .int .i64 0, .int .i64 0, .int .i64 0, .slice none 0 0, .int .i64 0, .slice none 0 0] 29))
  obtain ⟨W0, hW0⟩ : ∃ W0, (w.alloc (.cells #[.string x, .slice ah nh ch, .int .i64 sk, .int .i64 nw, .int .i64 am, .slice aa na ca, .int .i64 rm, .slice ar nr cr] 29)).alloc (.cells #[.string ⟨#[]⟩, .slice none 0 0, .int .i64 0, .int .i64 0, .int .i64 0, .slice none 0 0, .int .i64 0, .slice none 0 0] 29) = W0 := ⟨_, rfl⟩
  rw [hW0] at b1 b2 HB0
  obtain ⟨B, hB⟩ : ∃ B, w.heap.size = B := ⟨_, rfl⟩
  have HBE := hid hB
  rw [hB] at b1 b2
  have HM1 := hid b1
  have HM2 := hid b2
  clear b1 b2
  obtain ⟨⟨f0, f1, f2, f3, f4, f5, f6, f7⟩, ff⟩ := g_box8f HM1.out
  clear ff

  go_enter Tryz.func30, Tryz.ntmps30
  go_wp2_with fail
  refine (CO.out _ HB0.out).mono ?_
  rintro e w1 ⟨rfl, hb1⟩
  have HB1 := hid (bb HB0.out hb1)
  have HZ1 := hid (u_blk_below HM2.out hb1)
  have HF1 := hid (u_blk_below HM1.out hb1)
  clear hb1 CO f0 f1 f2 f3 f4 f5 f6 f7 hW0
  obtain ⟨⟨f0, f1, f2, f3, f4, f5, f6, f7⟩, ff⟩ := g_box8f HF1.out
  clear ff

  go_wp2_with fail
  refine (CW.out _ HB1.out).mono ?_
  rintro e w2 ⟨rfl, hb2⟩
  have HB2 := hid ((bb HB1.out hb2).alloc (bb HB1.out hb2).size (.cells #[.int .i64 0, .slice none 0 0] 27))
  have HZ := hid (blk_allocA (u_blk_below HZ1.out hb2) (.cells #[.int .i64 0, .slice none 0 0] 27))
  clear hb2 CW f0 f1 f2 f3 f4 f5 f6 f7
  obtain ⟨⟨k0, k1, k2, k3, k4, k5, k6, k7⟩, kf⟩ := g_box8f HZ.out
  have kf0 := kf 0
  have kf1 := kf 1
  have kf2 := kf 2
  have kf3 := kf 3
  have kf4 := kf 4
  have kf5 := kf 5
  have kf6 := kf 6
  have kf7 := kf 7
  clear kf

  go_wp2_with fail
  refine bodyPost_ret (v := .tuple #[.agg #[.string ⟨#[]⟩, .slice none 0 0, .int .i64 0, .int .i64 0, .int .i64 0, .slice none 0 0, .int .i64 0, .slice none 0 0], .iface 102 (.agg #[.int .i64 c, .iface 229 (.pointer (some b))])]) (by simp [results, Tryz.results30, go_sem, k0, k1, k2, k3, k4, k5, k6, k7]) rfl ⟨rfl, ?_⟩
  iterate 8 refine Below.setCell ?_ (show w.heap.size ≤ B + 1 by omega) _
  exact HB2.out

set_option maxRecDepth 8000 in
set_option maxHeartbeats 16000000 in
theorem cAskIn (g : Gt) (ah : Option Addr) (ch : Nat) (aa : Option Addr) (ca : Nat) (ar : Option Addr) (cr : Nat) (id : ByteArray) (til : Int) (T : Tb) (w : World) (hR : GtRow w g ah aa ar) (hz : GtSz 1048576 g) (hg : gateB g = true)
    (hW : ∀ wx, Below w.heap.size w wx → Calls Tryz.prog 68 #[tbV g.ask aa ca, .string id, .int .i64 til] wx fun e w' => ∃ a' c', e = .returned (.tuple #[tbV T a' c', .nilIface]) ∧ OwnRo w' wx.heap.size a' T.rows ∧ Below wx.heap.size wx w') :
    Calls Tryz.prog 30 #[gtV g ah ch aa ca ar cr, .string id, .int .i64 til] w fun e w' => ∃ ah' ch' aa' ca' ar' cr', e = .returned (.tuple #[gtV (askedG g T) ah' ch' aa' ca' ar' cr', .nilIface]) ∧ GtOwn w' w.heap.size (askedG g T) ah' aa' ar' ∧ Below w.heap.size w w' := by
  have CO := hid (fun wx (h : Below w.heap.size w wx) => cGateOkI g ah ch aa ca ar cr wx (hR.below h) hz)
  have CW := hid hW
  have C1 := hid (fun wx (h : Below w.heap.size w wx) => (cCopiedTable g.hrd ar cr wx (hR.2.2.below h) hz.2.2.2.2.2.1 (gate_rowsA hg).2.2).mono (R' := fun e w' => ∃ a' c', e = .returned (tbV g.hrd a' c') ∧ OwnRo w' wx.heap.size a' g.hrd.rows ∧ Below wx.heap.size wx w') (fun e w' hh => by
    obtain ⟨a', c', h1, h2, h3⟩ := hh
    obtain ⟨a2, c2, e2, o2⟩ := own_ro h2 rfl
    cases e2
    exact ⟨a', c', h1, o2, h3⟩))
  have CG := hid (fun (am' : Int) (aa' : Option Addr) (na' ca' : Nat) (rm' : Int) (ar' : Option Addr) (nr' cr' : Nat) wx (h : Below w.heap.size w wx) => (cGateWith g.name g.hands ah ch g.skew g.now g.ask.most aa g.ask.rows.length ca g.hrd.most ar g.hrd.rows.length cr am' aa' na' ca' rm' ar' nr' cr' wx (hR.1.below h) hz.2.1 (gate_rowsA hg).1 hz.1).mono (R' := fun e w' => ∃ ah' ch', e = .returned (.agg #[.string g.name, .slice ah' g.hands.length ch', .int .i64 g.skew, .int .i64 g.now, .int .i64 am', .slice aa' na' ca', .int .i64 rm', .slice ar' nr' cr']) ∧ OwnHd w' wx.heap.size ah' g.hands ∧ Below wx.heap.size wx w') (fun e w' hh => by
    obtain ⟨a', c', h1, h2, h3⟩ := hh
    obtain ⟨a2, c2, e2, h4⟩ := own_hd h2 rfl
    cases e2
    exact ⟨a', c', h1, h4, h3⟩))
  have HGA := hid (show ∀ a1 c1 a2 c2 a3 c3, gtV (askedG g T) a1 c1 a2 c2 a3 c3 = .agg #[.string g.name, .slice a1 g.hands.length c1, .int .i64 g.skew, .int .i64 g.now, .int .i64 T.most, .slice a2 T.rows.length c2, .int .i64 g.hrd.most, .slice a3 g.hrd.rows.length c3] from fun a1 c1 a2 c2 a3 c3 => rfl)
  have HFIN := hid (fun (w2 w3 w4 w5 wz : World) (K2 K4 K5 Bx R : Nat) (a2 a4 a5 : Option Addr) (o2 : OwnRo w2 K2 a2 T.rows) (b24 : Below w2.heap.size w2 w4) (hK : w2.heap.size ≤ K4) (o4 : OwnRo w4 K4 a4 g.hrd.rows) (b45 : Below w4.heap.size w4 w5) (o5 : OwnHd w5 K5 a5 g.hands) (hk : u_KeepB (fun b => b = R) w5 wz) (r2 : R < K2) (r4 : R < K4) (r5 : R < K5) (q2 : Bx ≤ K2) (q4 : Bx ≤ K4) (q5 : Bx ≤ K5) => (show GtOwn wz Bx (askedG g T) a5 a2 a4 from
    ⟨(hd_stands o5 (Below.refl _ _) hk (.inl r5)).mono q5, (ro_stands o2 (bb b24 b45) hk (.inl r2)).mono q2, (ro_stands o4 b45 hk (.inl r4)).mono q4, apart_of o2 hK o4⟩))
  rw [hg] at CO
  obtain ⟨N, hN⟩ : ∃ N, askedG g T = N := ⟨_, rfl⟩
  rw [hN] at HFIN ⊢
  simp only [hN] at HGA
  clear hN
  unfold gtV at CO
  unfold tbV at CW C1
  rw [show gtV g ah ch aa ca ar cr = .agg #[.string g.name, .slice ah g.hands.length ch, .int .i64 g.skew, .int .i64 g.now, .int .i64 g.ask.most, .slice aa g.ask.rows.length ca, .int .i64 g.hrd.most, .slice ar g.hrd.rows.length cr] from rfl]
  clear hR hz hg hW
  generalize T.most = tm at *
  generalize T.rows = tr at *
  generalize tr.length = tn at *
  generalize g.name = x at *
  generalize g.skew = sk at *
  generalize g.now = nw at *
  generalize g.ask.most = am at *
  generalize g.hrd.most = rm at *
  generalize g.hands.length = nh at *
  generalize g.ask.rows.length = na at *
  generalize g.hrd.rows.length = nr at *
  obtain ⟨b1, b2⟩ := u_heap2 w (.cells #[.string x, .slice ah nh ch, .int .i64 sk, .int .i64 nw, .int .i64 am, .slice aa na ca, .int .i64 rm, .slice ar nr cr] 29) (.cells #[.string ⟨#[]⟩, .slice none 0 0, .int .i64 0, .int .i64 0, .int .i64 0, .slice none 0 0, .int .i64 0, .slice none 0 0] 29)
  have HB0 := hid (((Below.refl w.heap.size w).alloc (Nat.le_refl _) (.cells #[.string x, .slice ah nh ch, .int .i64 sk, .int .i64 nw, .int .i64 am, .slice aa na ca, .int .i64 rm, .slice ar nr cr] 29)).alloc (by simp) (.cells #[.string ⟨#[]⟩, .slice none 0 0, .int .i64 0, .int .i64 0, .int .i64 0, .slice none 0 0, .int .i64 0, .slice none 0 0] 29))
  obtain ⟨W0, hW0⟩ : ∃ W0, (w.alloc (.cells #[.string x, .slice ah nh ch, .int .i64 sk, .int .i64 nw, .int .i64 am, .slice aa na ca, .int .i64 rm, .slice ar nr cr] 29)).alloc (.cells #[.string ⟨#[]⟩, .slice none 0 0, .int .i64 0, .int .i64 0, .int .i64 0, .slice none 0 0, .int .i64 0, .slice none 0 0] 29) = W0 := ⟨_, rfl⟩
  rw [hW0] at b1 b2 HB0
  obtain ⟨B, hB⟩ : ∃ B, w.heap.size = B := ⟨_, rfl⟩
  have HBE := hid hB
  rw [hB] at b1 b2
  have HM1 := hid b1
  have HM2 := hid b2
  clear b1 b2
  obtain ⟨⟨f0, f1, f2, f3, f4, f5, f6, f7⟩, ff⟩ := g_box8f HM1.out
  clear ff

  go_enter Tryz.func30, Tryz.ntmps30
  go_wp2_with fail
  refine (CO.out _ HB0.out).mono ?_
  rintro e w1 ⟨rfl, hb1⟩
  have HB1 := hid (bb HB0.out hb1)
  have HZ1 := hid (u_blk_below HM2.out hb1)
  have HF1 := hid (u_blk_below HM1.out hb1)
  have HLT := hid (show B + 1 < w1.heap.size from lt_of_heap HZ1.out)
  clear hb1 CO f0 f1 f2 f3 f4 f5 f6 f7 hW0
  obtain ⟨⟨f0, f1, f2, f3, f4, f5, f6, f7⟩, ff⟩ := g_box8f HF1.out
  clear ff

  go_wp2_with fail
  refine (CW.out _ HB1.out).mono ?_
  rintro e w2 ⟨h2, e2, rfl, ho2, hb2⟩
  have HO2 := hid ho2
  have HA := hid ((Below.refl w2.heap.size w2).alloc (Nat.le_refl _) (.cells #[.int .i64 tm, .slice h2 tn e2] 27))
  have HMM := hid (heap_alloc_new w2 (.cells #[.int .i64 tm, .slice h2 tn e2] 27))
  obtain ⟨w3, hw3⟩ : ∃ w3, w2.alloc (.cells #[.int .i64 tm, .slice h2 tn e2] 27) = w3 := ⟨_, rfl⟩
  have HW3 := hid hw3
  rw [hw3] at HA HMM
  obtain ⟨M, hM⟩ : ∃ M, w2.heap.size = M := ⟨_, rfl⟩
  have HME := hid hM
  rw [hM] at HMM
  have HMB := hid (show B + 1 < M by have h1 := hb2.size; have h3 := HLT.out; omega)
  have HS12 := hid hb2.size
  have HB3 := hid (bb HB1.out (bb hb2 HA.out))
  have HZ3 := hid (u_blk_below HZ1.out (bb hb2 HA.out))
  have HF3 := hid (u_blk_below HF1.out (bb hb2 HA.out))
  clear ho2 hb2 CW hw3 f0 f1 f2 f3 f4 f5 f6 f7
  go_upto_region 6 with fail
  rw [HW3.out]
  clear HW3 hM
  have HBc := hid (u_KeepB.of_below (fun b => b = B + 1) ((Below.refl w3.heap.size w3).drew))
  have HBb := hid ((Below.refl w3.heap.size w3).drew)
  have HSX := hid (show ∀ w', u_KeepB (fun b => b = B + 1) w3 w' → (w'.cell? ⟨B, 0, none⟩ = some (.string x) ∧ w'.cell? ⟨B, 1, none⟩ = some (.slice ah nh ch) ∧ w'.cell? ⟨B, 2, none⟩ = some (.int .i64 sk) ∧ w'.cell? ⟨B, 3, none⟩ = some (.int .i64 nw) ∧ w'.cell? ⟨B, 4, none⟩ = some (.int .i64 am) ∧ w'.cell? ⟨B, 5, none⟩ = some (.slice aa na ca) ∧ w'.cell? ⟨B, 6, none⟩ = some (.int .i64 rm) ∧ w'.cell? ⟨B, 7, none⟩ = some (.slice ar nr cr) ∧ w'.cell? ⟨M, 0, none⟩ = some (.int .i64 tm) ∧ w'.cell? ⟨M, 1, none⟩ = some (.slice h2 tn e2)) from fun w' hk => by
    obtain ⟨q0, q1, q2, q3, q4, q5, q6, q7⟩ := (g_box8f ((hk.block B (lt_of_heap HF3.out) (fun e => by have e' : B = B + 1 := e; omega)).trans HF3.out)).1
    obtain ⟨⟨p0, p1⟩, _⟩ := u_box2f ((hk.block M (lt_of_heap HMM.out) (fun e => by have e' : M = B + 1 := e; have := HMB.out; omega)).trans HMM.out)
    exact ⟨q0, q1, q2, q3, q4, q5, q6, q7, p0, p1⟩)
  go_region_held3 (fun w' => (w'.cell? ⟨B, 0, none⟩ = some (.string x) ∧ w'.cell? ⟨B, 1, none⟩ = some (.slice ah nh ch) ∧ w'.cell? ⟨B, 2, none⟩ = some (.int .i64 sk) ∧ w'.cell? ⟨B, 3, none⟩ = some (.int .i64 nw) ∧ w'.cell? ⟨B, 4, none⟩ = some (.int .i64 am) ∧ w'.cell? ⟨B, 5, none⟩ = some (.slice aa na ca) ∧ w'.cell? ⟨B, 6, none⟩ = some (.int .i64 rm) ∧ w'.cell? ⟨B, 7, none⟩ = some (.slice ar nr cr) ∧ w'.cell? ⟨M, 0, none⟩ = some (.int .i64 tm) ∧ w'.cell? ⟨M, 1, none⟩ = some (.slice h2 tn e2))) (first | with_reducible exact HSX.out _ HBc.out | with_reducible exact HSX.out _ (HBc.out.trans (keep8 _ _ _ _ _ _ _ _ _ _)))
    (first
      | (go_at_call 69; with_reducible refine (C1.out _ (bb HB3.out HBb.out)).mono ?_; rintro e w4 ⟨h4, e4, rfl, ho4, hb4⟩; have HO4 := hid ho4; have HK4 := hid HBb.out.size; replace HBb := hid (bb HBb.out hb4); replace HBc := hid (u_KeepB.of_below (fun b => b = B + 1) HBb.out); have HX4 := hid (show Below w3.heap.size w3 w4 from HBb.out); clear ho4 hb4)
      | (go_at_call 64; with_reducible refine (CG.out tm h2 tn e2 rm h4 nr e4 _ (bb HB3.out HBb.out)).mono ?_; rintro e w5 ⟨h5, e5, rfl, ho5, hb5⟩; have HO5 := hid ho5; have HK5 := hid HBb.out.size; have HX5 := hid hb5; replace HBb := hid (bb HBb.out hb5); replace HBc := hid (u_KeepB.of_below (fun b => b = B + 1) HBb.out); have HZ5 := hid (u_blk_below HZ3.out HBb.out); obtain ⟨⟨k0, k1, k2, k3, k4, k5, k6, k7⟩, kf⟩ := g_box8f HZ5.out; have kf0 := kf 0; have kf1 := kf 1; have kf2 := kf 2; have kf3 := kf 3; have kf4 := kf 4; have kf5 := kf 5; have kf6 := kf 6; have kf7 := kf 7; clear kf ho5 hb5))
  go_wp2_with fail
  refine bodyPost_ret (v := .tuple #[.agg #[.string x, .slice h5 nh e5, .int .i64 sk, .int .i64 nw, .int .i64 tm, .slice h2 tn e2, .int .i64 rm, .slice h4 nr e4], .nilIface]) (by simp [results, Tryz.results30, go_sem, k0, k1, k2, k3, k4, k5, k6, k7]) rfl ⟨h5, e5, h2, e2, h4, e4, by rw [HGA.out], ?_, ?_⟩
  · have hA := HA.out.size
    have q1 := HS12.out
    have q3 := HLT.out
    have q4 := HK4.out
    have q5 := HK5.out
    exact HFIN.out w2 w3 w4 w5 _ _ _ _ w.heap.size (B + 1) h2 h4 h5 HO2.out (bb HA.out HX4.out) (by omega) HO4.out HX5.out HO5.out (keep8 _ (B + 1) _ _ _ _ _ _ _ _) (by omega) (by omega) (by omega) (by have := HB1.out.size; omega) (by have := HB1.out.size; omega) (by have := HB1.out.size; omega)
  · iterate 8 refine Below.setCell ?_ (show w.heap.size ≤ B + 1 by omega) _
    exact bb HB3.out HBb.out

end Go.Proofs.YtajlgnlifffanaaGreatDoor
