/- The mathematics of a gate that grows later. The specification's l16Sweep at a table that lies within a gate. The specification's l17Tick. -/
import Derived.Test.YtgdfeicojgnoaaaGreatDoorM11
import Derived.Test.YtgdfeicojgnoaaaGreatDoorM19
import Derived.Test.YtgdfeicojgnoaaaGreatDoorM20
import Derived.Test.YtgdfeicojgnoaaaGreatDoorM14
import Derived.Deep.RegionHeld3
namespace Go.Proofs.YtgdfeicojgnoaaaGreatDoor
open Go.RowKit
set_option linter.unusedVariables false
set_option linter.unusedSimpArgs false

/-- A gate at that time: both tables swept. -/
def lateG (g : Gt) (n : Int) : Gt := ⟨g.name, g.hands, g.skew, n, ⟨g.ask.most, sweepR g.ask.rows n⟩, ⟨g.hrd.most, sweepR g.hrd.rows n⟩⟩

/-- What Ticked tells. -/
noncomputable def tickG (g : Gt) (d : Int) : Gt × Bool :=
  if gateB g = true then (if 0 ≤ d ∧ d ≤ 3155759999 then (lateG g (laterOf g.now d), true) else (g, false)) else (zeroG, false)

theorem tickG_bad {g : Gt} {d : Int} (h : gateB g = false) : tickG g d = (zeroG, false) := if_neg (by rw [h]; exact Bool.false_ne_true)
theorem tickG_no {g : Gt} {d : Int} (h : gateB g = true) (hd : ¬ (0 ≤ d ∧ d ≤ 3155759999)) : tickG g d = (g, false) := by
  unfold tickG
  rw [if_pos h, if_neg hd]
theorem tickG_yes {g : Gt} {d : Int} (h : gateB g = true) (hd : 0 ≤ d ∧ d ≤ 3155759999) : tickG g d = (lateG g (laterOf g.now d), true) := by
  unfold tickG
  rw [if_pos h, if_pos hd]

theorem later_in {t d : Int} (ht : 0 ≤ t ∧ t ≤ 3155759999) (hd : 0 ≤ d ∧ d ≤ 3155759999) : 0 ≤ laterOf t d ∧ laterOf t d ≤ 3155759999 := by
  unfold laterOf
  repeat' split
  all_goals omega

theorem later_out {t d : Int} (h0 : 0 ≤ d) (hd : ¬ d ≤ 3155759999) : laterOf t d = -1 := by
  unfold laterOf
  rw [if_neg (by omega)]

theorem gate_p {g : Gt} (h : gateB g = true) : g.hands.length ≤ 4 ∧ (0 ≤ g.now ∧ g.now ≤ 3155759999) ∧ tableB g.ask = true ∧ tableB g.hrd = true := by
  unfold gateB at h
  simp only [Bool.and_eq_true] at h
  obtain ⟨_, h1, _, h3, h4, h5⟩ := h
  refine ⟨(handsB_p h1).1, ?_, h4, h5⟩
  unfold utmB at h3
  simpa using h3

theorem gate_rows {g : Gt} (h : gateB g = true) : g.hands.length ≤ 100000 ∧ g.ask.rows.length ≤ 100000 ∧ g.hrd.rows.length ≤ 100000 := by
  obtain ⟨h1, _, h2, h3⟩ := gate_p h
  exact ⟨Nat.le_trans h1 (by decide), Nat.le_trans (tableB_len h2) (by decide), Nat.le_trans (tableB_len h3) (by decide)⟩

end Go.Proofs.YtgdfeicojgnoaaaGreatDoor

namespace Go.Proofs.YtgdfeicojgnoaaaGreatDoor
open Go.RowKit
set_option linter.unusedVariables false
set_option linter.unusedSimpArgs false

/-- What l16Sweep leaves at a field of a box. -/
def SweepPostG (P k : Nat) (cs : Array Value) (T : TypeId) (l : List Ro) (w : World) (e : Ending) (w' : World) : Prop :=
  ∃ v', e = .returned (.tuple #[]) ∧ w'.heap[P]? = some (.cells (cs.setIfInBounds (k + 1) v') T (0, 0)) ∧ w'.ownsRow w.heap.size 83 2 v' l.length (roC l) ∧ u_KeepB (fun b => b = P) w w'

set_option maxRecDepth 8000 in
set_option maxHeartbeats 8000000 in
theorem cSweepG (P k : Nat) (a : Option Addr) (c : Nat) (cs : Array Value) (T : TypeId) (l : List Ro) (now : Int) (w : World) (hP : w.heap[P]? = some (.cells cs T (0, 0))) (hk : cs[k + 1]? = some (.slice a l.length c))
    (hO : RoRow w a l) (hn : l.length ≤ 100000) (hPB : P < w.heap.size) :
    Calls Tryz.prog 48 #[.pointer (some ⟨P, k, none⟩), .int .i64 now] w (SweepPostG P k cs T (sweepR l now) w) := by
  obtain ⟨i0, hi, hz0, hz1, hz2⟩ := info_parts infoRoW
  have HI := hid (And.intro hi (And.intro hz0 (And.intro hz1 hz2)))
  have HR := hid hO
  have HPL := hid hPB
  clear hi hz0 hz1 hz2 hO hPB
  obtain ⟨n, hnn⟩ : ∃ n, l.length = n := ⟨_, rfl⟩
  have HN := hid hnn
  rw [hnn] at hn hk
  clear hnn
  have HF := hid (show ∀ wx, Below w.heap.size w wx → wx.heap[P]? = some (.cells cs T (0, 0)) ∧ wx.cell? ⟨P, k + 1, none⟩ = some (.slice a n c) ∧ wx.frozen? ⟨P, k + 1, none⟩ = false from fun wx hb => by
    have h := u_blk_below hP hb
    exact ⟨h, by rw [Lib.cell_of_heap h]; exact hk, Lib.frozen_of_heap h _⟩)
  obtain ⟨_, f1, f3⟩ := HF.out w (Below.refl _ _)
  clear hP hk
  have HB0 := hid ((Below.refl w.heap.size w).alloc (Nat.le_refl _) (.cells #[] 83))
  have HO0 := hid (u_own_new w 83 2)
  go_enter Tryz.func48, Tryz.ntmps48
  go_wp2_with fail
  clear f1 f3
  go_loopw [4, 5] (fun v k wr => ∃ i : Nat, k = .int .i64 (i : Int) ∧ i ≤ n ∧ Hid (wr.ownsRow w.heap.size 83 2 v (sweepR (l.take i) now).length (roC (sweepR (l.take i) now))) ∧ Hid (Below w.heap.size w wr)) (fun _ k _ => n - (intOf k).toNat)
  case atStart => exact ⟨0, rfl, Nat.zero_le _, HO0.out, HB0.out⟩
  case round =>
    clear HO0 HB0
    obtain ⟨i, rfl, hin, HO, HB⟩ := hrel
    obtain ⟨HPA0, f1, f3⟩ := HF.out wr HB.out
    have HPA := hid HPA0
    clear HPA0
    by_cases hlt : i < n
    case neg =>
      have hie : i = n := by omega
      subst hie
      have HO2 := HO.out
      rw [List.take_of_length_le (by rw [HN.out]; exact Nat.le_refl _)] at HO2
      have HOA := hid HO2
      clear HO2 HO
      obtain ⟨a5, c5, hv5⟩ := u_own_len HOA.out
      subst hv5
      go_wp2_with fail
      have hne := own_neP HOA.out HPL.out
      go_end0
      refine ⟨_, rfl, ?_, u_own_set HOA.out hne _ _, (u_KeepB.of_below _ HB.out).trans (u_KeepB.of_set _ _ _ rfl)⟩
      exact u_heap_set HPA.out _
    have his : i < l.length := by rw [HN.out]; exact hlt
    have hinn : (i : Int) < (n : Int) := by omega
    have HSL := hid (show (sweepR (l.take i) now).length ≤ 100000 from Nat.le_trans (sweep_len _ _) (by rw [List.length_take]; omega))
    obtain ⟨b, o, hbo, hb, c1, c2⟩ := (HR.out.below HB.out) i his
    cases hbo
    by_cases hc : now < l[i].til
    case neg =>
      have HX := hid (sweep_same his hc)
      have hc' : ¬ now < l[i].til := hc
      generalize l[i].id = x at *
      generalize l[i].til = y at *
      go_wp2_with fail
      go_roundw
      case rel => exact ⟨i + 1, by go_num, by omega, by rw [HX.out]; exact HO.out, HB.out⟩
      case measure => simp [intOf]; omega
    have HX := hid (sweep_more his hc)
    generalize l[i].id = x at *
    generalize l[i].til = y at *
    have hws := HB.out.size
    obtain ⟨sl, hsl⟩ : ∃ sl, (sweepR (l.take i) now).length = sl := ⟨_, rfl⟩
    obtain ⟨sr, hsr⟩ : ∃ sr, sweepR (l.take i) now = sr := ⟨_, rfl⟩
    have HSR := hid hsl
    rw [hsl] at HO HSL
    rw [hsr] at HO HX HSR
    clear hsl hsr
    obtain ⟨a5, c5, hv5⟩ := u_own_len HO.out
    subst hv5
    have HA := hid ((Below.refl wr.heap.size wr).alloc (Nat.le_refl _) (.cells #[.string x, .int .i64 y] 83))
    have HB4 := hid (bb HB.out HA.out)
    have HO3 := hid (ownsRow_below HO.out HA.out)
    have HN3 := hid (u_Rd.new wr 83 2 (roC [⟨x, y⟩]) 1 rfl)
    clear HO HA
    go_wp2_with (at_builtin; refine wpList_append_own_at _ rfl _ _ 25 rfl w.heap.size 83 i0 _ 2 24 Tryz.underlying25 HI.out.1 HI.out.2.1 HI.out.2.2.1 HI.out.2.2.2 rfl (by decide) _ sl (roC sr) rfl HO3.out ⟨wr.heap.size, 0, none⟩ 1 1 (roC [⟨x, y⟩]) rfl rfl (fun j u hj => by obtain ⟨b', o', c', e', _, _, h4⟩ := HN3.out.at_; cases e'; rw [u_add_plainW]; exact h4 j u hj) (roC_one _) (by have := HSL.out; unfold maxLen; omega) (by have := HSL.out; omega) HB4.out.size ?_)
    intro v' w4 ho4 hg4 _ _
    have HO4 := hid ho4
    have HB5 := hid (HB4.out.grown hg4 HB4.out.size (fun k e => (HO3.out.lt k e).1))
    clear ho4 hg4 HN3 HO3
    go_wp2_with fail
    go_roundw
    case rel => exact ⟨i + 1, by go_num, by omega, by rw [HX.out, roC_app, List.length_append, HSR.out]; exact HO4.out, HB5.out⟩
    case measure => simp [intOf]; omega

end Go.Proofs.YtgdfeicojgnoaaaGreatDoor

namespace Go.Proofs.YtgdfeicojgnoaaaGreatDoor
open Go.RowKit
set_option linter.unusedVariables false
set_option linter.unusedSimpArgs false

theorem cTickNo (P : Nat) (d : Int) (w : World) (hd : ¬ (0 ≤ d ∧ d ≤ 3155759999)) :
    Calls Tryz.prog 33 #[.pointer (some ⟨P, 0, none⟩), .int .i64 d] w fun e w' => e = .returned (.bool false) ∧ w' = w := by
  have C := fun wx => cIn d 0 3155759999 wx
  rw [decide_eq_false hd] at C
  go_enter Tryz.func33, Tryz.ntmps33
  go_wp2_with fail
  refine (C _).mono ?_
  rintro e w1 ⟨rfl, rfl⟩
  go_wp2_with fail
  go_ret
  exact ⟨rfl, rfl⟩

/-- The gate's box after the time and its tables have been stored. -/
def gtB (x : ByteArray) (vh : Value) (sk nw am : Int) (va : Value) (rm : Int) (vr : Value) : Obj := .cells #[.string x, vh, .int .i64 sk, .int .i64 nw, .int .i64 am, va, .int .i64 rm, vr] 29 (0, 0)

set_option maxRecDepth 8000 in
set_option maxHeartbeats 8000000 in
theorem cTickYes (P : Nat) (x : ByteArray) (vh : Value) (sk nw am rm : Int) (aa : Option Addr) (ca : Nat) (ar : Option Addr) (cr : Nat) (la lr : List Ro) (d : Int) (wb w : World) (hP : w.heap[P]? = some (gtB x vh sk nw am (.slice aa la.length ca) rm (.slice ar lr.length cr)))
    (hb : Below wb.heap.size wb w) (hPb : wb.heap.size ≤ P) (hA : RoRow wb aa la) (hR : RoRow wb ar lr) (hna : la.length ≤ 100000) (hnr : lr.length ≤ 100000) (hn : 0 ≤ nw ∧ nw ≤ 3155759999) (hd : 0 ≤ d ∧ d ≤ 3155759999) :
    Calls Tryz.prog 33 #[.pointer (some ⟨P, 0, none⟩), .int .i64 d] w fun e w' => ∃ va vr, e = .returned (.bool true) ∧
      w'.heap[P]? = some (gtB x vh sk (laterOf nw d) am va rm vr) ∧ Below wb.heap.size wb w' ∧ u_KeepB (fun b => b = P) w w' ∧ (∃ B1 B2 w1, w.heap.size ≤ B1 ∧ w.heap.size ≤ w1.heap.size ∧ w1.ownsRow B1 83 2 va (sweepR la (laterOf nw d)).length (roC (sweepR la (laterOf nw d))) ∧ u_KeepB (fun b => b = P) w1 w' ∧ w1.heap.size ≤ B2 ∧ P < B1 ∧ w'.ownsRow B2 83 2 vr (sweepR lr (laterOf nw d)).length (roC (sweepR lr (laterOf nw d)))) := by
  have C := fun wx => cIn d 0 3155759999 wx
  rw [decide_eq_true hd] at C
  have CL := hid (fun wx => cL3Later nw d wx hn.1 hn.2 (by omega) hd.2)
  obtain ⟨L, hL⟩ : ∃ L, laterOf nw d = L := ⟨_, rfl⟩
  rw [hL] at CL ⊢
  have HPL := hid (lt_of_heap hP)
  have HB := hid hb
  have HP := hid hP
  have CA := hid (fun wx (hw : Below wb.heap.size wb wx) (hq : wx.heap[P]? = some (gtB x vh sk L am (.slice aa la.length ca) rm (.slice ar lr.length cr))) => (cSweepG P 4 aa ca _ _ la L wx hq rfl (hA.below hw) hna (lt_of_heap hq)).mono (R' := fun e w' => ∃ va, e = .returned (.tuple #[]) ∧ w'.heap[P]? = some (gtB x vh sk L am va rm (.slice ar lr.length cr)) ∧ w'.ownsRow wx.heap.size 83 2 va (sweepR la L).length (roC (sweepR la L)) ∧ u_KeepB (fun b => b = P) wx w' ∧ Below wb.heap.size wb w') (fun e w' h => by
    obtain ⟨v, h1, h2, h3, h4⟩ := h
    exact ⟨v, h1, h2, h3, h4, hw.trans (h4.below hw.size (fun k e => by rw [e]; exact hPb))⟩))
  have CR := hid (fun va wx (hw : Below wb.heap.size wb wx) (hq : wx.heap[P]? = some (gtB x vh sk L am va rm (.slice ar lr.length cr))) => (cSweepG P 6 ar cr _ _ lr L wx hq rfl (hR.below hw) hnr (lt_of_heap hq)).mono (R' := fun e w' => ∃ vr, e = .returned (.tuple #[]) ∧ w'.heap[P]? = some (gtB x vh sk L am va rm vr) ∧ w'.ownsRow wx.heap.size 83 2 vr (sweepR lr L).length (roC (sweepR lr L)) ∧ u_KeepB (fun b => b = P) wx w' ∧ Below wb.heap.size wb w') (fun e w' h => by
    obtain ⟨v, h1, h2, h3, h4⟩ := h
    exact ⟨v, h1, h2, h3, h4, hw.trans (h4.below hw.size (fun k e => by rw [e]; exact hPb))⟩))
  have HPB := hid hPb
  clear hb hPb hA hR hna hnr hn hd hL
  obtain ⟨⟨f0, f1, f2, f3, f4, f5, f6, f7⟩, ff⟩ := g_box8f hP
  have ff3 := ff 3
  clear hP ff
  have HW1 := hid (show (w.setCell ⟨P, 3, none⟩ (.int .i64 L)).heap[P]? = some (gtB x vh sk L am (.slice aa la.length ca) rm (.slice ar lr.length cr)) from u_heap_set HP.out _)
  have HK1 := hid (u_KeepB.of_set (p := fun b => b = P) w (g := P) 3 (.int .i64 L) rfl)
  go_enter Tryz.func33, Tryz.ntmps33
  go_wp2_with fail
  refine (C _).mono ?_
  rintro e w1 ⟨rfl, rfl⟩
  go_wp2_with fail
  refine (CL.out _).mono ?_
  rintro e w2 ⟨rfl, rfl⟩
  go_wp2_with fail
  clear f0 f1 f2 f3 f4 f5 f6 f7 ff3
  have HBP := hid (show Below wb.heap.size wb (w2.setCell ⟨P, 3, none⟩ (.int .i64 L)) from Below.setCell HB.out HPB.out _)
  obtain ⟨W1, hW1⟩ : ∃ W1, w2.setCell ⟨P, 3, none⟩ (.int .i64 L) = W1 := ⟨_, rfl⟩
  rw [hW1] at HW1 HK1 HBP ⊢
  clear hW1
  have HDr := hid ((Below.refl W1.heap.size W1).drew)
  have HLT1 := hid (lt_of_heap HW1.out)
  obtain ⟨⟨f0, f1, f2, f3, f4, f5, f6, f7⟩, _⟩ := g_box8f HW1.out
  go_region_held3 (fun w' => w'.cell? ⟨P, 3, none⟩ = some (.int .i64 L)) (first | exact g3 | exact f3)
    (first
      | (go_at_call 48; refine (CA.out _ (bb HBP.out HDr.out) (u_blk_below HW1.out HDr.out)).mono ?_; rintro e w3 ⟨va, rfl, hP3, ho3, hk3, hb3⟩; obtain ⟨⟨g0, g1, g2, g3, g4, g5, g6, g7⟩, _⟩ := g_box8f hP3))
  clear f0 f1 f2 f3 f4 f5 f6 f7
  have HW3 := hid hP3
  have HO3 := hid ho3
  have HK3 := hid hk3
  have HB3 := hid hb3
  have HS3 := hid (show P < W1.drew.heap.size from HLT1.out)
  clear hP3 ho3 hk3 hb3
  go_wp2_with fail
  have HDq := hid ((Below.refl w3.heap.size w3).drew)
  go_region_held3 (fun w' => w'.cell? ⟨P, 3, none⟩ = some (.int .i64 L)) (first | exact k3 | exact g3)
    (first
      | (go_at_call 48; refine (CR.out va _ (bb HB3.out HDq.out) (u_blk_below HW3.out HDq.out)).mono ?_; rintro e w4 ⟨vr, rfl, hP4, ho4, hk4, hb4⟩; obtain ⟨⟨k0, k1, k2, k3, k4, k5, k6, k7⟩, _⟩ := g_box8f hP4))
  clear g0 g1 g2 g3 g4 g5 g6 g7
  have HW4 := hid hP4
  have HO4 := hid ho4
  have HK4 := hid hk4
  have HB4 := hid hb4
  clear hP4 ho4 hk4 hb4 k0 k1 k2 k3 k4 k5 k6 k7
  go_wp2_with fail
  go_ret
  refine ⟨va, vr, rfl, HW4.out, HB4.out, ?_, _, _, w3, ?_, ?_, HO3.out, ?_, ?_, HS3.out, HO4.out⟩
  · exact ((HK1.out.trans (u_KeepB.of_below _ HDr.out)).trans HK3.out).trans ((u_KeepB.of_below _ HDq.out).trans HK4.out)
  · exact HK1.out.size
  · exact Nat.le_trans HK1.out.size (Nat.le_trans HDr.out.size HK3.out.size)
  · exact (u_KeepB.of_below _ HDq.out).trans HK4.out
  · exact HDq.out.size

end Go.Proofs.YtgdfeicojgnoaaaGreatDoor
