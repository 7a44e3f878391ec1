/- Contracts of the specification's Entered, l16Remove, Removed. Contracts of the specification's l16Remove, Removed. Contracts of the program's copiedTable, Entered, Removed. -/
import Derived.Test.YtgdfeicojgnoaaaGreatDoorM7
import Derived.Test.YtgdfeicojgnoaaaGreatDoorM9
namespace Go.Proofs.YtgdfeicojgnoaaaGreatDoor
open Go.RowKit
set_option linter.unusedVariables false
set_option linter.unusedSimpArgs false

theorem enteredT_f {t : Tb} {id : ByteArray} {til : Int} (h : (tableB t && u_idOk id && utmB til) = false) : enteredT t id til = (zeroT, 3) := if_neg (by rw [h]; exact Bool.false_ne_true)
theorem enteredT_t {t : Tb} {id : ByteArray} {til : Int} (h : (tableB t && u_idOk id && utmB til) = true) : enteredT t id til = enterT t id til := if_pos h

theorem enterT_most (t : Tb) (id : ByteArray) (til : Int) : (enterT t id til).1.most = t.most := by
  unfold enterT
  split
  · rfl
  · split <;> rfl

end Go.Proofs.YtgdfeicojgnoaaaGreatDoor

namespace Go.Proofs.YtgdfeicojgnoaaaGreatDoor
open Go.RowKit
set_option linter.unusedVariables false
set_option linter.unusedSimpArgs false

theorem removeT_no {t : Tb} {id : ByteArray} (h : isR t.rows id = false) : removeT t id = (t, false) := if_neg (by rw [h]; exact Bool.false_ne_true)
theorem removeT_yes {t : Tb} {id : ByteArray} (h : isR t.rows id = true) : removeT t id = (⟨t.most, t.rows.take (findR t.rows id) ++ t.rows.drop (findR t.rows id + 1)⟩, true) := if_pos h

/-- What l16Remove leaves. -/
def RemovePost (P B : Nat) (T : Tb × Bool) (w : World) (e : Ending) (w' : World) : Prop :=
  ∃ g' c', e = .returned (.bool T.2) ∧ w'.heap[P]? = some (.cells #[.int .i64 T.1.most, .slice (some ⟨g', 0, none⟩) T.1.rows.length c'] 27 (0, 0)) ∧ RoOwn w' B g' c' T.1.rows ∧ u_KeepB (fun b => b = P) w w'

theorem removedT_f {t : Tb} {id : ByteArray} (h : tableB t = false) : removedT t id = (zeroT, false) := if_neg (by rw [h]; exact Bool.false_ne_true)
theorem removedT_t {t : Tb} {id : ByteArray} (h : tableB t = true) : removedT t id = removeT t id := if_pos h

theorem removeT_most (t : Tb) (id : ByteArray) : (removeT t id).1.most = t.most := by
  unfold removeT
  split <;> rfl

end Go.Proofs.YtgdfeicojgnoaaaGreatDoor

namespace Go.Proofs.YtgdfeicojgnoaaaGreatDoor
open Go.RowKit
set_option linter.unusedVariables false
set_option linter.unusedSimpArgs false

theorem cCopiedRows2 (a : Option Addr) (cap : Nat) (l : List Ro) (w : World) (hR : RoRow w a l) (hz : RoSz 1048576 l) (hn : l.length ≤ 100000) :
    Calls Tryz.prog 107 #[.slice a l.length cap] w fun e w' => ∃ a' c', e = .returned (.slice a' l.length c') ∧ w'.ownsRow w.heap.size 83 2 (.slice a' l.length c') l.length (roC l) ∧ Below w.heap.size w w' := by
  refine (cCopiedRows a cap l w hR hz hn).mono ?_
  rintro e w' ⟨v, rfl, ho, hb⟩
  obtain ⟨a', c', rfl⟩ := u_own_len ho
  exact ⟨a', c', rfl, ho, hb⟩

theorem u_own_keep {w : World} {B n : Nat} {E : TypeId} {s : Nat} {v : Value} {xs : List Value} (h : w.ownsRow B E s v n xs) {b : Nat} (hb : b < B) (o : Nat) (u : Value) : (w.setCell ⟨b, o, none⟩ u).ownsRow B E s v n xs :=
  u_own_set h (fun e => by have := (h.lt b e).1; omega) o u

set_option maxRecDepth 8000 in
set_option maxHeartbeats 4000000 in
theorem cCopiedTable (t : Tb) (a : Option Addr) (cap : Nat) (w : World) (hR : RoRow w a t.rows) (hz : RoSz 1048576 t.rows) (hn : t.rows.length ≤ 100000) :
    Calls Tryz.prog 69 #[tbV t a cap] w fun e w' => ∃ a' c', e = .returned (tbV t a' c') ∧ w'.ownsRow w.heap.size 83 2 (.slice a' t.rows.length c') t.rows.length (roC t.rows) ∧ Below w.heap.size w w' := by
  obtain ⟨m, l⟩ := t
  simp only at hR hz hn
  simp only [tbV]
  have C := hid (fun wx (h : Below w.heap.size w wx) => cCopiedRows2 a cap l wx (hR.below h) hz hn)
  obtain ⟨n, hnn⟩ : ∃ n, l.length = n := ⟨_, rfl⟩
  rw [hnn] at C ⊢
  obtain ⟨b1, b2⟩ := u_heap2 w (.cells #[.int .i64 m, .slice a n cap] 27) (.cells #[.int .i64 0, .slice none 0 0] 27)
  have HB0 := hid (((Below.refl w.heap.size w).alloc (Nat.le_refl _) (.cells #[.int .i64 m, .slice a n cap] 27)).alloc (by simp) (.cells #[.int .i64 0, .slice none 0 0] 27))
  obtain ⟨W0, hW0⟩ : ∃ W0, ((w.alloc (.cells #[.int .i64 m, .slice a n cap] 27)).alloc (.cells #[.int .i64 0, .slice none 0 0] 27)) = W0 := ⟨_, rfl⟩
  rw [hW0] at b1 b2 HB0
  obtain ⟨B, hB⟩ : ∃ B, w.heap.size = B := ⟨_, rfl⟩
  rw [hB] at b1 b2
  have HM1 := hid b1
  have HM2 := hid b2
  clear b1 b2 hR hz hn hnn
  obtain ⟨⟨f0, f1⟩, f2, f3⟩ := u_box2f HM1.out
  obtain ⟨⟨k0, k1⟩, k2, k3⟩ := u_box2f HM2.out
  go_enter Tryz.func69, Tryz.ntmps69
  go_wp2_with fail
  have HBc := hid ((Below.refl W0.heap.size W0).drew)
  have HBd := hid (bb HB0.out HBc.out)
  go_region_law (first
    | (go_simp; go_at_call 107; refine (C.out _ HBd.out).mono ?_; rintro e w6 ⟨a6, c6, rfl, ho6, hb6⟩; have HO6 := hid ho6; have HB6 := hid (HBc.out.trans hb6); obtain ⟨⟨r0, r1⟩, r2, r3⟩ := u_box2f (u_blk_below HM1.out HB6.out); obtain ⟨⟨s0, s1⟩, s2, s3⟩ := u_box2f (u_blk_below HM2.out HB6.out); clear ho6 hb6))
  all_goals
    have HD := hid ((show B + 1 < W0.drew.heap.size from lt_of_heap HM2.out))
    have HW := hid ((HB0.out.trans (HB6.out.mono HB0.out.size)))
    go_wp2_with fail
    refine bodyPost_ret (v := .agg #[.int .i64 m, .slice a6 n c6]) (by simp [results, Tryz.results69, go_sem, r0, r1, s0, s1]) rfl ⟨a6, c6, rfl, ?_, ?_⟩
    · exact u_own_base (u_own_keep (u_own_keep HO6.out HD.out _ _) HD.out _ _) (by have := HD.out; omega)
    · iterate 2 refine Below.setCell ?_ (show w.heap.size ≤ B + 1 by omega) _
      exact HW.out

/-- Boxes of a table, of the result and of a row, behind which others may come. -/
structure Bx3 (w : World) (B : Nat) (m : Int) (v : Value) (id : ByteArray) (til : Int) : Prop where
  h1 : w.heap[B]? = some (.cells #[.int .i64 m, v] 27 (0, 0))
  h2 : w.heap[B + 1]? = some (.cells #[.int .i64 0, .slice none 0 0] 27 (0, 0))
  h3 : w.heap[B + 2]? = some (.cells #[.string id, .int .i64 til] 83 (0, 0))

theorem Bx3.below {w w' : World} {B : Nat} {m : Int} {v : Value} {id : ByteArray} {til : Int} (h : Bx3 w B m v id til) (hb : Below w.heap.size w w') : Bx3 w' B m v id til :=
  ⟨u_blk_below h.h1 hb, u_blk_below h.h2 hb, u_blk_below h.h3 hb⟩

theorem Bx3.cells {w : World} {B : Nat} {m : Int} {v : Value} {id : ByteArray} {til : Int} (h : Bx3 w B m v id til) :
    w.cell? ⟨B, 0, none⟩ = some (.int .i64 m) ∧ w.cell? ⟨B, 1, none⟩ = some v ∧ w.cell? ⟨B + 1, 0, none⟩ = some (.int .i64 0) ∧ w.cell? ⟨B + 1, 1, none⟩ = some (.slice none 0 0) ∧ w.cell? ⟨B + 2, 0, none⟩ = some (.string id) ∧ w.cell? ⟨B + 2, 1, none⟩ = some (.int .i64 til) ∧ w.frozen? ⟨B + 1, 0, none⟩ = false ∧ w.frozen? ⟨B + 1, 1, none⟩ = false :=
  ⟨(u_box2c h.h1).1, (u_box2c h.h1).2, (u_box2c h.h2).1, (u_box2c h.h2).2, (u_box2c h.h3).1, (u_box2c h.h3).2, Lib.frozen_of_heap h.h2 _, Lib.frozen_of_heap h.h2 _⟩

theorem roB_is {id : ByteArray} {til : Int} : roB ⟨id, til⟩ = (u_idOk id && utmB til) := rfl

set_option maxRecDepth 8000 in
set_option maxHeartbeats 16000000 in
theorem cEnteredI (t : Tb) (a : Option Addr) (cap : Nat) (id : ByteArray) (til : Int) (w : World) (hR : RoRow w a t.rows) (hz : RoSz 1048576 t.rows) (hn : t.rows.length ≤ 1048576) (hi : id.size ≤ 1048576) :
    Calls Tryz.prog 105 #[tbV t a cap, .string id, .int .i64 til] w fun e w' => ∃ a' c', e = .returned (.tuple #[tbV (enteredT t id til).1 a' c', .int .i64 (enteredT t id til).2]) ∧ OwnRo w' w.heap.size a' (enteredT t id til).1.rows ∧ Below w.heap.size w w' := by
  have CO := hid (fun wx (h : Below w.heap.size w wx) => cTableOkI t a cap wx (hR.below h) hz hn)
  have CR := hid (fun wx => cRowOk id til wx hi)
  have CA := hid (fun (h : tableB t = true) wx (hb : Below w.heap.size w wx) => cRowAt a cap t.rows id wx (hR.below hb) (tableB_p h).2.2 hn)
  have CC := hid (fun (h : tableB t = true) wx (hb : Below w.heap.size w wx) => cCopiedTable t a cap wx (hR.below hb) hz (Nat.le_trans (tableB_len h) (by decide)))
  have CL := hid (fun (h : tableB t = true) wx (hb : Below w.heap.size w wx) => cCopiedRows2 a cap t.rows wx (hR.below hb) hz (Nat.le_trans (tableB_len h) (by decide)))
  have CW := hid (fun wx => cCopiedRow id til wx hi)
  have HK := hid (findR_le t.rows id)
  have HLE := hid (fun (h : tableB t = true) => tableB_len h)
  have HB0 := hid ((((Below.refl w.heap.size w).alloc (Nat.le_refl _) (.cells #[.int .i64 t.most, .slice a t.rows.length cap] 27)).alloc (by simp) (.cells #[.int .i64 0, .slice none 0 0] 27)).alloc (by simp; omega) (.cells #[.string id, .int .i64 til] 83))
  obtain ⟨b1, b2, b3⟩ := u_heap3 w (.cells #[.int .i64 t.most, .slice a t.rows.length cap] 27) (.cells #[.int .i64 0, .slice none 0 0] 27) (.cells #[.string id, .int .i64 til] 83)
  have HEF := hid (fun h => enteredT_f (t := t) (id := id) (til := til) h)
  have HET := hid (fun h => enteredT_t (t := t) (id := id) (til := til) h)
  have HE1 := hid (fun h => enterT_there (t := t) (id := id) (til := til) h)
  have HE2 := hid (fun h h2 => enterT_full (t := t) (id := id) (til := til) h h2)
  have HE3 := hid (fun h h2 => enterT_in (t := t) (id := id) (til := til) h h2)
  have HIL := hid (fun (k : Nat) (h : k ≤ t.rows.length) => insR_len t.rows k ⟨id, til⟩ h)
  obtain ⟨R, hRR⟩ : ∃ R, enteredT t id til = R := ⟨_, rfl⟩
  rw [hRR]
  simp only [hRR] at HEF HET
  clear hRR hR hz hn hi
  obtain ⟨k, hk⟩ : ∃ k, findR t.rows id = k := ⟨_, rfl⟩
  rw [hk] at CA HE3 HK
  clear hk
  have HLN := hid (show t.rows.length = t.rows.length from rfl)
  obtain ⟨n, hnn⟩ : ∃ n, t.rows.length = n := ⟨_, rfl⟩
  have HN := hid hnn
  unfold tbV at CO CC ⊢
  rw [hnn] at CO CC CL CA b1 b2 b3 HB0 HE2 HE3 HK HIL HLE ⊢
  obtain ⟨m, hm⟩ : ∃ m, t.most = m := ⟨_, rfl⟩
  have HM := hid hm
  rw [hm] at CO CC b1 b2 b3 HB0 HE2 HE3 ⊢
  clear hnn hm HLN
  obtain ⟨W0, hW0⟩ : ∃ W0, (((w.alloc (.cells #[.int .i64 m, .slice a n cap] 27)).alloc (.cells #[.int .i64 0, .slice none 0 0] 27)).alloc (.cells #[.string id, .int .i64 til] 83)) = W0 := ⟨_, rfl⟩
  rw [hW0] at b1 b2 b3 HB0
  obtain ⟨B, hB⟩ : ∃ B, w.heap.size = B := ⟨_, rfl⟩
  rw [hB] at b1 b2 b3
  have HX := hid (Bx3.mk b1 b2 b3)
  clear b1 b2 b3
  obtain ⟨f0, f1, f2, f3, f4, f5, f6, f7⟩ := HX.out.cells
  cases hT : tableB t with
  | false =>
    have HE := hid (HEF.out (by rw [hT]; rfl))
    rw [hT] at CO
    clear HEF HET CC CR CA CL CW hT HE1 HE2 HE3 HLE
    go_enter Tryz.func105, Tryz.ntmps105
    go_wp2_with fail
    refine (CO.out _ HB0.out).mono ?_
    rintro e w1 ⟨rfl, hb1⟩
    have HB1 := hid (bb HB0.out hb1)
    have HX1 := hid (HX.out.below hb1)
    clear hb1 CO hW0 f0 f1 f2 f3 f4 f5 f6 f7
    obtain ⟨f0, f1, f2, f3, f4, f5, f6, f7⟩ := HX1.out.cells
    go_wp2_with fail
    refine bodyPost_ret (v := .tuple #[.agg #[.int .i64 0, .slice none 0 0], .int .i64 3]) (by simp [results, Tryz.results105, go_sem, f2, f3]) rfl ⟨none, 0, by rw [HE.out]; rfl, by rw [HE.out]; exact OwnRo.nil _ _ _, ?_⟩
    iterate 2 refine Below.setCell ?_ (show w.heap.size ≤ B + 1 by omega) _
    exact HB1.out
  | true =>
    have CA2 := hid (CA.out hT)
    have CC2 := hid (CC.out hT)
    have CL2 := hid (CL.out hT)
    have hn20 : n ≤ 20 := HLE.out hT
    rw [hT] at CO HEF HET
    clear CA CC CL hT HLE
    cases hQ : roB ⟨id, til⟩ with
    | false =>
      have HE := hid (HEF.out (by rw [roB_is] at hQ; rw [Bool.and_assoc, hQ]; rfl))
      rw [hQ] at CR
      clear HEF HET CC2 CA2 CL2 CW hQ HE1 HE2 HE3
      go_enter Tryz.func105, Tryz.ntmps105
      go_wp2_with fail
      refine (CO.out _ HB0.out).mono ?_
      rintro e w1 ⟨rfl, hb1⟩
      have HB1 := hid (bb HB0.out hb1)
      have HX1 := hid (HX.out.below hb1)
      clear hb1 CO hW0 f0 f1 f2 f3 f4 f5 f6 f7
      obtain ⟨f0, f1, f2, f3, f4, f5, f6, f7⟩ := HX1.out.cells
      go_wp2_with fail
      refine (CR.out _).mono ?_
      rintro e w2 ⟨rfl, hb2⟩
      have HB2 := hid (bb HB1.out hb2)
      have HX2 := hid (HX1.out.below hb2)
      clear hb2 CR f0 f1 f2 f3 f4 f5 f6 f7
      obtain ⟨f0, f1, f2, f3, f4, f5, f6, f7⟩ := HX2.out.cells
      go_wp2_with fail
      refine bodyPost_ret (v := .tuple #[.agg #[.int .i64 0, .slice none 0 0], .int .i64 3]) (by simp [results, Tryz.results105, go_sem, f2, f3]) rfl ⟨none, 0, by rw [HE.out]; rfl, by rw [HE.out]; exact OwnRo.nil _ _ _, ?_⟩
      iterate 2 refine Below.setCell ?_ (show w.heap.size ≤ B + 1 by omega) _
      exact HB2.out
    | true =>
      have HE := hid (HET.out (by rw [roB_is] at hQ; rw [Bool.and_assoc, hQ]; rfl))
      rw [hQ] at CR
      clear HEF HET hQ
      cases hI : isR t.rows id with
      | true =>
        have HEE := hid (show R = (t, 1) from HE.out.trans (HE1.out hI))
        rw [hI] at CA2
        clear HE1 HE2 HE3 HE hI CL2 CW
        go_enter Tryz.func105, Tryz.ntmps105
        go_wp2_with fail
        refine (CO.out _ HB0.out).mono ?_
        rintro e w1 ⟨rfl, hb1⟩
        have HB1 := hid (bb HB0.out hb1)
        have HX1 := hid (HX.out.below hb1)
        clear hb1 CO hW0 f0 f1 f2 f3 f4 f5 f6 f7
        obtain ⟨f0, f1, f2, f3, f4, f5, f6, f7⟩ := HX1.out.cells
        go_wp2_with fail
        refine (CR.out _).mono ?_
        rintro e w2 ⟨rfl, hb2⟩
        have HB2 := hid (bb HB1.out hb2)
        have HX2 := hid (HX1.out.below hb2)
        clear hb2 CR f0 f1 f2 f3 f4 f5 f6 f7
        obtain ⟨f0, f1, f2, f3, f4, f5, f6, f7⟩ := HX2.out.cells
        go_wp2_with fail
        refine (CA2.out _ HB2.out).mono ?_
        rintro e w3 ⟨rfl, hb3⟩
        have HB3 := hid (bb HB2.out hb3)
        have HX3 := hid (HX2.out.below hb3)
        clear hb3 CA2 f0 f1 f2 f3 f4 f5 f6 f7
        obtain ⟨f0, f1, f2, f3, f4, f5, f6, f7⟩ := HX3.out.cells
        go_wp2_with fail
        refine (CC2.out _ HB3.out).mono ?_
        rintro e w4 ⟨a4, c4, rfl, ho4, hb4⟩
        have HB4 := hid (bb HB3.out hb4)
        have HX4 := hid (HX3.out.below hb4)
        have HO4 := hid ho4
        have HD := hid (show B + 1 < w3.heap.size from lt_of_heap HX3.out.h2)
        clear hb4 ho4 CC2 f0 f1 f2 f3 f4 f5 f6 f7
        obtain ⟨f0, f1, f2, f3, f4, f5, f6, f7⟩ := HX4.out.cells
        go_wp2_with fail
        refine bodyPost_ret (v := .tuple #[.agg #[.int .i64 m, .slice a4 n c4], .int .i64 1]) (by simp [results, Tryz.results105, go_sem, f2, f3]) rfl ⟨a4, c4, ?_, ?_, ?_⟩
        · rw [HEE.out, HM.out, HN.out]
        · rw [HEE.out]
          obtain ⟨a5, c5, e5, ho5⟩ := own_ro (u_own_keep (u_own_keep HO4.out HD.out 0 (.int .i64 m)) HD.out 1 (.slice a4 n c4)) HN.out
          cases e5
          exact ho5.mono (by have := HB3.out.size; omega)
        · iterate 2 refine Below.setCell ?_ (show w.heap.size ≤ B + 1 by omega) _
          exact HB4.out
      | false =>
        rw [hI] at CA2
        by_cases hq : (n : Int) = m
        · have HEE := hid (show R = (t, 2) from HE.out.trans (HE2.out hI hq))
          have hqb : ((n : Int) == m) = true := by simpa using hq
          clear HE1 HE2 HE3 HE hI CL2 CW hq
          go_enter Tryz.func105, Tryz.ntmps105
          go_wp2_with fail
          refine (CO.out _ HB0.out).mono ?_
          rintro e w1 ⟨rfl, hb1⟩
          have HB1 := hid (bb HB0.out hb1)
          have HX1 := hid (HX.out.below hb1)
          clear hb1 CO hW0 f0 f1 f2 f3 f4 f5 f6 f7
          obtain ⟨f0, f1, f2, f3, f4, f5, f6, f7⟩ := HX1.out.cells
          go_wp2_with fail
          refine (CR.out _).mono ?_
          rintro e w2 ⟨rfl, hb2⟩
          have HB2 := hid (bb HB1.out hb2)
          have HX2 := hid (HX1.out.below hb2)
          clear hb2 CR f0 f1 f2 f3 f4 f5 f6 f7
          obtain ⟨f0, f1, f2, f3, f4, f5, f6, f7⟩ := HX2.out.cells
          go_wp2_with fail
          refine (CA2.out _ HB2.out).mono ?_
          rintro e w3 ⟨rfl, hb3⟩
          have HB3 := hid (bb HB2.out hb3)
          have HX3 := hid (HX2.out.below hb3)
          clear hb3 CA2 f0 f1 f2 f3 f4 f5 f6 f7
          obtain ⟨f0, f1, f2, f3, f4, f5, f6, f7⟩ := HX3.out.cells
          go_wp2_with fail
          refine (CC2.out _ HB3.out).mono ?_
          rintro e w4 ⟨a4, c4, rfl, ho4, hb4⟩
          have HB4 := hid (bb HB3.out hb4)
          have HX4 := hid (HX3.out.below hb4)
          have HO4 := hid ho4
          have HD := hid (show B + 1 < w3.heap.size from lt_of_heap HX3.out.h2)
          clear hb4 ho4 CC2 f0 f1 f2 f3 f4 f5 f6 f7
          obtain ⟨f0, f1, f2, f3, f4, f5, f6, f7⟩ := HX4.out.cells
          go_wp2_with fail
          refine bodyPost_ret (v := .tuple #[.agg #[.int .i64 m, .slice a4 n c4], .int .i64 2]) (by simp [results, Tryz.results105, go_sem, f2, f3]) rfl ⟨a4, c4, ?_, ?_, ?_⟩
          · rw [HEE.out, HM.out, HN.out]
          · rw [HEE.out]
            obtain ⟨a5, c5, e5, ho5⟩ := own_ro (u_own_keep (u_own_keep HO4.out HD.out 0 (.int .i64 m)) HD.out 1 (.slice a4 n c4)) HN.out
            cases e5
            exact ho5.mono (by have := HB3.out.size; omega)
          · iterate 2 refine Below.setCell ?_ (show w.heap.size ≤ B + 1 by omega) _
            exact HB4.out
        · have HEE := hid (show R = (⟨m, insR t.rows k ⟨id, til⟩⟩, 0) from HE.out.trans (HE3.out hI hq))
          have hqb : ((n : Int) == m) = false := by simpa using hq
          clear HE1 HE2 HE3 HE hI CC2 hq
          have hkn : k ≤ n := HK.out
          go_enter Tryz.func105, Tryz.ntmps105
          go_wp2_with fail
          refine (CO.out _ HB0.out).mono ?_
          rintro e w1 ⟨rfl, hb1⟩
          have HB1 := hid (bb HB0.out hb1)
          have HX1 := hid (HX.out.below hb1)
          clear hb1 CO hW0 f0 f1 f2 f3 f4 f5 f6 f7
          obtain ⟨f0, f1, f2, f3, f4, f5, f6, f7⟩ := HX1.out.cells
          go_wp2_with fail
          refine (CR.out _).mono ?_
          rintro e w2 ⟨rfl, hb2⟩
          have HB2 := hid (bb HB1.out hb2)
          have HX2 := hid (HX1.out.below hb2)
          clear hb2 CR f0 f1 f2 f3 f4 f5 f6 f7
          obtain ⟨f0, f1, f2, f3, f4, f5, f6, f7⟩ := HX2.out.cells
          go_wp2_with fail
          refine (CA2.out _ HB2.out).mono ?_
          rintro e w3 ⟨rfl, hb3⟩
          have HB3 := hid (bb HB2.out hb3)
          have HX3 := hid (HX2.out.below hb3)
          clear hb3 CA2 f0 f1 f2 f3 f4 f5 f6 f7 HB0 HB1 HB2 HX HX1 HX2
          obtain ⟨f0, f1, f2, f3, f4, f5, f6, f7⟩ := HX3.out.cells
          go_wp2_with fail
          have HN1 := hid (show (insR t.rows k ⟨id, til⟩).length = n + 1 from HIL.out k hkn)
          have CI := hid (fun (Bb c h : Nat) (a' : Option Addr) (wx : World) (hO : wx.ownsRow Bb 83 2 (.slice a' n c) n (roC t.rows)) (hx : wx.heap[h]? = some (.cells #[.string id, .int .i64 til] 83 (0, 0))) (hB : Bb ≤ wx.heap.size) (hne : ∀ g, a' = some ⟨g, 0, none⟩ → ¬ h = g) => (show Calls Tryz.prog 133 #[.slice a' n c, .int .i64 (k : Int), .slice (some ⟨h, 0, none⟩) 1 1] wx fun e w' => ∃ a8 c8, e = .returned (.slice a8 (n + 1) c8) ∧ w'.ownsRow Bb 83 2 (.slice a8 (n + 1) c8) (n + 1) (roC (insR t.rows k ⟨id, til⟩)) ∧ Below Bb wx w' by
            refine (cInsert Bb c h n k a' t.rows ⟨id, til⟩ wx hO HN.out hx hB hne (by omega) hkn).mono ?_
            rintro e w' ⟨v, rfl, ho, hb⟩
            obtain ⟨a8, c8, rfl⟩ := u_own_len ho
            exact ⟨a8, c8, rfl, ho, hb⟩))
          clear HIL HK HN HM
          have HBc := hid ((Below.refl w3.heap.size w3).drew)
          have HXX := hid (fun W' (h : Below w3.heap.size w3 W') => (HX3.out.below h).cells)
          go_region_law (first
            | (go_simp; go_at_call 107; refine (CL2.out _ (bb HB3.out (by first | exact HBc.out | exact HBc.out.alloc HBc.out.size _))).mono ?_; rintro e w6 ⟨a6, c6, rfl, ho6, hb6⟩; have HO6 := hid ho6; have HBr := hid (show w3.heap.size ≤ _ from by first | exact HBc.out.size | exact (HBc.out.alloc HBc.out.size _).size); have HBs := hid hb6.size; have HB6 := hid (show Below w3.heap.size w3 w6 by first | exact bb HBc.out hb6 | exact bb (HBc.out.alloc HBc.out.size _) hb6); (try have HH := hid ((hb6.block w7.heap.size (by simp)).trans (heap_alloc_new w7 _))); replace HBc := HB6; obtain ⟨r0, r1, r2, r3, r4, r5, r6, r7⟩ := HXX.out _ HB6.out; obtain ⟨s0, s1, s2, s3, s4, s5, s6, s7⟩ := HXX.out _ (HB6.out.alloc HB6.out.size (.cells #[.string id, .int .i64 til] 83)); clear ho6 hb6)
            | (go_simp; go_at_call 100; refine (CW.out _).mono ?_; rintro e w7 ⟨rfl, hb7⟩; have HB7 := hid (bb HBc.out hb7); (try have HO7 := hid (ownsRow_below HO6.out hb7)); (try have HBt := hid (Nat.le_trans HBs.out hb7.size)); replace HBc := HB7; obtain ⟨p0, p1, p2, p3, p4, p5, p6, p7⟩ := HXX.out _ HB7.out; obtain ⟨q0, q1, q2, q3, q4, q5, q6, q7⟩ := HXX.out _ (HB7.out.alloc HB7.out.size (.cells #[.string id, .int .i64 til] 83)); clear hb7)
            | (go_simp; go_at_call 133; first
                | (refine (CI.out _ c6 w7.heap.size a6 _ (HO7.out.alloc _) (heap_alloc_new w7 _) (by rw [World.size_alloc]; exact Nat.le_succ_of_le HBt.out) (fun g e => by have h1 := (HO7.out.lt g (by rw [e]; rfl)).2; omega)).mono ?_; rintro e w8 ⟨a8, c8, rfl, ho8, hb8⟩; have HB8 := hid ((HB7.out.alloc HB7.out.size (.cells #[.string id, .int .i64 til] 83)).trans (hb8.mono HBr.out)))
                | (refine (CI.out _ c6 w6.heap.size a6 _ (HO6.out.alloc _) (heap_alloc_new w6 _) (by rw [World.size_alloc]; exact Nat.le_succ_of_le HBs.out) (fun g e => by have h1 := (HO6.out.lt g (by rw [e]; rfl)).2; omega)).mono ?_; rintro e w8 ⟨a8, c8, rfl, ho8, hb8⟩; have HB8 := hid ((HB6.out.alloc HB6.out.size (.cells #[.string id, .int .i64 til] 83)).trans (hb8.mono HBr.out)))
                | (refine (CI.out _ c6 w7.heap.size a6 _ HO6.out HH.out HBs.out (fun g e => by have h1 := (HO6.out.lt g (by rw [e]; rfl)).1; rw [World.size_alloc] at h1; omega)).mono ?_; rintro e w8 ⟨a8, c8, rfl, ho8, hb8⟩; have HB8 := hid (HB6.out.trans (hb8.mono HBr.out)))
               have HO8 := hid (u_own_base ho8 HBr.out); obtain ⟨t0, t1, t2, t3, t4, t5, t6, t7⟩ := HXX.out _ HB8.out; clear ho8 hb8))
          all_goals
            clear CI CW CL2 HXX HBc
            have HD := hid (show B + 1 < w3.heap.size from lt_of_heap HX3.out.h2)
            have HO9 := hid (fun (u v : Value) => own_ro (u_own_keep (u_own_keep HO8.out HD.out 0 u) HD.out 1 v) HN1.out)
            have HW := hid (bb HB3.out HB8.out)
            have hBw : w.heap.size ≤ w3.heap.size := HB3.out.size
            clear HO8 HB8
            go_wp2_with fail
            refine bodyPost_ret (v := .tuple #[.agg #[.int .i64 m, .slice a8 (n + 1) c8], .int .i64 0]) (by simp [results, Tryz.results105, go_sem, t2, t3]) rfl ⟨a8, c8, ?_, ?_, ?_⟩
            · rw [HEE.out]
              simp only [HN1.out]
            · rw [HEE.out]
              obtain ⟨a5, c5, e5, ho5⟩ := HO9.out (.int .i64 m) (.slice a8 (n + 1) c8)
              cases e5
              exact ho5.mono hBw
            · iterate 2 refine Below.setCell ?_ (show w.heap.size ≤ B + 1 by omega) _
              exact HW.out

end Go.Proofs.YtgdfeicojgnoaaaGreatDoor
