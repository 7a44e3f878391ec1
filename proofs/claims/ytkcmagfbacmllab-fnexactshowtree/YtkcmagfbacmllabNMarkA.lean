/- Marks in a row of attrs: set, and held. -/
import Derived.Test.YtkcmagfbacmllabNMark
namespace Go.Proofs.Ytkcmagfbacmllab
open Go.RowKit
set_option linter.unusedVariables false
set_option linter.unusedSimpArgs false

theorem gr_trans {w w1 w2 : World} {row : Option Nat} (h : w.grownBy w1 row) (k : w1.grownBy w2 row) : w.grownBy w2 row :=
  ⟨k.os.trans h.os, k.tape.trans h.tape, k.output.trans h.output, Nat.le_trans h.size k.size, fun i hi hr => (k.block i (Nat.lt_of_lt_of_le hi h.size) hr).trans (h.block i hi hr)⟩

theorem gr_below {w w1 w2 : World} {row : Option Nat} (h : w.grownBy w1 row) (k : Below w1.heap.size w1 w2) : w.grownBy w2 row :=
  ⟨k.os.trans h.os, k.tape.trans h.tape, k.output.trans h.output, Nat.le_trans h.size k.size, fun i hi hr => (k.block i (Nat.lt_of_lt_of_le hi h.size)).trans (h.block i hi hr)⟩

theorem gr_set {w w1 : World} {b : Nat} (h : w.grownBy w1 (some b)) (j : Nat) (v : Value) : w.grownBy (w1.setCell ⟨b, j, none⟩ v) (some b) := gr_trans h (Lib.grownBy_setCell w1 b j v)

/-- A store into a row of cells. -/
theorem heap_set {w : World} {g i : Nat} {cur : Array Value} {T : TypeId} (h : w.heap[g]? = some (.cells cur T (0, 0))) (v : Value) :
    (w.setCell ⟨g, i, none⟩ v).heap[g]? = some (.cells (cur.setIfInBounds i v) T (0, 0)) := by
  simp [World.setCell, Array.getElem?_modify, h]

theorem cell_there {w : World} {g i : Nat} {cur : Array Value} {T : TypeId} (h : w.heap[g]? = some (.cells cur T (0, 0))) (hi : i < cur.size) : ∃ v, w.cell? ⟨g, i, none⟩ = some v := by
  rw [Lib.cell_of_heap h]
  exact ⟨cur[i], Array.getElem?_eq_getElem hi⟩

/-- The first n attrs from o on bear the marks from k on. -/
def MarksA (cur : Array Value) (o n k : Nat) : Prop := ∀ j, j < n → cur[o + j * 2]? = some (.string (markS (k + 2 * j))) ∧ cur[o + j * 2 + 1]? = some (.string (markS (k + 2 * j + 1)))

theorem cMarkAttr0 (a : Option Addr) (cap k : Nat) (w : World) :
    Calls Try.prog 36 #[.slice a 0 cap, .int .i64 k] w fun e w' => e = .returned (.int .i64 k) ∧ w' = w := by
  go_enter Try.func36, Try.ntmps36
  go_wp2
  go_loop [1, 5] (fun x j => x = .int .i64 (k : Int) ∧ j = .int .i64 0) (fun _ _ => 0)
  case atStart => exact ⟨rfl, rfl⟩
  case round =>
    obtain ⟨rfl, rfl⟩ := hrel
    go_wp2
    go_ret
    exact ⟨rfl, rfl⟩

set_option maxRecDepth 8000 in
set_option maxHeartbeats 2000000 in
theorem cMarkAttrS (g o cap n k : Nat) (cur0 : Array Value) (w : World) (hg : w.heap[g]? = some (.cells cur0 88 (0, 0))) (ho : o + n * 2 ≤ cur0.size) (hk : k + 2 * n ≤ 100000000) :
    Calls Try.prog 36 #[.slice (some ⟨g, o, none⟩) n cap, .int .i64 k] w fun e w' => e = .returned (.int .i64 ((k + 2 * n : Nat) : Int)) ∧ (∃ cur, w'.heap[g]? = some (.cells cur 88 (0, 0)) ∧ cur.size = cur0.size ∧ MarksA cur o n k) ∧ w.grownBy w' (some g) := by
  have HG := hid hg
  clear hg
  go_enter Try.func36, Try.ntmps36
  go_wp2
  go_loopw [1, 5] (fun x y wr => ∃ (i : Nat) (cur : Array Value), x = .int .i64 ((k + 2 * i : Nat) : Int) ∧ y = .int .i64 (i : Int) ∧ i ≤ n ∧ Hid (wr.heap[g]? = some (.cells cur 88 (0, 0))) ∧ cur.size = cur0.size ∧ Hid (MarksA cur o i k) ∧ Hid (w.grownBy wr (some g))) (fun _ y _ => n - (intOf y).toNat)
  case atStart => exact ⟨0, cur0, rfl, rfl, Nat.zero_le _, HG.out, rfl, fun j h => by omega, World.grownBy.refl _ _⟩
  case round =>
    clear HG
    obtain ⟨i, cur, rfl, rfl, hi, HH, hcs, HM, HW⟩ := hrel
    by_cases hlt : i < n
    · have hin : (i : Int) < (n : Int) := by omega
      have C1 := fun w => cMarkText (k + 2 * i) (by omega) w
      have C2 := fun w => cMarkText (k + 2 * i + 1) (by omega) w
      have e1 : ((k + 2 * i : Nat) : Int) + 1 = ((k + 2 * i + 1 : Nat) : Int) := by omega
      have e2 : ((k + 2 * i + 1 : Nat) : Int) + 1 = ((k + 2 * (i + 1) : Nat) : Int) := by omega
      obtain ⟨K, hK⟩ : ∃ K, k + 2 * i = K := ⟨_, rfl⟩
      obtain ⟨X, hX⟩ : ∃ X, markS (k + 2 * i) = X := ⟨_, rfl⟩
      obtain ⟨Y, hY⟩ : ∃ Y, markS (k + 2 * i + 1) = Y := ⟨_, rfl⟩
      have HX := hid hX
      have HY := hid hY
      have HE := hid (show K + 2 = k + 2 * (i + 1) by omega)
      rw [hX] at C1
      rw [hY] at C2
      rw [hK] at C1 C2 ⊢
      have hKb : K ≤ 100000000 := by omega
      clear hX hY hK e1 e2
      go_wp2_with fail
      refine (C1 _).mono ?_
      rintro e w2 ⟨rfl, hb2⟩
      have HW2 := hid (gr_below HW.out hb2)
      have H2 := hid (blk_below HH.out hb2)
      obtain ⟨o1, k1⟩ := cell_there H2.out (i := o + i * 2) (by omega)
      have f1 : w2.frozen? ⟨g, o + i * 2, none⟩ = false := Lib.frozen_of_heap H2.out _
      have H3 := hid (heap_set (i := o + i * 2) H2.out (.string X))
      have HW3 := hid (gr_set HW2.out (o + i * 2) (.string X))
      clear hb2 C1
      obtain ⟨w3, hw3⟩ : ∃ w3, w2.setCell ⟨g, o + i * 2, none⟩ (.string X) = w3 := ⟨_, rfl⟩
      rw [hw3] at H3 HW3
      go_wp2_with fail
      refine (C2 _).mono ?_
      rintro e w4 ⟨rfl, hb4⟩
      have HW4 := hid (gr_below HW3.out hb4)
      have H4 := hid (blk_below H3.out hb4)
      obtain ⟨o2, k2⟩ := cell_there H4.out (i := o + i * 2 + 1) (by simp; omega)
      have f2 : w4.frozen? ⟨g, o + i * 2 + 1, none⟩ = false := Lib.frozen_of_heap H4.out _
      have H5 := hid (heap_set (i := o + i * 2 + 1) H4.out (.string Y))
      have HW5 := hid (gr_set HW4.out (o + i * 2 + 1) (.string Y))
      have HM5 := hid (show MarksA ((cur.setIfInBounds (o + i * 2) (.string X)).setIfInBounds (o + i * 2 + 1) (.string Y)) o (i + 1) k from fun j hj => by
        by_cases e : j = i
        · subst e
          rw [HX.out, HY.out]
          simp [Array.getElem?_setIfInBounds, hcs]
          omega
        · have := HM.out j (by omega)
          simp only [Array.getElem?_setIfInBounds]
          rw [if_neg (by omega), if_neg (by omega), if_neg (by omega), if_neg (by omega)]
          exact this)
      clear hb4 C2 hw3 k1 f1
      go_wp2_with fail
      go_roundw
      case rel => exact ⟨i + 1, _, by rw [← HE.out]; go_num, by go_num, by omega, H5.out, by simp [hcs], HM5.out, HW5.out⟩
      case measure => simp [intOf]; omega
    · have hie : i = n := by omega
      subst hie
      go_wp2_with fail
      go_ret
      exact ⟨rfl, ⟨cur, HH.out, hcs, HM.out⟩, HW.out⟩

end Go.Proofs.Ytkcmagfbacmllab
