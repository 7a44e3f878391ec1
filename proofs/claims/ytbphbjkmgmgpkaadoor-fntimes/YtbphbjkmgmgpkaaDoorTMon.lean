/- Contracts of the months: the months of a year as an array, its days, the days of a month; of the program and of the specification. -/
import Derived.Test.YtbphbjkmgmgpkaaDoorRows
import Derived.Test.YtbphbjkmgmgpkaaDoorTMath
import Derived.Test.YtbphbjkmgmgpkaaDoorTSmall
import Derived.WalkKit
import Derived.Below
import Derived.Laws.Rows
import Derived.Laws.Tables
import Derived.Deep.WholeRow
namespace Go.Proofs.YtbphbjkmgmgpkaaDoor
open Go.RowKit
set_option linter.unusedVariables false
set_option linter.unusedSimpArgs false

def longC : Array Value := #[.int .i64 31, .int .i64 29, .int .i64 31, .int .i64 30, .int .i64 31, .int .i64 30, .int .i64 31, .int .i64 31, .int .i64 30, .int .i64 31, .int .i64 30, .int .i64 31]
def shortC : Array Value := #[.int .i64 31, .int .i64 28, .int .i64 31, .int .i64 30, .int .i64 31, .int .i64 30, .int .i64 31, .int .i64 31, .int .i64 30, .int .i64 31, .int .i64 30, .int .i64 31]

/-- The two listed variables hold the months. -/
def Mon (w : World) : Prop := (∃ t fr, w.heap[0]? = some (.cells longC t fr)) ∧ ∃ t fr, w.heap[1]? = some (.cells shortC t fr)

theorem Mon.below {w w' : World} (h : Mon w) (hb : Below w.heap.size w w') : Mon w' := by
  obtain ⟨⟨t, fr, h0⟩, s, fs, h1⟩ := h
  have lt : ∀ {b : Nat} {o : Obj}, w.heap[b]? = some o → b < w.heap.size := fun {b o} h => by
    rcases Nat.lt_or_ge b w.heap.size with h' | h'
    · exact h'
    · simp [Array.getElem?_eq_none h'] at h
  exact ⟨⟨t, fr, (hb.block 0 (lt h0)).trans h0⟩, s, fs, (hb.block 1 (lt h1)).trans h1⟩

def monC (k : Nat) : Array Value := if k % 4 = 0 then longC else shortC

theorem lt_heap {w : World} {b : Nat} {o : Obj} (h : w.heap[b]? = some o) : b < w.heap.size := by
  rcases Nat.lt_or_ge b w.heap.size with h' | h'
  · exact h'
  · simp [Array.getElem?_eq_none h'] at h

theorem cell_alloc_old (w : World) (o : Obj) (b j : Nat) (hb : b < w.heap.size) : (w.alloc o).cell? ⟨b, j, none⟩ = w.cell? ⟨b, j, none⟩ := by
  have : (w.alloc o).heap[b]? = w.heap[b]? := by
    show (w.heap.push o)[b]? = w.heap[b]?
    rw [Array.getElem?_push, if_neg (by omega)]
  simp [World.cell?, this]

set_option maxHeartbeats 1000000 in
theorem cMonthsOf (k : Nat) (w : World) (hk : k < 1000) (hM : Mon w) :
    Calls Tryd.prog 33 #[.int .i64 (2000 + k : Nat)] w fun e w' => e = .returned (.agg (monC k)) ∧ Below w.heap.size w w' := by
  obtain ⟨⟨t, fr, h0⟩, s, fs, h1⟩ := hM
  by_cases h : k % 4 = 0
  · rw [show monC k = longC from if_pos h]
    have e : ((2000 + (k : Int)) % 4 == 0) = true := by rw [beq_iff_eq]; omega
    have hs0 : 0 < w.heap.size := lt_heap h0
    have c0 : ∀ o : Obj, (w.alloc o).cell? ⟨0, 0, none⟩ = some (.int .i64 31) := fun o => by rw [cell_alloc_old w o _ _ hs0, cell_of_row w 0 0 _ _ _ h0]; rfl
    have c1 : ∀ o : Obj, (w.alloc o).cell? ⟨0, 1, none⟩ = some (.int .i64 29) := fun o => by rw [cell_alloc_old w o _ _ hs0, cell_of_row w 0 1 _ _ _ h0]; rfl
    have c2 : ∀ o : Obj, (w.alloc o).cell? ⟨0, 2, none⟩ = some (.int .i64 31) := fun o => by rw [cell_alloc_old w o _ _ hs0, cell_of_row w 0 2 _ _ _ h0]; rfl
    have c3 : ∀ o : Obj, (w.alloc o).cell? ⟨0, 3, none⟩ = some (.int .i64 30) := fun o => by rw [cell_alloc_old w o _ _ hs0, cell_of_row w 0 3 _ _ _ h0]; rfl
    have c4 : ∀ o : Obj, (w.alloc o).cell? ⟨0, 4, none⟩ = some (.int .i64 31) := fun o => by rw [cell_alloc_old w o _ _ hs0, cell_of_row w 0 4 _ _ _ h0]; rfl
    have c5 : ∀ o : Obj, (w.alloc o).cell? ⟨0, 5, none⟩ = some (.int .i64 30) := fun o => by rw [cell_alloc_old w o _ _ hs0, cell_of_row w 0 5 _ _ _ h0]; rfl
    have c6 : ∀ o : Obj, (w.alloc o).cell? ⟨0, 6, none⟩ = some (.int .i64 31) := fun o => by rw [cell_alloc_old w o _ _ hs0, cell_of_row w 0 6 _ _ _ h0]; rfl
    have c7 : ∀ o : Obj, (w.alloc o).cell? ⟨0, 7, none⟩ = some (.int .i64 31) := fun o => by rw [cell_alloc_old w o _ _ hs0, cell_of_row w 0 7 _ _ _ h0]; rfl
    have c8 : ∀ o : Obj, (w.alloc o).cell? ⟨0, 8, none⟩ = some (.int .i64 30) := fun o => by rw [cell_alloc_old w o _ _ hs0, cell_of_row w 0 8 _ _ _ h0]; rfl
    have c9 : ∀ o : Obj, (w.alloc o).cell? ⟨0, 9, none⟩ = some (.int .i64 31) := fun o => by rw [cell_alloc_old w o _ _ hs0, cell_of_row w 0 9 _ _ _ h0]; rfl
    have c10 : ∀ o : Obj, (w.alloc o).cell? ⟨0, 10, none⟩ = some (.int .i64 30) := fun o => by rw [cell_alloc_old w o _ _ hs0, cell_of_row w 0 10 _ _ _ h0]; rfl
    have c11 : ∀ o : Obj, (w.alloc o).cell? ⟨0, 11, none⟩ = some (.int .i64 31) := fun o => by rw [cell_alloc_old w o _ _ hs0, cell_of_row w 0 11 _ _ _ h0]; rfl
    clear h0 h1
    go_enter Tryd.func33, Tryd.ntmps33
    go_wp2
    refine bodyPost_ret (v := .agg longC) ?_ rfl ⟨rfl, (Below.refl _ _).alloc (Nat.le_refl _) _⟩
    exact results_cell_row Tryd.results33 _ _ w.heap.size 53 longC (0, 0) _ rfl (heap_alloc_last w _) Tryd.underlying53 rfl (by kernel_rfl)
  · rw [show monC k = shortC from if_neg h]
    have e : ((2000 + (k : Int)) % 4 == 0) = false := by rw [beq_eq_false_iff_ne]; omega
    have hs1 : 1 < w.heap.size := lt_heap h1
    have c0 : ∀ o : Obj, (w.alloc o).cell? ⟨1, 0, none⟩ = some (.int .i64 31) := fun o => by rw [cell_alloc_old w o _ _ hs1, cell_of_row w 1 0 _ _ _ h1]; rfl
    have c1 : ∀ o : Obj, (w.alloc o).cell? ⟨1, 1, none⟩ = some (.int .i64 28) := fun o => by rw [cell_alloc_old w o _ _ hs1, cell_of_row w 1 1 _ _ _ h1]; rfl
    have c2 : ∀ o : Obj, (w.alloc o).cell? ⟨1, 2, none⟩ = some (.int .i64 31) := fun o => by rw [cell_alloc_old w o _ _ hs1, cell_of_row w 1 2 _ _ _ h1]; rfl
    have c3 : ∀ o : Obj, (w.alloc o).cell? ⟨1, 3, none⟩ = some (.int .i64 30) := fun o => by rw [cell_alloc_old w o _ _ hs1, cell_of_row w 1 3 _ _ _ h1]; rfl
    have c4 : ∀ o : Obj, (w.alloc o).cell? ⟨1, 4, none⟩ = some (.int .i64 31) := fun o => by rw [cell_alloc_old w o _ _ hs1, cell_of_row w 1 4 _ _ _ h1]; rfl
    have c5 : ∀ o : Obj, (w.alloc o).cell? ⟨1, 5, none⟩ = some (.int .i64 30) := fun o => by rw [cell_alloc_old w o _ _ hs1, cell_of_row w 1 5 _ _ _ h1]; rfl
    have c6 : ∀ o : Obj, (w.alloc o).cell? ⟨1, 6, none⟩ = some (.int .i64 31) := fun o => by rw [cell_alloc_old w o _ _ hs1, cell_of_row w 1 6 _ _ _ h1]; rfl
    have c7 : ∀ o : Obj, (w.alloc o).cell? ⟨1, 7, none⟩ = some (.int .i64 31) := fun o => by rw [cell_alloc_old w o _ _ hs1, cell_of_row w 1 7 _ _ _ h1]; rfl
    have c8 : ∀ o : Obj, (w.alloc o).cell? ⟨1, 8, none⟩ = some (.int .i64 30) := fun o => by rw [cell_alloc_old w o _ _ hs1, cell_of_row w 1 8 _ _ _ h1]; rfl
    have c9 : ∀ o : Obj, (w.alloc o).cell? ⟨1, 9, none⟩ = some (.int .i64 31) := fun o => by rw [cell_alloc_old w o _ _ hs1, cell_of_row w 1 9 _ _ _ h1]; rfl
    have c10 : ∀ o : Obj, (w.alloc o).cell? ⟨1, 10, none⟩ = some (.int .i64 30) := fun o => by rw [cell_alloc_old w o _ _ hs1, cell_of_row w 1 10 _ _ _ h1]; rfl
    have c11 : ∀ o : Obj, (w.alloc o).cell? ⟨1, 11, none⟩ = some (.int .i64 31) := fun o => by rw [cell_alloc_old w o _ _ hs1, cell_of_row w 1 11 _ _ _ h1]; rfl
    clear h0 h1
    go_enter Tryd.func33, Tryd.ntmps33
    go_wp2
    refine bodyPost_ret (v := .agg shortC) ?_ rfl ⟨rfl, (Below.refl _ _).alloc (Nat.le_refl _) _⟩
    exact results_cell_row Tryd.results33 _ _ w.heap.size 53 shortC (0, 0) _ rfl (heap_alloc_last w _) Tryd.underlying53 rfl (by kernel_rfl)

theorem eqLong (W : World) : (Op.equalIn 10000 53 (.agg #[.int .i64 31, .int .i64 29, .int .i64 31, .int .i64 30, .int .i64 31, .int .i64 30, .int .i64 31, .int .i64 31, .int .i64 30, .int .i64 31, .int .i64 30, .int .i64 31]) (.agg #[.int .i64 31, .int .i64 29, .int .i64 31, .int .i64 30, .int .i64 31, .int .i64 30, .int .i64 31, .int .i64 31, .int .i64 30, .int .i64 31, .int .i64 30, .int .i64 31])).run Tryd.prog W = .ok true W := by kernel_rfl
theorem eqShort (W : World) : (Op.equalIn 10000 53 (.agg #[.int .i64 31, .int .i64 28, .int .i64 31, .int .i64 30, .int .i64 31, .int .i64 30, .int .i64 31, .int .i64 31, .int .i64 30, .int .i64 31, .int .i64 30, .int .i64 31]) (.agg #[.int .i64 31, .int .i64 29, .int .i64 31, .int .i64 30, .int .i64 31, .int .i64 30, .int .i64 31, .int .i64 31, .int .i64 30, .int .i64 31, .int .i64 30, .int .i64 31])).run Tryd.prog W = .ok false W := by kernel_rfl

set_option maxHeartbeats 1000000 in
set_option maxRecDepth 20000 in
theorem cDays (k : Nat) (w : World) (hM : Mon w) :
    Calls Tryd.prog 35 #[.agg (monC k)] w fun e w' => e = .returned (.int .i64 (365 + lp k : Nat)) ∧ Below w.heap.size w w' := by
  obtain ⟨⟨t, fr, h0⟩, _⟩ := hM
  have hs : 0 < w.heap.size := lt_heap h0
  have c0 : ∀ o : Obj, (w.alloc o).cell? ⟨0, 0, none⟩ = some (.int .i64 31) := fun o => by rw [cell_alloc_old w o _ _ hs, cell_of_row w 0 0 _ _ _ h0]; rfl
  have c1 : ∀ o : Obj, (w.alloc o).cell? ⟨0, 1, none⟩ = some (.int .i64 29) := fun o => by rw [cell_alloc_old w o _ _ hs, cell_of_row w 0 1 _ _ _ h0]; rfl
  have c2 : ∀ o : Obj, (w.alloc o).cell? ⟨0, 2, none⟩ = some (.int .i64 31) := fun o => by rw [cell_alloc_old w o _ _ hs, cell_of_row w 0 2 _ _ _ h0]; rfl
  have c3 : ∀ o : Obj, (w.alloc o).cell? ⟨0, 3, none⟩ = some (.int .i64 30) := fun o => by rw [cell_alloc_old w o _ _ hs, cell_of_row w 0 3 _ _ _ h0]; rfl
  have c4 : ∀ o : Obj, (w.alloc o).cell? ⟨0, 4, none⟩ = some (.int .i64 31) := fun o => by rw [cell_alloc_old w o _ _ hs, cell_of_row w 0 4 _ _ _ h0]; rfl
  have c5 : ∀ o : Obj, (w.alloc o).cell? ⟨0, 5, none⟩ = some (.int .i64 30) := fun o => by rw [cell_alloc_old w o _ _ hs, cell_of_row w 0 5 _ _ _ h0]; rfl
  have c6 : ∀ o : Obj, (w.alloc o).cell? ⟨0, 6, none⟩ = some (.int .i64 31) := fun o => by rw [cell_alloc_old w o _ _ hs, cell_of_row w 0 6 _ _ _ h0]; rfl
  have c7 : ∀ o : Obj, (w.alloc o).cell? ⟨0, 7, none⟩ = some (.int .i64 31) := fun o => by rw [cell_alloc_old w o _ _ hs, cell_of_row w 0 7 _ _ _ h0]; rfl
  have c8 : ∀ o : Obj, (w.alloc o).cell? ⟨0, 8, none⟩ = some (.int .i64 30) := fun o => by rw [cell_alloc_old w o _ _ hs, cell_of_row w 0 8 _ _ _ h0]; rfl
  have c9 : ∀ o : Obj, (w.alloc o).cell? ⟨0, 9, none⟩ = some (.int .i64 31) := fun o => by rw [cell_alloc_old w o _ _ hs, cell_of_row w 0 9 _ _ _ h0]; rfl
  have c10 : ∀ o : Obj, (w.alloc o).cell? ⟨0, 10, none⟩ = some (.int .i64 30) := fun o => by rw [cell_alloc_old w o _ _ hs, cell_of_row w 0 10 _ _ _ h0]; rfl
  have c11 : ∀ o : Obj, (w.alloc o).cell? ⟨0, 11, none⟩ = some (.int .i64 31) := fun o => by rw [cell_alloc_old w o _ _ hs, cell_of_row w 0 11 _ _ _ h0]; rfl
  clear h0
  by_cases h : k % 4 = 0
  · rw [show monC k = longC from if_pos h, show lp k = 1 from if_pos h]
    unfold longC
    have E := eqLong
    go_enter Tryd.func35, Tryd.ntmps35
    go_wp2
    go_ret
    exact ⟨rfl, (Below.refl _ _).alloc (Nat.le_refl _) _⟩
  · rw [show monC k = shortC from if_neg h, show lp k = 0 from if_neg h]
    unfold shortC
    have E := eqShort
    go_enter Tryd.func35, Tryd.ntmps35
    go_wp2
    go_ret
    exact ⟨rfl, (Below.refl _ _).alloc (Nat.le_refl _) _⟩

end Go.Proofs.YtbphbjkmgmgpkaaDoor
