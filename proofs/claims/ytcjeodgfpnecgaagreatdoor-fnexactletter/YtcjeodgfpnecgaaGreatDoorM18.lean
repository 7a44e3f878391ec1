/- Contracts of the months: the months of a year as an array, its days, the days of a month; of the program and of the specification. Contracts of DaysIn, of the program and of the specification: one answer. Contract of the program's date of a day. -/
import Derived.Test.YtcjeodgfpnecgaaGreatDoorRows
import Derived.Test.YtcjeodgfpnecgaaGreatDoorM17
import Derived.Test.YtcjeodgfpnecgaaGreatDoorM12
import Derived.WalkKit
import Derived.Below
import Derived.Laws.Rows
import Derived.Laws.Tables
import Derived.Deep.WholeRow
namespace Go.Proofs.YtcjeodgfpnecgaaGreatDoor
open Go.RowKit
set_option linter.unusedVariables false
set_option linter.unusedSimpArgs false

def longC : Array Value := #[.int .i64 31, .int .i64 29, .int .i64 31, .int .i64 30, .int .i64 31, .int .i64 30, .int .i64 31, .int .i64 31, .int .i64 30, .int .i64 31, .int .i64 30, .int .i64 31]
def shortC : Array Value := #[.int .i64 31, .int .i64 28, .int .i64 31, .int .i64 30, .int .i64 31, .int .i64 30, .int .i64 31, .int .i64 31, .int .i64 30, .int .i64 31, .int .i64 30, .int .i64 31]

/-- The two listed variables hold the months. -/
def Mon (w : World) : Prop := (∃ t fr, w.heap[0]? = some (.cells longC t fr)) ∧ ∃ t fr, w.heap[1]? = some (.cells shortC t fr)

theorem Mon.below {w w' : World} (h : Mon w) (hb : Below w.heap.size w w') : Mon w' := by
  obtain ⟨⟨t, fr, h0⟩, s, fs, h1⟩ := h
  have lt : ∀ {b : Nat} {o : Obj}, w.heap[b]? = some o → b < w.heap.size := fun {b o} h => by
    rcases Nat.lt_or_ge b w.heap.size with h' | h'
    · exact h'
    · simp [Array.getElem?_eq_none h'] at h
  exact ⟨⟨t, fr, (hb.block 0 (lt h0)).trans h0⟩, s, fs, (hb.block 1 (lt h1)).trans h1⟩

def monC (k : Nat) : Array Value := if k % 4 = 0 then longC else shortC

theorem lt_heap {w : World} {b : Nat} {o : Obj} (h : w.heap[b]? = some o) : b < w.heap.size := by
  rcases Nat.lt_or_ge b w.heap.size with h' | h'
  · exact h'
  · simp [Array.getElem?_eq_none h'] at h

theorem cell_alloc_old (w : World) (o : Obj) (b j : Nat) (hb : b < w.heap.size) : (w.alloc o).cell? ⟨b, j, none⟩ = w.cell? ⟨b, j, none⟩ := by
  have : (w.alloc o).heap[b]? = w.heap[b]? := by
    show (w.heap.push o)[b]? = w.heap[b]?
    rw [Array.getElem?_push, if_neg (by omega)]
  simp [World.cell?, this]

set_option maxHeartbeats 1000000 in
theorem cMonthsOf (k : Nat) (w : World) (hk : k < 1000) (hM : Mon w) :
    Calls Tryz.prog 120 #[.int .i64 (2000 + k : Nat)] w fun e w' => e = .returned (.agg (monC k)) ∧ Below w.heap.size w w' := by
  obtain ⟨⟨t, fr, h0⟩, s, fs, h1⟩ := hM
  by_cases h : k % 4 = 0
  · rw [show monC k = longC from if_pos h]
    have e : ((2000 + (k : Int)) % 4 == 0) = true := by rw [beq_iff_eq]; omega
    have hs0 : 0 < w.heap.size := lt_heap h0
    have c0 : ∀ o : Obj, (w.alloc o).cell? ⟨0, 0, none⟩ = some (.int .i64 31) := fun o => by rw [cell_alloc_old w o _ _ hs0, cell_of_row w 0 0 _ _ _ h0]; rfl
    have c1 : ∀ o : Obj, (w.alloc o).cell? ⟨0, 1, none⟩ = some (.int .i64 29) := fun o => by rw [cell_alloc_old w o _ _ hs0, cell_of_row w 0 1 _ _ _ h0]; rfl
    have c2 : ∀ o : Obj, (w.alloc o).cell? ⟨0, 2, none⟩ = some (.int .i64 31) := fun o => by rw [cell_alloc_old w o _ _ hs0, cell_of_row w 0 2 _ _ _ h0]; rfl
    have c3 : ∀ o : Obj, (w.alloc o).cell? ⟨0, 3, none⟩ = some (.int .i64 30) := fun o => by rw [cell_alloc_old w o _ _ hs0, cell_of_row w 0 3 _ _ _ h0]; rfl
    have c4 : ∀ o : Obj, (w.alloc o).cell? ⟨0, 4, none⟩ = some (.int .i64 31) := fun o => by rw [cell_alloc_old w o _ _ hs0, cell_of_row w 0 4 _ _ _ h0]; rfl
    have c5 : ∀ o : Obj, (w.alloc o).cell? ⟨0, 5, none⟩ = some (.int .i64 30) := fun o => by rw [cell_alloc_old w o _ _ hs0, cell_of_row w 0 5 _ _ _ h0]; rfl
    have c6 : ∀ o : Obj, (w.alloc o).cell? ⟨0, 6, none⟩ = some (.int .i64 31) := fun o => by rw [cell_alloc_old w o _ _ hs0, cell_of_row w 0 6 _ _ _ h0]; rfl
    have c7 : ∀ o : Obj, (w.alloc o).cell? ⟨0, 7, none⟩ = some (.int .i64 31) := fun o => by rw [cell_alloc_old w o _ _ hs0, cell_of_row w 0 7 _ _ _ h0]; rfl
    have c8 : ∀ o : Obj, (w.alloc o).cell? ⟨0, 8, none⟩ = some (.int .i64 30) := fun o => by rw [cell_alloc_old w o _ _ hs0, cell_of_row w 0 8 _ _ _ h0]; rfl
    have c9 : ∀ o : Obj, (w.alloc o).cell? ⟨0, 9, none⟩ = some (.int .i64 31) := fun o => by rw [cell_alloc_old w o _ _ hs0, cell_of_row w 0 9 _ _ _ h0]; rfl
    have c10 : ∀ o : Obj, (w.alloc o).cell? ⟨0, 10, none⟩ = some (.int .i64 30) := fun o => by rw [cell_alloc_old w o _ _ hs0, cell_of_row w 0 10 _ _ _ h0]; rfl
    have c11 : ∀ o : Obj, (w.alloc o).cell? ⟨0, 11, none⟩ = some (.int .i64 31) := fun o => by rw [cell_alloc_old w o _ _ hs0, cell_of_row w 0 11 _ _ _ h0]; rfl
    clear h0 h1
    go_enter Tryz.func120, Tryz.ntmps120
    go_wp2
    refine bodyPost_ret (v := .agg longC) ?_ rfl ⟨rfl, (Below.refl _ _).alloc (Nat.le_refl _) _⟩
    exact results_cell_row Tryz.results120 _ _ w.heap.size 136 longC (0, 0) _ rfl (heap_alloc_last w _) Tryz.underlying136 rfl (by kernel_rfl)
  · rw [show monC k = shortC from if_neg h]
    have e : ((2000 + (k : Int)) % 4 == 0) = false := by rw [beq_eq_false_iff_ne]; omega
    have hs1 : 1 < w.heap.size := lt_heap h1
    have c0 : ∀ o : Obj, (w.alloc o).cell? ⟨1, 0, none⟩ = some (.int .i64 31) := fun o => by rw [cell_alloc_old w o _ _ hs1, cell_of_row w 1 0 _ _ _ h1]; rfl
    have c1 : ∀ o : Obj, (w.alloc o).cell? ⟨1, 1, none⟩ = some (.int .i64 28) := fun o => by rw [cell_alloc_old w o _ _ hs1, cell_of_row w 1 1 _ _ _ h1]; rfl
    have c2 : ∀ o : Obj, (w.alloc o).cell? ⟨1, 2, none⟩ = some (.int .i64 31) := fun o => by rw [cell_alloc_old w o _ _ hs1, cell_of_row w 1 2 _ _ _ h1]; rfl
    have c3 : ∀ o : Obj, (w.alloc o).cell? ⟨1, 3, none⟩ = some (.int .i64 30) := fun o => by rw [cell_alloc_old w o _ _ hs1, cell_of_row w 1 3 _ _ _ h1]; rfl
    have c4 : ∀ o : Obj, (w.alloc o).cell? ⟨1, 4, none⟩ = some (.int .i64 31) := fun o => by rw [cell_alloc_old w o _ _ hs1, cell_of_row w 1 4 _ _ _ h1]; rfl
    have c5 : ∀ o : Obj, (w.alloc o).cell? ⟨1, 5, none⟩ = some (.int .i64 30) := fun o => by rw [cell_alloc_old w o _ _ hs1, cell_of_row w 1 5 _ _ _ h1]; rfl
    have c6 : ∀ o : Obj, (w.alloc o).cell? ⟨1, 6, none⟩ = some (.int .i64 31) := fun o => by rw [cell_alloc_old w o _ _ hs1, cell_of_row w 1 6 _ _ _ h1]; rfl
    have c7 : ∀ o : Obj, (w.alloc o).cell? ⟨1, 7, none⟩ = some (.int .i64 31) := fun o => by rw [cell_alloc_old w o _ _ hs1, cell_of_row w 1 7 _ _ _ h1]; rfl
    have c8 : ∀ o : Obj, (w.alloc o).cell? ⟨1, 8, none⟩ = some (.int .i64 30) := fun o => by rw [cell_alloc_old w o _ _ hs1, cell_of_row w 1 8 _ _ _ h1]; rfl
    have c9 : ∀ o : Obj, (w.alloc o).cell? ⟨1, 9, none⟩ = some (.int .i64 31) := fun o => by rw [cell_alloc_old w o _ _ hs1, cell_of_row w 1 9 _ _ _ h1]; rfl
    have c10 : ∀ o : Obj, (w.alloc o).cell? ⟨1, 10, none⟩ = some (.int .i64 30) := fun o => by rw [cell_alloc_old w o _ _ hs1, cell_of_row w 1 10 _ _ _ h1]; rfl
    have c11 : ∀ o : Obj, (w.alloc o).cell? ⟨1, 11, none⟩ = some (.int .i64 31) := fun o => by rw [cell_alloc_old w o _ _ hs1, cell_of_row w 1 11 _ _ _ h1]; rfl
    clear h0 h1
    go_enter Tryz.func120, Tryz.ntmps120
    go_wp2
    refine bodyPost_ret (v := .agg shortC) ?_ rfl ⟨rfl, (Below.refl _ _).alloc (Nat.le_refl _) _⟩
    exact results_cell_row Tryz.results120 _ _ w.heap.size 136 shortC (0, 0) _ rfl (heap_alloc_last w _) Tryz.underlying136 rfl (by kernel_rfl)

theorem eqLong (W : World) : (Op.equalIn 10000 136 (.agg #[.int .i64 31, .int .i64 29, .int .i64 31, .int .i64 30, .int .i64 31, .int .i64 30, .int .i64 31, .int .i64 31, .int .i64 30, .int .i64 31, .int .i64 30, .int .i64 31]) (.agg #[.int .i64 31, .int .i64 29, .int .i64 31, .int .i64 30, .int .i64 31, .int .i64 30, .int .i64 31, .int .i64 31, .int .i64 30, .int .i64 31, .int .i64 30, .int .i64 31])).run Tryz.prog W = .ok true W := by kernel_rfl
theorem eqShort (W : World) : (Op.equalIn 10000 136 (.agg #[.int .i64 31, .int .i64 28, .int .i64 31, .int .i64 30, .int .i64 31, .int .i64 30, .int .i64 31, .int .i64 31, .int .i64 30, .int .i64 31, .int .i64 30, .int .i64 31]) (.agg #[.int .i64 31, .int .i64 29, .int .i64 31, .int .i64 30, .int .i64 31, .int .i64 30, .int .i64 31, .int .i64 31, .int .i64 30, .int .i64 31, .int .i64 30, .int .i64 31])).run Tryz.prog W = .ok false W := by kernel_rfl

set_option maxHeartbeats 1000000 in
set_option maxRecDepth 20000 in
theorem cDays (k : Nat) (w : World) (hM : Mon w) :
    Calls Tryz.prog 121 #[.agg (monC k)] w fun e w' => e = .returned (.int .i64 (365 + lp k : Nat)) ∧ Below w.heap.size w w' := by
  obtain ⟨⟨t, fr, h0⟩, _⟩ := hM
  have hs : 0 < w.heap.size := lt_heap h0
  have c0 : ∀ o : Obj, (w.alloc o).cell? ⟨0, 0, none⟩ = some (.int .i64 31) := fun o => by rw [cell_alloc_old w o _ _ hs, cell_of_row w 0 0 _ _ _ h0]; rfl
  have c1 : ∀ o : Obj, (w.alloc o).cell? ⟨0, 1, none⟩ = some (.int .i64 29) := fun o => by rw [cell_alloc_old w o _ _ hs, cell_of_row w 0 1 _ _ _ h0]; rfl
  have c2 : ∀ o : Obj, (w.alloc o).cell? ⟨0, 2, none⟩ = some (.int .i64 31) := fun o => by rw [cell_alloc_old w o _ _ hs, cell_of_row w 0 2 _ _ _ h0]; rfl
  have c3 : ∀ o : Obj, (w.alloc o).cell? ⟨0, 3, none⟩ = some (.int .i64 30) := fun o => by rw [cell_alloc_old w o _ _ hs, cell_of_row w 0 3 _ _ _ h0]; rfl
  have c4 : ∀ o : Obj, (w.alloc o).cell? ⟨0, 4, none⟩ = some (.int .i64 31) := fun o => by rw [cell_alloc_old w o _ _ hs, cell_of_row w 0 4 _ _ _ h0]; rfl
  have c5 : ∀ o : Obj, (w.alloc o).cell? ⟨0, 5, none⟩ = some (.int .i64 30) := fun o => by rw [cell_alloc_old w o _ _ hs, cell_of_row w 0 5 _ _ _ h0]; rfl
  have c6 : ∀ o : Obj, (w.alloc o).cell? ⟨0, 6, none⟩ = some (.int .i64 31) := fun o => by rw [cell_alloc_old w o _ _ hs, cell_of_row w 0 6 _ _ _ h0]; rfl
  have c7 : ∀ o : Obj, (w.alloc o).cell? ⟨0, 7, none⟩ = some (.int .i64 31) := fun o => by rw [cell_alloc_old w o _ _ hs, cell_of_row w 0 7 _ _ _ h0]; rfl
  have c8 : ∀ o : Obj, (w.alloc o).cell? ⟨0, 8, none⟩ = some (.int .i64 30) := fun o => by rw [cell_alloc_old w o _ _ hs, cell_of_row w 0 8 _ _ _ h0]; rfl
  have c9 : ∀ o : Obj, (w.alloc o).cell? ⟨0, 9, none⟩ = some (.int .i64 31) := fun o => by rw [cell_alloc_old w o _ _ hs, cell_of_row w 0 9 _ _ _ h0]; rfl
  have c10 : ∀ o : Obj, (w.alloc o).cell? ⟨0, 10, none⟩ = some (.int .i64 30) := fun o => by rw [cell_alloc_old w o _ _ hs, cell_of_row w 0 10 _ _ _ h0]; rfl
  have c11 : ∀ o : Obj, (w.alloc o).cell? ⟨0, 11, none⟩ = some (.int .i64 31) := fun o => by rw [cell_alloc_old w o _ _ hs, cell_of_row w 0 11 _ _ _ h0]; rfl
  clear h0
  by_cases h : k % 4 = 0
  · rw [show monC k = longC from if_pos h, show lp k = 1 from if_pos h]
    unfold longC
    have E := eqLong
    go_enter Tryz.func121, Tryz.ntmps121
    go_wp2
    go_ret
    exact ⟨rfl, (Below.refl _ _).alloc (Nat.le_refl _) _⟩
  · rw [show monC k = shortC from if_neg h, show lp k = 0 from if_neg h]
    unfold shortC
    have E := eqShort
    go_enter Tryz.func121, Tryz.ntmps121
    go_wp2
    go_ret
    exact ⟨rfl, (Below.refl _ _).alloc (Nat.le_refl _) _⟩

end Go.Proofs.YtcjeodgfpnecgaaGreatDoor

namespace Go.Proofs.YtcjeodgfpnecgaaGreatDoor
open Go.RowKit
set_option linter.unusedVariables false
set_option linter.unusedSimpArgs false

def daysIn (y m : Int) : Int := if (2000 ≤ y ∧ y ≤ 2099) ∧ (1 ≤ m ∧ m ≤ 12) then (dm (lp (y.toNat - 2000)) m.toNat : Nat) else 0

theorem daysIn_in (k m : Nat) (hk : k < 100) (h1 : 1 ≤ m) (h2 : m ≤ 12) : daysIn (2000 + k : Nat) m = (dm (lp k) m : Nat) := by
  unfold daysIn
  have e : ((2000 + k : Nat) : Int).toNat - 2000 = k := by omega
  rw [if_pos (by omega), e, Int.toNat_natCast]

theorem mon_index (k m : Nat) (h1 : 1 ≤ m) (h2 : m ≤ 12) (W : World) : (Instr.index 136 (.agg (monC k)) (.int .i64 ((m : Int) - 1))).run Tryz.prog W = .ok (.int .i64 (dm (lp k) m : Nat)) W := by
  by_cases h : k % 4 = 0
  · rw [show monC k = longC from if_pos h, show lp k = 1 from if_pos h]
    rcases month_cases h1 h2 with h | h | h | h | h | h | h | h | h | h | h | h <;> subst h <;> kernel_rfl
  · rw [show monC k = shortC from if_neg h, show lp k = 0 from if_neg h]
    rcases month_cases h1 h2 with h | h | h | h | h | h | h | h | h | h | h | h <;> subst h <;> kernel_rfl

theorem cDaysI_in (k m : Nat) (w : World) (hk : k < 100) (h1 : 1 ≤ m) (h2 : m ≤ 12) (hM : Mon w) :
    Calls Tryz.prog 122 #[.int .i64 (2000 + k : Nat), .int .i64 m] w fun e w' => e = .returned (.int .i64 (dm (lp k) m : Nat)) ∧ Below w.heap.size w w' := by
  have E := mon_index k m h1 h2
  have C := cMonthsOf k w (by omega) hM
  have a1 : decide (((2000 + k : Nat) : Int) < 2000) = false := by simp; omega
  have a2 : decide ((2099 : Int) < ((2000 + k : Nat) : Int)) = false := by simp; omega
  have a3 : decide ((m : Int) < 1) = false := by simp; omega
  have a4 : decide ((12 : Int) < (m : Int)) = false := by simp; omega
  have hw : IntKind.i64.wrap ((m : Int) - 1) = (m : Int) - 1 := IntWalk.i64_in _ (by omega)
  obtain ⟨y, hy⟩ : ∃ y : Int, ((2000 + k : Nat) : Int) = y := ⟨_, rfl⟩
  obtain ⟨r, hr⟩ : ∃ r : Int, ((dm (lp k) m : Nat) : Int) = r := ⟨_, rfl⟩
  obtain ⟨A, hA⟩ : ∃ A : Array Value, monC k = A := ⟨_, rfl⟩
  rw [hy] at C a1 a2 ⊢
  rw [hr] at E ⊢
  rw [hA] at E C
  clear hy hr hA hM
  go_enter Tryz.func122, Tryz.ntmps122
  go_wp2_with fail
  refine C.mono ?_
  rintro e w' ⟨rfl, hb⟩
  go_wp2_with fail
  go_ret
  exact ⟨rfl, hb⟩

theorem cDaysI_out (y m : Int) (w : World) (h : ¬ ((2000 ≤ y ∧ y ≤ 2099) ∧ (1 ≤ m ∧ m ≤ 12))) :
    Calls Tryz.prog 122 #[.int .i64 y, .int .i64 m] w fun e w' => e = .returned (.int .i64 0) ∧ Below w.heap.size w w' := by
  by_cases h1 : y < 2000
  · clear h
    go_enter Tryz.func122, Tryz.ntmps122
    go_wp2_with fail
    go_ret
    exact ⟨rfl, Below.refl _ _⟩
  · by_cases h2 : 2099 < y
    · clear h
      go_enter Tryz.func122, Tryz.ntmps122
      go_wp2_with fail
      go_ret
      exact ⟨rfl, Below.refl _ _⟩
    · by_cases h3 : m < 1
      · clear h
        go_enter Tryz.func122, Tryz.ntmps122
        go_wp2_with fail
        go_ret
        exact ⟨rfl, Below.refl _ _⟩
      · have h4 : 12 < m := by omega
        clear h
        go_enter Tryz.func122, Tryz.ntmps122
        go_wp2_with fail
        go_ret
        exact ⟨rfl, Below.refl _ _⟩

theorem cDaysI (y m : Int) (w : World) (hM : Mon w) :
    Calls Tryz.prog 122 #[.int .i64 y, .int .i64 m] w fun e w' => e = .returned (.int .i64 (daysIn y m)) ∧ Below w.heap.size w w' := by
  by_cases h : (2000 ≤ y ∧ y ≤ 2099) ∧ (1 ≤ m ∧ m ≤ 12)
  · obtain ⟨k, rfl⟩ : ∃ k : Nat, y = (2000 + k : Nat) := ⟨y.toNat - 2000, by omega⟩
    obtain ⟨n, rfl⟩ : ∃ n : Nat, m = n := ⟨m.toNat, by omega⟩
    rw [daysIn_in k n (by omega) (by omega) (by omega)]
    exact cDaysI_in k n w (by omega) (by omega) (by omega) hM
  · rw [show daysIn y m = 0 from if_neg h]
    exact cDaysI_out y m w h

theorem cDaysS_out (y m : Int) (w : World) (h : ¬ ((2000 ≤ y ∧ y ≤ 2099) ∧ (1 ≤ m ∧ m ≤ 12))) :
    Calls Tryz.prog 85 #[.int .i64 y, .int .i64 m] w fun e w' => e = .returned (.int .i64 0) ∧ Below w.heap.size w w' := by
  have C := fun w => cIn y 2000 2099 w
  have D := fun w => cIn m 1 12 w
  by_cases h1 : 2000 ≤ y ∧ y ≤ 2099
  · rw [decide_eq_true h1] at C
    rw [decide_eq_false (fun x => h ⟨h1, x⟩)] at D
    clear h
    go_enter Tryz.func85, Tryz.ntmps85
    go_wp2_with fail
    refine (C _).mono ?_
    rintro e w' ⟨rfl, rfl⟩
    go_wp2_with fail
    refine (D _).mono ?_
    rintro e w' ⟨rfl, rfl⟩
    go_wp2_with fail
    go_ret
    exact ⟨rfl, Below.refl _ _⟩
  · rw [decide_eq_false h1] at C
    clear h
    go_enter Tryz.func85, Tryz.ntmps85
    go_wp2_with fail
    refine (C _).mono ?_
    rintro e w' ⟨rfl, rfl⟩
    go_wp2_with fail
    go_ret
    exact ⟨rfl, Below.refl _ _⟩

set_option maxHeartbeats 1000000 in
theorem cDaysS_in (k m : Nat) (w : World) (hk : k < 100) (h1 : 1 ≤ m) (h2 : m ≤ 12) :
    Calls Tryz.prog 85 #[.int .i64 (2000 + k : Nat), .int .i64 m] w fun e w' => e = .returned (.int .i64 (dm (lp k) m : Nat)) ∧ Below w.heap.size w w' := by
  have C := fun w => cIn (2000 + k : Nat) 2000 2099 w
  rw [decide_eq_true (show (2000 : Int) ≤ (2000 + k : Nat) ∧ ((2000 + k : Nat) : Int) ≤ 2099 by omega)] at C
  have D := fun w => cIn m 1 12 w
  rw [decide_eq_true (show (1 : Int) ≤ m ∧ (m : Int) ≤ 12 by omega)] at D
  have e4 : ((((2000 + k : Nat) : Int).tmod 4) == 0) = (lp k == 1) := by
    rw [Int.tmod_eq_emod_of_nonneg (by omega)]
    unfold lp
    split
    · simp; omega
    · simp; omega
  obtain ⟨l, hl⟩ : ∃ l : Nat, lp k = l := ⟨_, rfl⟩
  have hl01 : l = 0 ∨ l = 1 := by rw [← hl]; unfold lp; split <;> simp
  rw [hl] at e4 ⊢
  obtain ⟨y, hy⟩ : ∃ y : Int, ((2000 + k : Nat) : Int) = y := ⟨_, rfl⟩
  rw [hy] at C e4 ⊢
  clear hy hl
  by_cases hm : m = 2
  · subst hm
    rcases hl01 with rfl | rfl
    · have e5 : (y.tmod 4 == 0) = false := e4
      clear e4
      go_enter Tryz.func85, Tryz.ntmps85
      go_wp2_with fail
      refine (C _).mono ?_
      rintro e w' ⟨rfl, rfl⟩
      go_wp2_with fail
      refine (D _).mono ?_
      rintro e w' ⟨rfl, rfl⟩
      go_wp2_with fail
      go_ret
      exact ⟨rfl, (Below.refl _ _).alloc (Nat.le_refl _) _⟩
    · have e5 : (y.tmod 4 == 0) = true := e4
      clear e4
      go_enter Tryz.func85, Tryz.ntmps85
      go_wp2_with fail
      refine (C _).mono ?_
      rintro e w' ⟨rfl, rfl⟩
      go_wp2_with fail
      refine (D _).mono ?_
      rintro e w' ⟨rfl, rfl⟩
      go_wp2_with fail
      go_ret
      exact ⟨rfl, (Below.refl _ _).alloc (Nat.le_refl _) _⟩
  · clear e4 hl01
    rcases month_cases h1 h2 with h | h | h | h | h | h | h | h | h | h | h | h
    · subst h
      go_enter Tryz.func85, Tryz.ntmps85
      go_wp2_with fail
      refine (C _).mono ?_
      rintro e w' ⟨rfl, rfl⟩
      go_wp2_with fail
      refine (D _).mono ?_
      rintro e w' ⟨rfl, rfl⟩
      go_wp2_with fail
      go_ret
      exact ⟨rfl, (Below.refl _ _).alloc (Nat.le_refl _) _⟩
    · exact absurd h hm
    all_goals
      clear hm
      subst h
      go_enter Tryz.func85, Tryz.ntmps85
      go_wp2_with fail
      refine (C _).mono ?_
      rintro e w' ⟨rfl, rfl⟩
      go_wp2_with fail
      refine (D _).mono ?_
      rintro e w' ⟨rfl, rfl⟩
      go_wp2_with fail
      go_ret
      exact ⟨rfl, (Below.refl _ _).alloc (Nat.le_refl _) _⟩

theorem cDaysS (y m : Int) (w : World) :
    Calls Tryz.prog 85 #[.int .i64 y, .int .i64 m] w fun e w' => e = .returned (.int .i64 (daysIn y m)) ∧ Below w.heap.size w w' := by
  by_cases h : (2000 ≤ y ∧ y ≤ 2099) ∧ (1 ≤ m ∧ m ≤ 12)
  · obtain ⟨k, rfl⟩ : ∃ k : Nat, y = (2000 + k : Nat) := ⟨y.toNat - 2000, by omega⟩
    obtain ⟨n, rfl⟩ : ∃ n : Nat, m = n := ⟨m.toNat, by omega⟩
    rw [daysIn_in k n (by omega) (by omega) (by omega)]
    exact cDaysS_in k n w (by omega) (by omega) (by omega)
  · rw [show daysIn y m = 0 from if_neg h]
    exact cDaysS_out y m w h

end Go.Proofs.YtcjeodgfpnecgaaGreatDoor

namespace Go.Proofs.YtcjeodgfpnecgaaGreatDoor
open Go.RowKit
set_option linter.unusedVariables false
set_option linter.unusedSimpArgs false

theorem mb_lt_13 (l m : Nat) (h1 : 1 ≤ m) (h2 : m ≤ 12) : mb l m + dm l m ≤ 365 + l := by
  rw [← mb_succ l m h1 h2]
  rcases Nat.lt_or_ge m 12 with hm | hm
  · have := mb_le l (m + 1) (by omega) (by omega) (13 - (m + 1)) (by omega)
    rw [show m + 1 + (13 - (m + 1)) = 13 by omega, mb_13] at this
    exact this
  · have : m = 12 := by omega
    subst this
    exact Nat.le_of_eq (mb_13 l)

theorem month_lt {l m r R : Nat} (h1 : 1 ≤ m) (h2 : m ≤ 12) (he : r + mb l m = R) (hR : R < 365 + l) (hd : dm l m ≤ r) : m < 12 := by
  rcases Nat.lt_or_ge m 12 with hm | hm
  · exact hm
  · have : m = 12 := by omega
    subst this
    simp only [mb, dm] at he hd
    omega

set_option maxHeartbeats 4000000 in
theorem cDateOf (d : Nat) (w : World) (hd : d < 36525) (hM : Mon w) :
    Calls Tryz.prog 112 #[.int .i64 d] w fun e w' => ∃ k m dd : Nat, e = .returned (.tuple #[.int .i64 (2000 + k : Nat), .int .i64 m, .int .i64 dd]) ∧ IsDate d k m dd ∧ Below w.heap.size w w' := by
  have HM : Hid (Mon w) := hM
  clear hM
  go_enter Tryz.func112, Tryz.ntmps112
  go_wp2
  go_loopw [0, 5] (fun day year wr => ∃ r k : Nat, day = .int .i64 (r : Int) ∧ year = .int .i64 ((2000 + k : Nat) : Int) ∧ r + yb k = d ∧ Below w.heap.size w wr) (fun day _ _ => (intOf day).toNat)
  case atStart => exact ⟨d, 0, rfl, rfl, by simp [yb], Below.refl _ _⟩
  case round =>
    obtain ⟨r, k, rfl, rfl, hr, hB⟩ := hrel
    have hk : k < 100 := yb_lt_inv (by omega)
    have hMr : Mon wr := HM.out.below hB
    have A1 := cMonthsOf k wr (by omega) hMr
    have A2 := fun wx hb => cDays k wx (hMr.below hb)
    have HR : Hid (r + yb k = d) := hr
    have HB : Hid (Below w.heap.size w wr) := hB
    have hyr : r ≤ 36525 := by omega
    clear hr hMr hB
    obtain ⟨L, hL⟩ : ∃ L : Nat, 365 + lp k = L := ⟨_, rfl⟩
    have HL : Hid (365 + lp k = L) := hL
    have hL1 : 365 ≤ L := by omega
    have hL2 : L ≤ 366 := by rw [← hL]; unfold lp; split <;> omega
    rw [hL] at A2
    clear hL
    obtain ⟨y, hy⟩ : ∃ y : Int, ((2000 + k : Nat) : Int) = y := ⟨_, rfl⟩
    have HY : Hid (((2000 + k : Nat) : Int) = y) := hy
    have hy1 : 2000 ≤ y := by omega
    have hy2 : y ≤ 2099 := by omega
    obtain ⟨C, hC⟩ : ∃ C : Array Value, monC k = C := ⟨_, rfl⟩
    rw [hy, hC] at A1
    rw [hC] at A2
    rw [hy]
    clear hy hC
    by_cases hlt : L ≤ r
    · go_wp2_with fail
      refine A1.mono ?_
      rintro e w1 ⟨rfl, hb1⟩
      go_wp2_with fail
      refine (A2 w1 hb1).mono ?_
      rintro e w2 ⟨rfl, hb2⟩
      have hB2 : Below w.heap.size w w2 := HB.out.trans ((hb1.trans (hb2.mono hb1.size)).mono HB.out.size)
      have B1 := cMonthsOf k w2 (by omega) (HM.out.below hB2)
      have B2 := fun wx hb => cDays k wx ((HM.out.below hB2).below hb)
      rw [HL.out] at B2
      rw [HY.out] at B1
      have HB2 : Hid (Below w.heap.size w w2) := hB2
      obtain ⟨C', hC⟩ : ∃ C : Array Value, monC k = C := ⟨_, rfl⟩
      rw [hC] at B1 B2
      clear hC hB2 hb1 hb2 A1 A2
      go_wp2_with fail
      refine B1.mono ?_
      rintro e w3 ⟨rfl, hb1⟩
      go_wp2_with fail
      refine (B2 w3 hb1).mono ?_
      rintro e w4 ⟨rfl, hb2⟩
      have hB4 : Below w.heap.size w w4 := HB2.out.trans ((hb1.trans (hb2.mono hb1.size)).mono HB2.out.size)
      clear hb1 hb2 B1 B2
      go_wp2_with fail
      go_roundw
      case rel =>
        have h1 := HY.out; have h2 := HR.out; have h3 := HL.out
        refine ⟨r - L, k + 1, ?_, ?_, ?_, hB4⟩
        · go_num
        · rw [← h1]; go_num
        · rw [yb_succ, h3]; omega
      case measure => simp [intOf]; omega
    · go_wp2_with fail
      refine A1.mono ?_
      rintro e w1 ⟨rfl, hb1⟩
      go_wp2_with fail
      refine (A2 w1 hb1).mono ?_
      rintro e w2 ⟨rfl, hb2⟩
      have hB2 : Below w.heap.size w w2 := HB.out.trans ((hb1.trans (hb2.mono hb1.size)).mono HB.out.size)
      clear hb1 hb2 A1 A2
      have HB2 : Hid (Below w.heap.size w w2) := hB2
      clear hB2
      go_wp2_with fail
      go_loopw [0, 6] (fun day month wx => ∃ s m : Nat, day = .int .i64 (s : Int) ∧ month = .int .i64 (m : Int) ∧ 1 ≤ m ∧ m ≤ 12 ∧ s + mb (lp k) m = r ∧ Below w.heap.size w wx) (fun day _ _ => (intOf day).toNat)
      case atStart => exact ⟨r, 1, rfl, rfl, by omega, by omega, rfl, HB2.out⟩
      case round =>
        obtain ⟨s, m, rfl, rfl, hm1, hm2, hs, hB⟩ := hrel
        have A := fun wx hb => cDaysI_in k m wx hk hm1 hm2 (HM.out.below hb)
        obtain ⟨D, hD⟩ : ∃ D : Nat, dm (lp k) m = D := ⟨_, rfl⟩
        have hD1 : 28 ≤ D := by rw [← hD]; exact (dm_pos _ _ hm1 hm2).1
        have hD2 : D ≤ 32 := by
          have := (dm_pos (lp k) m hm1 hm2).2
          have : lp k ≤ 1 := by unfold lp; split <;> omega
          omega
        have HD : Hid (dm (lp k) m = D) := hD
        have HS : Hid (s + mb (lp k) m = r) := hs
        have hs2 : s ≤ 36525 := by omega
        have HBx : Hid (Below w.heap.size w wr) := hB
        rw [hD, HY.out] at A
        clear hD hs hB
        by_cases hlt2 : D ≤ s
        · go_wp2_with fail
          refine (A _ HBx.out).mono ?_
          rintro e w3 ⟨rfl, hb3⟩
          have hB3 : Below w.heap.size w w3 := HBx.out.trans (hb3.mono HBx.out.size)
          have HB3 : Hid (Below w.heap.size w w3) := hB3
          clear hb3 hB3
          go_wp2_with fail
          refine (A _ HB3.out).mono ?_
          rintro e w4 ⟨rfl, hb4⟩
          have hB4 : Below w.heap.size w w4 := HB3.out.trans (hb4.mono HB3.out.size)
          clear hb4 A
          go_wp2_with fail
          go_roundw
          case rel =>
            have h1 := HD.out; have h2 := HS.out; have h3 := HL.out
            have h4 := month_lt hm1 hm2 h2 (by omega) (by omega)
            refine ⟨s - D, m + 1, ?_, ?_, by omega, by omega, ?_, hB4⟩
            · go_num
            · go_num
            · rw [mb_succ _ _ hm1 hm2, h1]; omega
          case measure => simp [intOf]; omega
        · go_wp2_with fail
          refine (A _ HBx.out).mono ?_
          rintro e w3 ⟨rfl, hb3⟩
          have hB3 : Below w.heap.size w w3 := HBx.out.trans (hb3.mono HBx.out.size)
          clear hb3 A
          go_wp2_with fail
          go_ret3
          have h1 := HD.out; have h2 := HS.out; have h3 := HL.out; have h5 := HR.out
          refine ⟨k, m, s + 1, ?_, ⟨hk, hm1, hm2, by omega, by omega, by omega⟩, hB3⟩
          rw [HY.out]
          first | rfl | simp

end Go.Proofs.YtcjeodgfpnecgaaGreatDoor
