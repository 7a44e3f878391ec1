/- Contracts of DaysIn, of the program and of the specification: one answer. -/
import Derived.Test.YtbphbjkmgmgpkaaDoorRows
import Derived.Test.YtbphbjkmgmgpkaaDoorTMon
namespace Go.Proofs.YtbphbjkmgmgpkaaDoor
open Go.RowKit
set_option linter.unusedVariables false
set_option linter.unusedSimpArgs false

def daysIn (y m : Int) : Int := if (2000 ≤ y ∧ y ≤ 2099) ∧ (1 ≤ m ∧ m ≤ 12) then (dm (lp (y.toNat - 2000)) m.toNat : Nat) else 0

theorem daysIn_in (k m : Nat) (hk : k < 100) (h1 : 1 ≤ m) (h2 : m ≤ 12) : daysIn (2000 + k : Nat) m = (dm (lp k) m : Nat) := by
  unfold daysIn
  have e : ((2000 + k : Nat) : Int).toNat - 2000 = k := by omega
  rw [if_pos (by omega), e, Int.toNat_natCast]

theorem mon_index (k m : Nat) (h1 : 1 ≤ m) (h2 : m ≤ 12) (W : World) : (Instr.index 53 (.agg (monC k)) (.int .i64 ((m : Int) - 1))).run Tryd.prog W = .ok (.int .i64 (dm (lp k) m : Nat)) W := by
  by_cases h : k % 4 = 0
  · rw [show monC k = longC from if_pos h, show lp k = 1 from if_pos h]
    rcases month_cases h1 h2 with h | h | h | h | h | h | h | h | h | h | h | h <;> subst h <;> kernel_rfl
  · rw [show monC k = shortC from if_neg h, show lp k = 0 from if_neg h]
    rcases month_cases h1 h2 with h | h | h | h | h | h | h | h | h | h | h | h <;> subst h <;> kernel_rfl

theorem cDaysI_in (k m : Nat) (w : World) (hk : k < 100) (h1 : 1 ≤ m) (h2 : m ≤ 12) (hM : Mon w) :
    Calls Tryd.prog 15 #[.int .i64 (2000 + k : Nat), .int .i64 m] w fun e w' => e = .returned (.int .i64 (dm (lp k) m : Nat)) ∧ Below w.heap.size w w' := by
  have E := mon_index k m h1 h2
  have C := cMonthsOf k w (by omega) hM
  have a1 : decide (((2000 + k : Nat) : Int) < 2000) = false := by simp; omega
  have a2 : decide ((2099 : Int) < ((2000 + k : Nat) : Int)) = false := by simp; omega
  have a3 : decide ((m : Int) < 1) = false := by simp; omega
  have a4 : decide ((12 : Int) < (m : Int)) = false := by simp; omega
  have hw : IntKind.i64.wrap ((m : Int) - 1) = (m : Int) - 1 := IntWalk.i64_in _ (by omega)
  obtain ⟨y, hy⟩ : ∃ y : Int, ((2000 + k : Nat) : Int) = y := ⟨_, rfl⟩
  obtain ⟨r, hr⟩ : ∃ r : Int, ((dm (lp k) m : Nat) : Int) = r := ⟨_, rfl⟩
  obtain ⟨A, hA⟩ : ∃ A : Array Value, monC k = A := ⟨_, rfl⟩
  rw [hy] at C a1 a2 ⊢
  rw [hr] at E ⊢
  rw [hA] at E C
  clear hy hr hA hM
  go_enter Tryd.func15, Tryd.ntmps15
  go_wp2_with fail
  refine C.mono ?_
  rintro e w' ⟨rfl, hb⟩
  go_wp2_with fail
  go_ret
  exact ⟨rfl, hb⟩

theorem cDaysI_out (y m : Int) (w : World) (h : ¬ ((2000 ≤ y ∧ y ≤ 2099) ∧ (1 ≤ m ∧ m ≤ 12))) :
    Calls Tryd.prog 15 #[.int .i64 y, .int .i64 m] w fun e w' => e = .returned (.int .i64 0) ∧ Below w.heap.size w w' := by
  by_cases h1 : y < 2000
  · clear h
    go_enter Tryd.func15, Tryd.ntmps15
    go_wp2_with fail
    go_ret
    exact ⟨rfl, Below.refl _ _⟩
  · by_cases h2 : 2099 < y
    · clear h
      go_enter Tryd.func15, Tryd.ntmps15
      go_wp2_with fail
      go_ret
      exact ⟨rfl, Below.refl _ _⟩
    · by_cases h3 : m < 1
      · clear h
        go_enter Tryd.func15, Tryd.ntmps15
        go_wp2_with fail
        go_ret
        exact ⟨rfl, Below.refl _ _⟩
      · have h4 : 12 < m := by omega
        clear h
        go_enter Tryd.func15, Tryd.ntmps15
        go_wp2_with fail
        go_ret
        exact ⟨rfl, Below.refl _ _⟩

theorem cDaysI (y m : Int) (w : World) (hM : Mon w) :
    Calls Tryd.prog 15 #[.int .i64 y, .int .i64 m] w fun e w' => e = .returned (.int .i64 (daysIn y m)) ∧ Below w.heap.size w w' := by
  by_cases h : (2000 ≤ y ∧ y ≤ 2099) ∧ (1 ≤ m ∧ m ≤ 12)
  · obtain ⟨k, rfl⟩ : ∃ k : Nat, y = (2000 + k : Nat) := ⟨y.toNat - 2000, by omega⟩
    obtain ⟨n, rfl⟩ : ∃ n : Nat, m = n := ⟨m.toNat, by omega⟩
    rw [daysIn_in k n (by omega) (by omega) (by omega)]
    exact cDaysI_in k n w (by omega) (by omega) (by omega) hM
  · rw [show daysIn y m = 0 from if_neg h]
    exact cDaysI_out y m w h

theorem cDaysS_out (y m : Int) (w : World) (h : ¬ ((2000 ≤ y ∧ y ≤ 2099) ∧ (1 ≤ m ∧ m ≤ 12))) :
    Calls Tryd.prog 16 #[.int .i64 y, .int .i64 m] w fun e w' => e = .returned (.int .i64 0) ∧ Below w.heap.size w w' := by
  have C := fun w => cIn y 2000 2099 w
  have D := fun w => cIn m 1 12 w
  by_cases h1 : 2000 ≤ y ∧ y ≤ 2099
  · rw [decide_eq_true h1] at C
    rw [decide_eq_false (fun x => h ⟨h1, x⟩)] at D
    clear h
    go_enter Tryd.func16, Tryd.ntmps16
    go_wp2_with fail
    refine (C _).mono ?_
    rintro e w' ⟨rfl, rfl⟩
    go_wp2_with fail
    refine (D _).mono ?_
    rintro e w' ⟨rfl, rfl⟩
    go_wp2_with fail
    go_ret
    exact ⟨rfl, Below.refl _ _⟩
  · rw [decide_eq_false h1] at C
    clear h
    go_enter Tryd.func16, Tryd.ntmps16
    go_wp2_with fail
    refine (C _).mono ?_
    rintro e w' ⟨rfl, rfl⟩
    go_wp2_with fail
    go_ret
    exact ⟨rfl, Below.refl _ _⟩

set_option maxHeartbeats 1000000 in
theorem cDaysS_in (k m : Nat) (w : World) (hk : k < 100) (h1 : 1 ≤ m) (h2 : m ≤ 12) :
    Calls Tryd.prog 16 #[.int .i64 (2000 + k : Nat), .int .i64 m] w fun e w' => e = .returned (.int .i64 (dm (lp k) m : Nat)) ∧ Below w.heap.size w w' := by
  have C := fun w => cIn (2000 + k : Nat) 2000 2099 w
  rw [decide_eq_true (show (2000 : Int) ≤ (2000 + k : Nat) ∧ ((2000 + k : Nat) : Int) ≤ 2099 by omega)] at C
  have D := fun w => cIn m 1 12 w
  rw [decide_eq_true (show (1 : Int) ≤ m ∧ (m : Int) ≤ 12 by omega)] at D
  have e4 : ((((2000 + k : Nat) : Int).tmod 4) == 0) = (lp k == 1) := by
    rw [Int.tmod_eq_emod_of_nonneg (by omega)]
    unfold lp
    split
    · simp; omega
    · simp; omega
  obtain ⟨l, hl⟩ : ∃ l : Nat, lp k = l := ⟨_, rfl⟩
  have hl01 : l = 0 ∨ l = 1 := by rw [← hl]; unfold lp; split <;> simp
  rw [hl] at e4 ⊢
  obtain ⟨y, hy⟩ : ∃ y : Int, ((2000 + k : Nat) : Int) = y := ⟨_, rfl⟩
  rw [hy] at C e4 ⊢
  clear hy hl
  by_cases hm : m = 2
  · subst hm
    rcases hl01 with rfl | rfl
    · have e5 : (y.tmod 4 == 0) = false := e4
      clear e4
      go_enter Tryd.func16, Tryd.ntmps16
      go_wp2_with fail
      refine (C _).mono ?_
      rintro e w' ⟨rfl, rfl⟩
      go_wp2_with fail
      refine (D _).mono ?_
      rintro e w' ⟨rfl, rfl⟩
      go_wp2_with fail
      go_ret
      exact ⟨rfl, (Below.refl _ _).alloc (Nat.le_refl _) _⟩
    · have e5 : (y.tmod 4 == 0) = true := e4
      clear e4
      go_enter Tryd.func16, Tryd.ntmps16
      go_wp2_with fail
      refine (C _).mono ?_
      rintro e w' ⟨rfl, rfl⟩
      go_wp2_with fail
      refine (D _).mono ?_
      rintro e w' ⟨rfl, rfl⟩
      go_wp2_with fail
      go_ret
      exact ⟨rfl, (Below.refl _ _).alloc (Nat.le_refl _) _⟩
  · clear e4 hl01
    rcases month_cases h1 h2 with h | h | h | h | h | h | h | h | h | h | h | h
    · subst h
      go_enter Tryd.func16, Tryd.ntmps16
      go_wp2_with fail
      refine (C _).mono ?_
      rintro e w' ⟨rfl, rfl⟩
      go_wp2_with fail
      refine (D _).mono ?_
      rintro e w' ⟨rfl, rfl⟩
      go_wp2_with fail
      go_ret
      exact ⟨rfl, (Below.refl _ _).alloc (Nat.le_refl _) _⟩
    · exact absurd h hm
    all_goals
      clear hm
      subst h
      go_enter Tryd.func16, Tryd.ntmps16
      go_wp2_with fail
      refine (C _).mono ?_
      rintro e w' ⟨rfl, rfl⟩
      go_wp2_with fail
      refine (D _).mono ?_
      rintro e w' ⟨rfl, rfl⟩
      go_wp2_with fail
      go_ret
      exact ⟨rfl, (Below.refl _ _).alloc (Nat.le_refl _) _⟩

theorem cDaysS (y m : Int) (w : World) :
    Calls Tryd.prog 16 #[.int .i64 y, .int .i64 m] w fun e w' => e = .returned (.int .i64 (daysIn y m)) ∧ Below w.heap.size w w' := by
  by_cases h : (2000 ≤ y ∧ y ≤ 2099) ∧ (1 ≤ m ∧ m ≤ 12)
  · obtain ⟨k, rfl⟩ : ∃ k : Nat, y = (2000 + k : Nat) := ⟨y.toNat - 2000, by omega⟩
    obtain ⟨n, rfl⟩ : ∃ n : Nat, m = n := ⟨m.toNat, by omega⟩
    rw [daysIn_in k n (by omega) (by omega) (by omega)]
    exact cDaysS_in k n w (by omega) (by omega) (by omega)
  · rw [show daysIn y m = 0 from if_neg h]
    exact cDaysS_out y m w h

end Go.Proofs.YtbphbjkmgmgpkaaDoor
