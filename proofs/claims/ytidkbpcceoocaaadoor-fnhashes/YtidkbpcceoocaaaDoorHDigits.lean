/- Contracts of Digits, of the program and of the specification. -/
import Derived.Test.YtidkbpcceoocaaaDoorHPadI
namespace Go.Proofs.YtidkbpcceoocaaaDoor
open Go.RowKit
set_option linter.unusedVariables false
set_option linter.unusedSimpArgs false

/-- The ten digits of a number that is not wider; nothing of others. -/
def dgL (n : Int) : List UInt8 := if 0 ≤ n ∧ n ≤ 9999999999 then padL n.toNat 10 else []

theorem cIn (x lo hi : Int) (w : World) :
    Calls Tryd.prog 32 #[.int .i64 x, .int .i64 lo, .int .i64 hi] w fun e w' => e = .returned (.bool (decide (lo ≤ x ∧ x ≤ hi))) ∧ w' = w := by
  go_enter Tryd.func32, Tryd.ntmps32
  go_wp2
  all_goals go_ret
  all_goals exact ⟨by congr 2; simp; try omega, rfl⟩

theorem cDigS (n : Int) (w : World) :
    Calls Tryd.prog 14 #[.int .i64 n] w fun e w' => e = .returned (.string ⟨(dgL n).toArray⟩) ∧ Below w.heap.size w w' := by
  have C := fun w => cIn n 0 9999999999 w
  by_cases h : 0 ≤ n ∧ n ≤ 9999999999
  · obtain ⟨k, rfl⟩ : ∃ k : Nat, n = k := ⟨n.toNat, by omega⟩
    have D := fun w => cPadS k 10 w (by omega) (by omega)
    have e : dgL k = padL k 10 := by unfold dgL; rw [if_pos h]; rfl
    rw [decide_eq_true h] at C
    rw [e]
    generalize padL k 10 = X at *
    clear e h
    go_enter Tryd.func14, Tryd.ntmps14
    go_wp2_with fail
    refine (C _).mono ?_
    rintro e w' ⟨rfl, rfl⟩
    go_wp2_with fail
    refine (D _).mono ?_
    rintro e w' ⟨rfl, hb⟩
    go_wp2_with fail
    go_ret
    exact ⟨rfl, hb⟩
  · have e : dgL n = [] := by unfold dgL; rw [if_neg h]
    rw [decide_eq_false h] at C
    rw [e]
    clear e h
    go_enter Tryd.func14, Tryd.ntmps14
    go_wp2_with fail
    refine (C _).mono ?_
    rintro e w' ⟨rfl, rfl⟩
    go_wp2_with fail
    go_ret
    exact ⟨rfl, Below.refl _ _⟩

theorem cDigI (n : Int) (w : World) (hL : Laid w) :
    Calls Tryd.prog 10 #[.int .i64 n] w fun e w' => e = .returned (.string ⟨(dgL n).toArray⟩) ∧ Below w.heap.size w w' := by
  by_cases h : 0 ≤ n ∧ n ≤ 9999999999
  · obtain ⟨k, rfl⟩ : ∃ k : Nat, n = k := ⟨n.toNat, by omega⟩
    have D := cPadI k 10 w (by omega) (by omega) hL
    have e : dgL k = padL k 10 := by unfold dgL; rw [if_pos h]; rfl
    rw [e]
    generalize padL k 10 = X at *
    have h1 : ¬ ((k : Int) < 0) := by omega
    have h2 : ¬ ((9999999999 : Int) < (k : Int)) := by omega
    clear e h hL
    go_enter Tryd.func10, Tryd.ntmps10
    go_wp2_with fail
    refine D.mono ?_
    rintro e w' ⟨rfl, hb⟩
    go_wp2_with fail
    go_ret
    exact ⟨rfl, hb⟩
  · have e : dgL n = [] := by unfold dgL; rw [if_neg h]
    rw [e]
    clear e hL
    by_cases h0 : n < 0
    · clear h
      go_enter Tryd.func10, Tryd.ntmps10
      go_wp2_with fail
      go_ret
      exact ⟨rfl, Below.refl _ _⟩
    · have h2 : (9999999999 : Int) < n := by omega
      clear h
      go_enter Tryd.func10, Tryd.ntmps10
      go_wp2_with fail
      go_ret
      exact ⟨rfl, Below.refl _ _⟩

end Go.Proofs.YtidkbpcceoocaaaDoor
