/- Contracts of Number, of the program and of the specification. -/
import Derived.Test.YtidkbpcceoocaaaDoorHDig
namespace Go.Proofs.YtidkbpcceoocaaaDoor
open Go.RowKit
set_option linter.unusedVariables false
set_option linter.unusedSimpArgs false

/-- The number that ten digits tell, and whether they do. -/
def numOf (l : List UInt8) : Int × Bool := if l.length = 10 ∧ l.all isDig = true then ((valD l : Int), true) else (0, false)

theorem cNumI (b : ByteArray) (w : World) (hb : b.size ≤ 1048576) :
    Calls Tryd.prog 12 #[.string b] w fun e w' => e = .returned (.tuple #[.int .i64 (numOf b.data.toList).1, .bool (numOf b.data.toList).2]) ∧ w' = w := by
  by_cases h10 : b.size = 10
  · have hl : b.data.toList.length = 10 := by rw [← sz]; exact h10
    have C := fun w => cDigitsI b w (by omega)
    have e : numOf b.data.toList = ((if b.data.toList.all isDig = true then (valD b.data.toList : Int) else 0), b.data.toList.all isDig) := by
      unfold numOf
      by_cases h : b.data.toList.all isDig = true
      · simp [h, hl]
      · simp [h]
    rw [e]
    simp only
    generalize (if b.data.toList.all isDig = true then (valD b.data.toList : Int) else 0) = X at *
    generalize b.data.toList.all isDig = Y at *
    have hq : ((b.size : Int) != 10) = false := by simp; omega
    clear e hl h10
    go_enter Tryd.func12, Tryd.ntmps12
    go_wp2_with fail
    refine (C _).mono ?_
    rintro e w' ⟨rfl, rfl⟩
    go_wp2_with fail
    go_ret2
    exact ⟨rfl, rfl⟩
  · have e : numOf b.data.toList = (0, false) := by
      unfold numOf
      rw [if_neg]
      rintro ⟨h, _⟩
      rw [← sz] at h
      exact h10 h
    rw [e]
    simp only
    have hq : ((b.size : Int) != 10) = true := by simp; omega
    clear e h10
    go_enter Tryd.func12, Tryd.ntmps12
    go_wp2_with fail
    go_ret2
    exact ⟨rfl, rfl⟩

theorem cNumS (b : ByteArray) (w : World) (hb : b.size ≤ 1048576) :
    Calls Tryd.prog 13 #[.string b] w fun e w' => e = .returned (.tuple #[.int .i64 (numOf b.data.toList).1, .bool (numOf b.data.toList).2]) ∧ w' = w := by
  by_cases h10 : b.size = 10
  · have hl : b.data.toList.length = 10 := by rw [← sz]; exact h10
    have C := fun w => cDigitsS b 0 10 w (by omega) (by omega) hb
    rw [List.drop_zero, List.take_of_length_le (by omega)] at C
    have hq : ((b.size : Int) != 10) = false := by simp; omega
    by_cases h : b.data.toList.all isDig = true
    · have e : numOf b.data.toList = ((valD b.data.toList : Int), true) := by
        unfold numOf
        rw [if_pos ⟨hl, h⟩]
      have e2 : rdI b.data.toList = (valD b.data.toList : Int) := by unfold rdI; rw [if_pos h]
      rw [e2] at C
      rw [e]
      simp only
      generalize valD b.data.toList = X at *
      have hx : ¬ ((X : Int) < 0) := by omega
      clear e hl h10 h e2
      go_enter Tryd.func13, Tryd.ntmps13
      go_wp2_with fail
      refine (C _).mono ?_
      rintro e w' ⟨rfl, rfl⟩
      go_wp2_with fail
      refine (C _).mono ?_
      rintro e w' ⟨rfl, rfl⟩
      go_wp2_with fail
      go_ret2
      exact ⟨rfl, rfl⟩
    · have e : numOf b.data.toList = (0, false) := by
        unfold numOf
        rw [if_neg (fun x => h x.2)]
      have e2 : rdI b.data.toList = -1 := by unfold rdI; rw [if_neg h]
      rw [e2] at C
      rw [e]
      simp only
      clear e hl h10 h e2
      go_enter Tryd.func13, Tryd.ntmps13
      go_wp2_with fail
      refine (C _).mono ?_
      rintro e w' ⟨rfl, rfl⟩
      go_wp2_with fail
      go_ret2
      exact ⟨rfl, rfl⟩
  · have e : numOf b.data.toList = (0, false) := by
      unfold numOf
      rw [if_neg]
      rintro ⟨h, _⟩
      rw [← sz] at h
      exact h10 h
    rw [e]
    simp only
    have hq : ((b.size : Int) != 10) = true := by simp; omega
    clear e h10
    go_enter Tryd.func13, Tryd.ntmps13
    go_wp2_with fail
    go_ret2
    exact ⟨rfl, rfl⟩

end Go.Proofs.YtidkbpcceoocaaaDoor
