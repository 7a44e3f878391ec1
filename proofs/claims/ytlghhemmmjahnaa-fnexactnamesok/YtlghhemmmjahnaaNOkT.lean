/- Contract of TokenOk of the specification. -/
import Derived.Test.YtlghhemmmjahnaaNOk
namespace Go.Proofs.Ytlghhemmmjahnaa
open Go.RowKit
set_option linter.unusedVariables false
set_option linter.unusedSimpArgs false

def textB (s : ByteArray) : Bool := plainL s.data.toList && decide (1 ≤ s.size ∧ s.size ≤ 60)

/-- What TokenOk answers. -/
noncomputable def tokB (t : Tk) : Bool :=
  if t.kind = 1 then nameL t.name.data.toList && (attrsB t.attrs && decide (t.text.size = 0))
  else if t.kind = 2 then nameL t.name.data.toList && (decide (t.attrs.length = 0) && decide (t.text.size = 0))
  else if t.kind = 3 then decide (t.name.size = 0) && (decide (t.attrs.length = 0) && textB t.text)
  else false

theorem empty_beq (s : ByteArray) : (s.toList == (⟨#[]⟩ : ByteArray).toList) = decide (s.size = 0) := by
  rw [str_beq]
  by_cases h : s.size = 0
  · rw [decide_eq_true h]
    refine decide_eq_true (ByteArray.ext ?_)
    exact Array.eq_empty_of_size_eq_zero h
  · rw [decide_eq_false h]
    refine decide_eq_false (fun e => h ?_)
    rw [e]; rfl

theorem empty_is (s : ByteArray) : s.toList.isEmpty = decide (s.size = 0) := by
  have e : s.size = s.data.toList.length := rfl
  rw [ByteArray.toList_eq, e]
  cases s.data.toList <;> simp

theorem cL7Text (s : ByteArray) (w : World) (hs : s.size ≤ 1048576) :
    Calls Try.prog 66 #[.string s] w fun e w' => e = .returned (.bool (textB s)) ∧ w' = w := by
  have CP := fun w => c_spec_PlainOk s w (by unfold maxLen; omega)
  have CI := fun w => c_spec_In7 (s.size : Int) 1 60 w
  by_cases q : plainL s.data.toList = true
  · have e : textB s = decide ((1 : Int) ≤ (s.size : Int) ∧ (s.size : Int) ≤ 60) := by
      unfold textB; rw [q, Bool.true_and]; congr 1; exact propext (by omega)
    rw [e]
    rw [q] at CP
    obtain ⟨B, hB⟩ : ∃ B, decide ((1 : Int) ≤ (s.size : Int) ∧ (s.size : Int) ≤ 60) = B := ⟨_, rfl⟩
    rw [hB] at CI ⊢
    clear hB q e
    go_enter Try.func66, Try.ntmps66
    go_wp2_with fail
    refine (CP _).mono ?_
    rintro e w1 ⟨rfl, rfl⟩
    go_wp2_with fail
    refine (CI _).mono ?_
    rintro e w1 ⟨rfl, rfl⟩
    go_wp2_with fail
    go_ret
    exact ⟨rfl, rfl⟩
  · have q : plainL s.data.toList = false := by simpa using q
    rw [show textB s = false by unfold textB; rw [q]; rfl]
    rw [q] at CP
    clear q
    go_enter Try.func66, Try.ntmps66
    go_wp2_with fail
    refine (CP _).mono ?_
    rintro e w1 ⟨rfl, rfl⟩
    go_wp2_with fail
    go_ret
    exact ⟨rfl, rfl⟩

end Go.Proofs.Ytlghhemmmjahnaa
