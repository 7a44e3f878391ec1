/- Contracts of NewTable, of the program and of the specification. The program's NewGate. -/
import Derived.Test.YtnjepdggefchnaaGreatDoorM18
import Derived.Test.YtnjepdggefchnaaGreatDoorM9
import Derived.Test.YtnjepdggefchnaaGreatDoorM17
import Derived.Deep.CutRange
namespace Go.Proofs.YtnjepdggefchnaaGreatDoor
open Go.RowKit
set_option linter.unusedVariables false
set_option linter.unusedSimpArgs false

theorem newT_t {m : Int} (h : mostB m = true) : newT m = (⟨m, []⟩, true) := if_pos h
theorem newT_f {m : Int} (h : mostB m = false) : newT m = (zeroT, false) := if_neg (by rw [h]; exact Bool.false_ne_true)

theorem newT_rows (m : Int) : (newT m).1.rows = [] := by
  cases h : mostB m with
  | true => rw [newT_t h]
  | false => rw [newT_f h]; rfl

end Go.Proofs.YtnjepdggefchnaaGreatDoor

namespace Go.Proofs.YtnjepdggefchnaaGreatDoor
open Go.RowKit
set_option linter.unusedVariables false
set_option linter.unusedSimpArgs false

/-- The gate that is asked for. -/
def askG (x : ByteArray) (l : List Hd) (sk most : Int) : Gt := ⟨x, l, sk, 0, ⟨most, []⟩, ⟨most, []⟩⟩

noncomputable def newG (x : ByteArray) (l : List Hd) (sk most : Int) : Gt × Bool := if gateB (askG x l sk most) = true then (askG x l sk most, true) else (zeroG, false)

theorem tableB_none (m : Int) (h : mostB m = false) : tableB ⟨m, []⟩ = false := by
  unfold tableB
  rw [h]
  rfl

theorem askG_new (x : ByteArray) (l : List Hd) (sk most : Int) : gateB ⟨x, l, sk, 0, (newT most).1, (newT most).1⟩ = gateB (askG x l sk most) ∧ (gateB (askG x l sk most) = true → (newT most).1 = ⟨most, []⟩) := by
  cases h : mostB most with
  | true =>
    rw [newT_t h]
    exact ⟨rfl, fun _ => rfl⟩
  | false =>
    rw [newT_f h]
    have h1 : tableB ⟨most, []⟩ = false := tableB_none most h
    have h2 : tableB zeroT = false := tableB_none 0 (by decide)
    have e1 : gateB (askG x l sk most) = false := by
      unfold gateB askG
      simp only
      rw [h1]
      simp
    have e2 : gateB ⟨x, l, sk, 0, zeroT, zeroT⟩ = false := by
      unfold gateB
      simp only
      rw [h2]
      simp
    exact ⟨e2.trans e1.symm, fun h => by rw [e1] at h; cases h⟩

theorem gateB_hands {g : Gt} (h : gateB g = true) : g.hands.length ≤ 4 := by
  unfold gateB at h
  rw [Bool.and_eq_true, Bool.and_eq_true] at h
  exact (handsB_p h.2.1).1

end Go.Proofs.YtnjepdggefchnaaGreatDoor
