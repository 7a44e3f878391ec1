/- Contracts of the program's byId, slices.BinarySearchFunc over it, rowAt, rowOk, rowsOk, TableOk, Holds. -/
import Derived.Test.YtdgppdjjmpjgkaaUSpec
import Derived.Test.YtdgppdjjmpjgkaaShelf
namespace Go.Proofs.Ytdgppdjjmpjgkaa
open Go.RowKit
set_option linter.unusedVariables false
set_option linter.unusedSimpArgs false

/-- Less, alike, greater. -/
def cmpU (x y : ByteArray) : Int := Lib.compareBytes x.data.toList y.data.toList

theorem cmpL_is : ∀ a b : List UInt8, Lib.compareBytes a b = if Op.bytesLess a b = true then -1 else if a = b then 0 else 1
  | [], [] => by simp [Lib.compareBytes, Op.bytesLess]
  | [], _ :: _ => by simp [Lib.compareBytes, Op.bytesLess]
  | _ :: _, [] => by simp [Lib.compareBytes, Op.bytesLess]
  | a :: s, b :: t => by
    unfold Lib.compareBytes Op.bytesLess
    rw [cmpL_is s t]
    by_cases h1 : a < b
    · simp [h1]
    · by_cases h2 : b < a
      · have hne : ¬ a = b := fun e => by subst e; exact h1 h2
        simp [h1, h2, hne]
      · have he : a = b := UInt8.le_antisymm (UInt8.not_lt.1 h2) (UInt8.not_lt.1 h1)
        subst he
        simp [h1]

theorem cmpU_lt {x y : ByteArray} (h : u_ltB x y = true) : cmpU x y = -1 := by
  unfold u_ltB at h
  rw [ByteArray.toList_eq, ByteArray.toList_eq] at h
  unfold cmpU
  rw [cmpL_is, if_pos h]

theorem cmpU_self (x : ByteArray) : cmpU x x = 0 := by
  have h := u_ltB_irr x
  unfold u_ltB at h
  rw [ByteArray.toList_eq] at h
  unfold cmpU
  rw [cmpL_is, if_neg (by rw [h]; exact Bool.false_ne_true), if_pos rfl]

theorem cmpU_gt {x y : ByteArray} (h : u_ltB x y = false) (hne : ¬ x = y) : cmpU x y = 1 := by
  unfold u_ltB at h
  rw [ByteArray.toList_eq, ByteArray.toList_eq] at h
  unfold cmpU
  rw [cmpL_is, if_neg (by rw [h]; exact Bool.false_ne_true), if_neg (fun e => hne (ByteArray.ext (Array.toList_inj.1 e)))]

theorem cmpU_ge {x y : ByteArray} (h : u_ltB x y = false) : ¬ cmpU x y < 0 := by
  by_cases e : x = y
  · subst e; rw [cmpU_self]; decide
  · rw [cmpU_gt h e]; decide

end Go.Proofs.Ytdgppdjjmpjgkaa
