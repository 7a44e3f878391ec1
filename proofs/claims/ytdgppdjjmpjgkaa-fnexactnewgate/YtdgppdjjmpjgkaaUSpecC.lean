/- Contracts of the specification's Entered, l16Remove, Removed. -/
import Derived.Test.YtdgppdjjmpjgkaaUSpecB
namespace Go.Proofs.Ytdgppdjjmpjgkaa
open Go.RowKit
set_option linter.unusedVariables false
set_option linter.unusedSimpArgs false

theorem enteredT_f {t : Tb} {id : ByteArray} {til : Int} (h : (tableB t && u_idOk id && utmB til) = false) : enteredT t id til = (zeroT, 3) := if_neg (by rw [h]; exact Bool.false_ne_true)
theorem enteredT_t {t : Tb} {id : ByteArray} {til : Int} (h : (tableB t && u_idOk id && utmB til) = true) : enteredT t id til = enterT t id til := if_pos h

theorem enterT_most (t : Tb) (id : ByteArray) (til : Int) : (enterT t id til).1.most = t.most := by
  unfold enterT
  split
  · rfl
  · split <;> rfl

end Go.Proofs.Ytdgppdjjmpjgkaa
