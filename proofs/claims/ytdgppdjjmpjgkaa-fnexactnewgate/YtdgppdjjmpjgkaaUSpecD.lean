/- Contracts of the specification's l16Remove, Removed. -/
import Derived.Test.YtdgppdjjmpjgkaaUSpecC
namespace Go.Proofs.Ytdgppdjjmpjgkaa
open Go.RowKit
set_option linter.unusedVariables false
set_option linter.unusedSimpArgs false

theorem removeT_no {t : Tb} {id : ByteArray} (h : isR t.rows id = false) : removeT t id = (t, false) := if_neg (by rw [h]; exact Bool.false_ne_true)
theorem removeT_yes {t : Tb} {id : ByteArray} (h : isR t.rows id = true) : removeT t id = (⟨t.most, t.rows.take (findR t.rows id) ++ t.rows.drop (findR t.rows id + 1)⟩, true) := if_pos h

/-- What l16Remove leaves. -/
def RemovePost (P B : Nat) (T : Tb × Bool) (w : World) (e : Ending) (w' : World) : Prop :=
  ∃ g' c', e = .returned (.bool T.2) ∧ w'.heap[P]? = some (.cells #[.int .i64 T.1.most, .slice (some ⟨g', 0, none⟩) T.1.rows.length c'] 33 (0, 0)) ∧ RoOwn w' B g' c' T.1.rows ∧ u_KeepB (fun b => b = P) w w'

theorem removedT_f {t : Tb} {id : ByteArray} (h : tableB t = false) : removedT t id = (zeroT, false) := if_neg (by rw [h]; exact Bool.false_ne_true)
theorem removedT_t {t : Tb} {id : ByteArray} (h : tableB t = true) : removedT t id = removeT t id := if_pos h

theorem removeT_most (t : Tb) (id : ByteArray) : (removeT t id).1.most = t.most := by
  unfold removeT
  split <;> rfl

end Go.Proofs.Ytdgppdjjmpjgkaa
