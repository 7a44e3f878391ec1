/- How small the tables are that Entered and Removed answer. -/
import Derived.Test.YtmbomjmenbfhmaaUSpecD
namespace Go.Proofs.Ytmbomjmenbfhmaa
open Go.RowKit
set_option linter.unusedVariables false
set_option linter.unusedSimpArgs false

theorem enteredT_sz {t : Tb} {id : ByteArray} {til : Int} (hz : RoSz 1048576 t.rows) (hn : t.rows.length ≤ 1048576) (hi : id.size ≤ 1048576) : RoSz 1048576 (enteredT t id til).1.rows ∧ (enteredT t id til).1.rows.length ≤ 1048576 := by
  unfold enteredT
  split
  · rename_i h
    have hT : tableB t = true := by
      simp only [Bool.and_eq_true] at h
      exact h.1.1
    have h20 := tableB_len hT
    unfold enterT
    split
    · exact ⟨hz, hn⟩
    · split
      · exact ⟨hz, hn⟩
      · refine ⟨fun x hx => ?_, ?_⟩
        · unfold insR at hx
          rcases List.mem_append.1 hx with h1 | h1
          · exact hz x (List.mem_of_mem_take h1)
          · rcases List.mem_cons.1 h1 with h2 | h2
            · subst h2; exact hi
            · exact hz x (List.mem_of_mem_drop h2)
        · show (insR t.rows (findR t.rows id) ⟨id, til⟩).length ≤ 1048576
          rw [insR_len _ _ _ (findR_le _ _)]
          omega
  · exact ⟨fun x hx => (List.not_mem_nil hx).elim, Nat.zero_le _⟩

theorem removedT_sz {t : Tb} {id : ByteArray} (hz : RoSz 1048576 t.rows) (hn : t.rows.length ≤ 1048576) : RoSz 1048576 (removedT t id).1.rows ∧ (removedT t id).1.rows.length ≤ 1048576 := by
  unfold removedT
  split
  · unfold removeT
    split
    · refine ⟨fun x hx => ?_, ?_⟩
      · rcases List.mem_append.1 hx with h1 | h1
        · exact hz x (List.mem_of_mem_take h1)
        · exact hz x (List.mem_of_mem_drop h1)
      · show (t.rows.take (findR t.rows id) ++ t.rows.drop (findR t.rows id + 1)).length ≤ 1048576
        rw [List.length_append, List.length_take, List.length_drop]
        omega
    · exact ⟨hz, hn⟩
  · exact ⟨fun x hx => (List.not_mem_nil hx).elim, Nat.zero_le _⟩

end Go.Proofs.Ytmbomjmenbfhmaa
