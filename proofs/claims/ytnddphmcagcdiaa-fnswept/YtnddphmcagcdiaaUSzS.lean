/- What is swept is of no more size. -/
import Derived.Test.YtnddphmcagcdiaaUSwM
namespace Go.Proofs.Ytnddphmcagcdiaa
set_option linter.unusedVariables false

theorem sweptT_sz {t : Tb} {now : Int} (hz : RoSz 1048576 t.rows) (hn : t.rows.length ≤ 1048576) : RoSz 1048576 (sweptT t now).rows ∧ (sweptT t now).rows.length ≤ 1048576 := by
  unfold sweptT
  split
  · exact ⟨fun x hx => hz x (List.mem_filter.1 hx).1, Nat.le_trans (List.length_filter_le _ _) hn⟩
  · exact ⟨fun x hx => (List.not_mem_nil hx).elim, Nat.zero_le _⟩

end Go.Proofs.Ytnddphmcagcdiaa
