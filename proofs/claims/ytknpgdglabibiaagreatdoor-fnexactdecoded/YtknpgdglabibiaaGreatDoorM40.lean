/- From the row on Decoded to what its walk asks of the listed variables. -/
import Derived.Test.YtknpgdglabibiaaGreatDoorM39
namespace Go.Proofs.YtknpgdglabibiaaGreatDoor
open Go.RowKit

theorem laid_decoded {w : World} (h : laidMetH Tryz.prog Rows.fnExactDecodedRow.laid w) : Laid w := by
  rw [MakeChecks.laidMetH_plain _ _ _ (by kernel_rfl)] at h
  exact laid_of h (.tail _ (.tail _ (.tail _ (.tail _ (.head _))))) (.tail _ (.tail _ (.tail _ (.head _)))) (.tail _ (.tail _ (.head _)))

end Go.Proofs.YtknpgdglabibiaaGreatDoor
