/- From the rows on claims to what their walks ask of the listed variables. -/
import Derived.Test.YtapmhlhbjpbcoaaGreatDoorM25
namespace Go.Proofs.YtapmhlhbjpbcoaaGreatDoor
open Go.RowKit

theorem laid_claimTree {w : World} (h : laidMetH Tryz.prog Rows.fnExactClaimTreeRow.laid w) : Laid w := by
  rw [MakeChecks.laidMetH_plain _ _ _ (by kernel_rfl)] at h
  exact laid_of h (.tail _ (.tail _ (.tail _ (.tail _ (.head _))))) (.tail _ (.tail _ (.tail _ (.head _)))) (.tail _ (.tail _ (.head _)))

theorem laid_decoded {w : World} (h : laidMetH Tryz.prog Rows.fnExactDecodedRow.laid w) : Laid w := laid_claimTree h

end Go.Proofs.YtapmhlhbjpbcoaaGreatDoor
