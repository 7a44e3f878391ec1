/- From the rows on texts to what their walks ask of the listed variables. -/
import Derived.Test.YtbphbjkmgmgpkaaDoorTPadI
namespace Go.Proofs.YtbphbjkmgmgpkaaDoor
open Go.RowKit

theorem pow_data : (Lib.tabData .u64 Lib.pow10Tab : DataW Unit) = Rows.laid_internal_strconv_uint64pow10 := by kernel_rfl

theorem laid_of {l : List (String × DataW Unit)} {w : World} (h : laidMet Tryd.prog l w) (h0 : (longName, Lib.tabData .i64 longZ) ∈ l) (h1 : (shortName, Lib.tabData .i64 shortZ) ∈ l) (h2 : (powName, Rows.laid_internal_strconv_uint64pow10) ∈ l) : Laid w := by
  refine ⟨mon_of h h0 h1, ?_⟩
  rw [← pow_data] at h2
  exact tab_of h h2 (g := 2) (t := 90) (by kernel_rfl) (by kernel_rfl) Tryd.underlying90 Tryd.underlying77 (by kernel_rfl) (by kernel_rfl)

theorem laid_timeText {w : World} (h : laidMetH Tryd.prog Rows.fnExactTimeTextRow.laid w) : Laid w := by
  rw [MakeChecks.laidMetH_plain _ _ _ (by kernel_rfl)] at h
  exact laid_of h (.tail _ (.tail _ (.tail _ (.tail _ (.head _))))) (.tail _ (.tail _ (.tail _ (.head _)))) (.tail _ (.tail _ (.head _)))

theorem laid_timeOf {w : World} (h : laidMetH Tryd.prog Rows.fnExactTimeOfRow.laid w) : Laid w := laid_timeText h

theorem laid_times {w : World} (h : laidMetH Tryd.prog Rows.fnTimesRow.laid w) : Laid w := laid_timeText h

end Go.Proofs.YtbphbjkmgmgpkaaDoor
