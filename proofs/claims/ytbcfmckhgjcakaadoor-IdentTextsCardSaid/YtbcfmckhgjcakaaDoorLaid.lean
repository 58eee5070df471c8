/- What a row's listed variables give the walks: the library's table of powers. -/
import Derived.Test.YtbcfmckhgjcakaaDoorRows
import Derived.Test.YtbcfmckhgjcakaaDoorNums
import Derived.Test.YtbcfmckhgjcakaaDoorFrame
import Derived.Lib.LaidTab
import Derived.LaidSub
import Derived.LaidMore
import Derived.MakeChecks
import Derived.Deep.DeepHandedRow
namespace Go.Proofs.YtbcfmckhgjcakaaDoor
open Go.RowKit

theorem pow_data : (Rows.laid_internal_strconv_uint64pow10 : DataW Unit) = Lib.tabData .u64 Lib.pow10Tab := by kernel_rfl
theorem gPow : Tryd.prog.globalNamed "internal/strconv.uint64pow10" = some 4 := by kernel_rfl
theorem gPowType : (Tryd.prog.globals[4]?).map (·.type) = some 132 := by kernel_rfl

/-- Out of whatever list that has the table. -/
theorem tabs_of {W : World} {l : List (String × DataW Unit)} (hl : (l.filter fun x => x.1 == "internal/strconv.uint64pow10") = [("internal/strconv.uint64pow10", Rows.laid_internal_strconv_uint64pow10)]) (h : laidMetH Tryd.prog l W) : Tabs W := by
  have h1 := h.filter (fun x => x.1 == "internal/strconv.uint64pow10")
  rw [hl, pow_data, MakeChecks.laidMetH_plain _ _ _ (by kernel_rfl)] at h1
  exact Lib.tabIs_of_head (rest := []) gPow gPowType Tryd.underlying132 Tryd.underlying22 (by kernel_rfl) (by kernel_rfl) h1
end Go.Proofs.YtbcfmckhgjcakaaDoor
