/- What a row's listed variables give the walks: the library's table for counting zeros. -/
import Derived.Test.YtbcfmckhgjcakaaDoorRows
import Derived.Test.YtbcfmckhgjcakaaDoorLbTz
import Derived.Test.YtbcfmckhgjcakaaDoorFrame
import Derived.Lib.LaidTab
import Derived.LaidSub
import Derived.LaidMore
import Derived.MakeChecks
import Derived.Deep.DeepHandedRow
namespace Go.Proofs.YtbcfmckhgjcakaaDoor
open Go.RowKit

theorem bt_data : (Rows.laid_math_bits_deBruijn64tab : DataW Unit) = Lib.tabData .u8 (Lib.deBruijn64tab.map fun n : Nat => (n : Int)) := by kernel_rfl
theorem gBtType : (Tryd.prog.globals[3]?).map (·.type) = some 115 := by kernel_rfl

/-- Out of whatever list that has the table. -/
theorem btab_of {W : World} {l : List (String × DataW Unit)} (hl : (l.filter fun x => x.1 == "math/bits.deBruijn64tab") = [("math/bits.deBruijn64tab", Rows.laid_math_bits_deBruijn64tab)]) (h : laidMetH Tryd.prog l W) : BTab W := by
  have h1 := h.filter (fun x => x.1 == "math/bits.deBruijn64tab")
  rw [hl, bt_data, MakeChecks.laidMetH_plain _ _ _ (by kernel_rfl)] at h1
  exact Lib.tabIs_of_head (rest := []) gBt gBtType Tryd.underlying115 Tryd.underlying5 (by kernel_rfl) (by kernel_rfl) h1
end Go.Proofs.YtbcfmckhgjcakaaDoor
