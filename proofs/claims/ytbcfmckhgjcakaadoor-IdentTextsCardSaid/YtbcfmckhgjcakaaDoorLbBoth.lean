/- The document's Both, by its contract. -/
import Derived.Test.YtbcfmckhgjcakaaDoorLbBelow
import Derived.Test.YtbcfmckhgjcakaaDoorLbWord
import Derived.Deep.DeepCutAuto
namespace Go.Proofs.YtbcfmckhgjcakaaDoor
open Go.RowKit

theorem both1 (a b k : Nat) : bothF 1 a b k = (a.testBit k || b.testBit k) := rfl
theorem both2 (a b k : Nat) : bothF 2 a b k = (a.testBit k && b.testBit k) := rfl
theorem both3 (a b k : Nat) : bothF 3 a b k = (a.testBit k && !b.testBit k) := rfl

end Go.Proofs.YtbcfmckhgjcakaaDoor
