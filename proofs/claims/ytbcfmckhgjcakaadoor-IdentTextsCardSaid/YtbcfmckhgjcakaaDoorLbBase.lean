/- What the walks over labels import. -/
import Derived.Test.YtbcfmckhgjcakaaDoorBase
import Derived.Test.YtbcfmckhgjcakaaDoorLbPlain
import Derived.WalkKit
import Derived.WalkSpells
import Derived.WalkLawsBesides
import Derived.Lib.Hide
import Derived.Lib.SmallJoins
import Derived.Deep.LoopGhost
import Derived.BigQuiet
import Derived.StillTactics
import Derived.OwnWalk
import Derived.Laws.Rows
import Derived.Laws.Tables
import Derived.Shelf.GgClosure.Gives
namespace Go.Proofs.YtbcfmckhgjcakaaDoor
open Go.RowKit

/-- Sixty-four truths as cells. -/
structure Bits (cs : Array Value) (f : Nat → Bool) : Prop where
  size : cs.size = 64
  get : ∀ i, i < 64 → cs[i]? = some (.bool (f i))
theorem Bits.cell {w : World} {cs : Array Value} {f : Nat → Bool} {t : TypeId} (h : Bits cs f) (i : Nat) (hi : i < 64) : (w.alloc (.cells cs t)).cell? ⟨w.heap.size, i, none⟩ = some (.bool (f i)) := by
  rw [World.cell?_alloc_mark]; exact h.get i hi
end Go.Proofs.YtbcfmckhgjcakaaDoor
