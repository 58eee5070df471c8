/- What the walks over labels import. -/
import Derived.Test.YtdpikdkhemhmdaaChecked
import Derived.Test.YtdpikdkhemhmdaaLbPlain
import Derived.WalkKit
import Derived.WalkSpells
import Derived.WalkLawsBesides
import Derived.Lib.Hide
import Derived.Lib.SmallJoins
import Derived.Deep.LoopGhost
import Derived.BigQuiet
import Derived.StillTactics
import Derived.OwnWalk
import Derived.Laws.Rows
import Derived.Laws.Tables
namespace Go.Proofs.Ytdpikdkhemhmdaa
open Go.RowKit

theorem ret_bool {a b : Bool} (h : a = b) : Ending.returned (.bool a) = .returned (.bool b) := by rw [h]
theorem ret_int {k : IntKind} {a b : Int} (h : a = b) : Ending.returned (.int k a) = .returned (.int k b) := by rw [h]
theorem str_ret {a b : ByteArray} (h : a = b) : Ending.returned (.string a) = .returned (.string b) := by rw [h]
/-- Sixty-four truths as cells. -/
structure Bits (cs : Array Value) (f : Nat → Bool) : Prop where
  size : cs.size = 64
  get : ∀ i, i < 64 → cs[i]? = some (.bool (f i))
theorem Bits.cell {w : World} {cs : Array Value} {f : Nat → Bool} {t : TypeId} (h : Bits cs f) (i : Nat) (hi : i < 64) : (w.alloc (.cells cs t)).cell? ⟨w.heap.size, i, none⟩ = some (.bool (f i)) := by
  rw [World.cell?_alloc_mark]; exact h.get i hi
end Go.Proofs.Ytdpikdkhemhmdaa
