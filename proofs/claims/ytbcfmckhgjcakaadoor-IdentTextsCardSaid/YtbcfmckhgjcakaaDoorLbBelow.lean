/- The document's Below, by its contract. -/
import Derived.Test.YtbcfmckhgjcakaaDoorLbSet
import Derived.Deep.WholeRow
namespace Go.Proofs.YtbcfmckhgjcakaaDoor
open Go.RowKit

theorem below_no (a b k : Nat) (hk : k < 64) (h1 : a.testBit k = true) (h2 : b.testBit k = false) : belowB a b = false := by
  cases h : belowB a b with
  | false => rfl
  | true => have := (below_iff a b).1 h k hk h1; rw [h2] at this; cases this
theorem below_yes (a b : Nat) (h : ∀ i, i < 64 → (a.testBit i && !b.testBit i) = false) : belowB a b = true := by
  rw [below_iff]
  intro i hi ha
  have := h i hi
  rw [ha] at this
  simpa using this

/-- Two arrays of the call's own, written whole one behind the other. -/
theorem heap_first (w : World) (z z' : Array Value) (T : TypeId) : ((w.alloc (.cells z T)).alloc (.cells z' T)).heap[w.heap.size]? = some (.cells z T (0, 0)) := by
  rw [heap_alloc_old _ _ (by simp)]; exact heap_alloc_new _ _
theorem heap_second (w : World) (z z' cs : Array Value) (T : TypeId) : (((w.alloc (.cells z T)).alloc (.cells z' T)).setRow w.heap.size cs).heap[w.heap.size + 1]? = some (.cells z' T (0, 0)) := by
  rw [setRow_other _ _ _ _ (by omega)]
  have := heap_alloc_new (w.alloc (.cells z T)) (.cells z' T)
  simpa using this
def TwoArr (w W : World) (cs ds : Array Value) : Prop := W.heap.size = w.heap.size + 2 ∧ Below w.heap.size w W ∧ (∀ i, W.cell? ⟨w.heap.size, i, none⟩ = cs[i]?) ∧ ∀ i, W.cell? ⟨w.heap.size + 1, i, none⟩ = ds[i]?
theorem twoArr (w : World) (z z' cs ds : Array Value) (T : TypeId) : TwoArr w ((((w.alloc (.cells z T)).alloc (.cells z' T)).setRow w.heap.size cs).setRow (w.heap.size + 1) ds) cs ds := by
  have h1 := heap_first w z z' T
  have h2 := heap_second w z z' cs T
  have h3 := setRow_heap _ _ _ cs _ _ h1
  have h4 := setRow_heap _ _ _ ds _ _ h2
  refine ⟨by simp, below_setRow (below_setRow (((Below.refl _ _).alloc (Nat.le_refl _) _).alloc (by simp) _) (Nat.le_refl _) _) (by omega) _, fun i => ?_, fun i => cell_of_row _ _ _ _ _ _ h4⟩
  have h5 : ((((w.alloc (.cells z T)).alloc (.cells z' T)).setRow w.heap.size cs).setRow (w.heap.size + 1) ds).heap[w.heap.size]? = some (.cells cs T (0, 0)) := by
    rw [setRow_other _ _ _ _ (by omega)]; exact h3
  exact cell_of_row _ _ _ _ _ _ h5

end Go.Proofs.YtbcfmckhgjcakaaDoor
