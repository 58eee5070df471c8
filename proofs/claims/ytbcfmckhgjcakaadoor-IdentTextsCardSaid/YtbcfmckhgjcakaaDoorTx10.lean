/- Texts of the proof, merged: LbBelow, LbWord, LbBoth. -/
import Derived.Test.YtbcfmckhgjcakaaDoorTx3
import Derived.Test.YtbcfmckhgjcakaaDoorTx4
import Derived.Test.YtbcfmckhgjcakaaDoorTx9
import Derived.Deep.WholeRow
import Derived.Deep.DeepCutAuto
/- The document's Below, by its contract. -/
namespace Go.Proofs.YtbcfmckhgjcakaaDoor
open Go.RowKit

theorem below_no (a b k : Nat) (hk : k < 64) (h1 : a.testBit k = true) (h2 : b.testBit k = false) : belowB a b = false := by
  cases h : belowB a b with
  | false => rfl
  | true => have := (below_iff a b).1 h k hk h1; rw [h2] at this; cases this
theorem below_yes (a b : Nat) (h : ∀ i, i < 64 → (a.testBit i && !b.testBit i) = false) : belowB a b = true := by
  rw [below_iff]
  intro i hi ha
  have := h i hi
  rw [ha] at this
  simpa using this

/-- Two arrays of the call's own, written whole one behind the other. -/
theorem heap_first (w : World) (z z' : Array Value) (T : TypeId) : ((w.alloc (.cells z T)).alloc (.cells z' T)).heap[w.heap.size]? = some (.cells z T (0, 0)) := by
  rw [heap_alloc_old _ _ (by simp)]; exact heap_alloc_new _ _
theorem heap_second (w : World) (z z' cs : Array Value) (T : TypeId) : (((w.alloc (.cells z T)).alloc (.cells z' T)).setRow w.heap.size cs).heap[w.heap.size + 1]? = some (.cells z' T (0, 0)) := by
  rw [setRow_other _ _ _ _ (by omega)]
  have := heap_alloc_new (w.alloc (.cells z T)) (.cells z' T)
  simpa using this
def TwoArr (w W : World) (cs ds : Array Value) : Prop := W.heap.size = w.heap.size + 2 ∧ Below w.heap.size w W ∧ (∀ i, W.cell? ⟨w.heap.size, i, none⟩ = cs[i]?) ∧ ∀ i, W.cell? ⟨w.heap.size + 1, i, none⟩ = ds[i]?
theorem twoArr (w : World) (z z' cs ds : Array Value) (T : TypeId) : TwoArr w ((((w.alloc (.cells z T)).alloc (.cells z' T)).setRow w.heap.size cs).setRow (w.heap.size + 1) ds) cs ds := by
  have h1 := heap_first w z z' T
  have h2 := heap_second w z z' cs T
  have h3 := setRow_heap _ _ _ cs _ _ h1
  have h4 := setRow_heap _ _ _ ds _ _ h2
  refine ⟨by simp, below_setRow (below_setRow (((Below.refl _ _).alloc (Nat.le_refl _) _).alloc (by simp) _) (Nat.le_refl _) _) (by omega) _, fun i => ?_, fun i => cell_of_row _ _ _ _ _ _ h4⟩
  have h5 : ((((w.alloc (.cells z T)).alloc (.cells z' T)).setRow w.heap.size cs).setRow (w.heap.size + 1) ds).heap[w.heap.size]? = some (.cells cs T (0, 0)) := by
    rw [setRow_other _ _ _ _ (by omega)]; exact h3
  exact cell_of_row _ _ _ _ _ _ h5

end Go.Proofs.YtbcfmckhgjcakaaDoor
/- The document's Word, by its contract. -/
namespace Go.Proofs.YtbcfmckhgjcakaaDoor
open Go.RowKit

set_option maxHeartbeats 2000000 in
theorem refWord_any (cs : Array Value) (f : Nat → Bool) (w : World) (hcs : Bits cs f) :
    Calls Tryd.prog 51 #[.agg cs] w fun e w' => e = .returned (.int .u64 (wordOf f)) ∧ Below w.heap.size w w' := by
  have HC := Lib.hid hcs
  clear hcs
  have hfin : Hid (wordD f 0 64 = wordOf f) := (rfl : _ = _)
  go_enter Tryd.func51, Tryd.ntmps51
  go_wp2_with fail
  go_loopg [3, 4] 64 (fun g a i wr => g ≤ 64 ∧ i = .int .i64 ((g : Int) - 1) ∧ a = .int .u64 (wordD f g (64 - g)) ∧ w.alloc (.cells cs 91) = wr)
  case atStart => exact ⟨by omega, rfl, rfl, rfl⟩
  case round =>
    obtain ⟨hj, rfl, rfl, rfl⟩ := hrel
    by_cases h0 : gk = 0
    · subst h0
      have e := hfin.out
      rw [Nat.sub_zero, e]
      go_wp2_with fail
      go_ret
      exact ⟨rfl, (Below.refl _ _).alloc (Nat.le_refl _) _⟩
    · obtain ⟨k, rfl⟩ : ∃ k, gk = k + 1 := ⟨gk - 1, by omega⟩
      have hc := HC.out.cell (w := w) (t := 91) k (by omega)
      have hlt : wordD f (k + 1) (64 - (k + 1)) < 9223372036854775808 := by
        have h1 := wordD_lt f (64 - (k + 1)) (k + 1)
        have h2 : 2 ^ (64 - (k + 1)) ≤ 2 ^ 63 := Nat.pow_le_pow_right (by decide) (by omega)
        omega
      have hst : Hid (wordD f k (64 - k) = 2 * wordD f (k + 1) (64 - (k + 1)) + (f k).toNat) := by
        have e : 64 - k = (64 - (k + 1)) + 1 := by omega
        rw [e]; exact (rfl : _ = _)
      generalize wordD f (k + 1) (64 - (k + 1)) = a at *
      have ek : ((k + 1 : Nat) : Int) - 1 = (k : Int) := by omega
      rw [ek]
      cases hb : f k
      · rw [hb] at hc hst
        clear hfin
        go_wp2_with fail
        go_roundg k
        case rel => exact ⟨by omega, by go_num, by rw [hst.out]; go_num, rfl⟩
        case measure => omega
      · rw [hb] at hc hst
        clear hfin
        go_wp2_with fail
        go_roundg k
        case rel => exact ⟨by omega, by go_num, by rw [hst.out]; go_num, rfl⟩
        case measure => omega
end Go.Proofs.YtbcfmckhgjcakaaDoor
/- The document's Both, by its contract. -/
namespace Go.Proofs.YtbcfmckhgjcakaaDoor
open Go.RowKit

theorem both1 (a b k : Nat) : bothF 1 a b k = (a.testBit k || b.testBit k) := rfl
theorem both2 (a b k : Nat) : bothF 2 a b k = (a.testBit k && b.testBit k) := rfl
theorem both3 (a b k : Nat) : bothF 3 a b k = (a.testBit k && !b.testBit k) := rfl

end Go.Proofs.YtbcfmckhgjcakaaDoor
