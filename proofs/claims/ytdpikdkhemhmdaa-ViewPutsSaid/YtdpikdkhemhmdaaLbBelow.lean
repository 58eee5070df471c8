/- The document's Below, by its contract. -/
import Derived.Test.YtdpikdkhemhmdaaLbSet
import Derived.Deep.WholeRow
namespace Go.Proofs.Ytdpikdkhemhmdaa
open Go.RowKit

theorem below_no (a b k : Nat) (hk : k < 64) (h1 : a.testBit k = true) (h2 : b.testBit k = false) : belowB a b = false := by
  cases h : belowB a b with
  | false => rfl
  | true => have := (below_iff a b).1 h k hk h1; rw [h2] at this; cases this
theorem below_yes (a b : Nat) (h : ∀ i, i < 64 → (a.testBit i && !b.testBit i) = false) : belowB a b = true := by
  rw [below_iff]
  intro i hi ha
  have := h i hi
  rw [ha] at this
  simpa using this

/-- Two arrays of the call's own, written whole one behind the other. -/
theorem heap_first (w : World) (z z' : Array Value) (T : TypeId) : ((w.alloc (.cells z T)).alloc (.cells z' T)).heap[w.heap.size]? = some (.cells z T (0, 0)) := by
  rw [heap_alloc_old _ _ (by simp)]; exact heap_alloc_new _ _
theorem heap_second (w : World) (z z' cs : Array Value) (T : TypeId) : (((w.alloc (.cells z T)).alloc (.cells z' T)).setRow w.heap.size cs).heap[w.heap.size + 1]? = some (.cells z' T (0, 0)) := by
  rw [setRow_other _ _ _ _ (by omega)]
  have := heap_alloc_new (w.alloc (.cells z T)) (.cells z' T)
  simpa using this
def TwoArr (w W : World) (cs ds : Array Value) : Prop := W.heap.size = w.heap.size + 2 ∧ Below w.heap.size w W ∧ (∀ i, W.cell? ⟨w.heap.size, i, none⟩ = cs[i]?) ∧ ∀ i, W.cell? ⟨w.heap.size + 1, i, none⟩ = ds[i]?
theorem twoArr (w : World) (z z' cs ds : Array Value) (T : TypeId) : TwoArr w ((((w.alloc (.cells z T)).alloc (.cells z' T)).setRow w.heap.size cs).setRow (w.heap.size + 1) ds) cs ds := by
  have h1 := heap_first w z z' T
  have h2 := heap_second w z z' cs T
  have h3 := setRow_heap _ _ _ cs _ _ h1
  have h4 := setRow_heap _ _ _ ds _ _ h2
  refine ⟨by simp, below_setRow (below_setRow (((Below.refl _ _).alloc (Nat.le_refl _) _).alloc (by simp) _) (Nat.le_refl _) _) (by omega) _, fun i => ?_, fun i => cell_of_row _ _ _ _ _ _ h4⟩
  have h5 : ((((w.alloc (.cells z T)).alloc (.cells z' T)).setRow w.heap.size cs).setRow (w.heap.size + 1) ds).heap[w.heap.size]? = some (.cells cs T (0, 0)) := by
    rw [setRow_other _ _ _ _ (by omega)]; exact h3
  exact cell_of_row _ _ _ _ _ _ h5

set_option maxRecDepth 100000 in
set_option maxHeartbeats 4000000 in
theorem refBelow_any (a b : Nat) (w : World) (ha : a < 18446744073709551616) (hb : b < 18446744073709551616) :
    Calls Try.prog 35 #[.int .u64 a, .int .u64 b] w fun e w' => e = .returned (.bool (belowB a b)) ∧ Below w.heap.size w w' := by
  have cS := refSet_any a w ha
  have cT := fun W => refSet_any b W hb
  have hno := Lib.hid (below_no a b)
  have hyes := Lib.hid (below_yes a b)
  generalize belowB a b = res at *
  go_enter Try.func35, Try.ntmps35
  go_wp2_with fail
  refine cS.mono ?_
  rintro e w1 ⟨cs, rfl, hB, hb1⟩
  go_wp2_with fail
  refine (cT w1).mono ?_
  rintro e w2 ⟨ds, rfl, hD, hb2⟩
  have hbw2 := hb1.trans (hb2.mono hb1.size)
  have hi1 := arrInfo
  rw [← hB.size] at hi1
  have hj1 := arrInfo
  rw [← hD.size] at hj1
  have hone := bools_one hB
  have hone2 := bools_one hD
  have hsz := hB.size
  have hsz2 := hD.size
  have HB := Lib.hid hB
  have HD := Lib.hid hD
  clear hB hD cS cT hb1 hb2
  go_wp2_with (first
    | (refine wpList_store_row rfl _ _ _ rfl w2.heap.size cs rfl rfl _ _ (heap_first _ _ _ _) hi1 (by rw [hsz]; rfl) hone ?_)
    | (refine wpList_store_row rfl _ _ _ rfl (w2.heap.size + 1) ds rfl rfl _ _ (heap_second _ _ _ _ _) hj1 (by rw [hsz2]; rfl) hone2 ?_))
  generalize hW : World.setRow (World.setRow _ w2.heap.size cs) (w2.heap.size + 1) ds = w3
  have hT : TwoArr w2 w3 cs ds := by rw [← hW]; exact twoArr _ _ _ _ _ _
  obtain ⟨_, hb3, hcB, hcD⟩ := hT
  have hbs := hbw2.trans (hb3.mono hbw2.size)
  have HCB : Hid (∀ i, i < 64 → w3.cell? ⟨w2.heap.size, i, none⟩ = some (.bool (a.testBit i))) := fun i h => (hcB i).trans (HB.out.get i h)
  have HCD : Hid (∀ i, i < 64 → w3.cell? ⟨w2.heap.size + 1, i, none⟩ = some (.bool (b.testBit i))) := fun i h => (hcD i).trans (HD.out.get i h)
  clear hi1 hj1 hone hone2 hsz hsz2 hW hcB hcD hbw2 hb3 HB HD
  generalize w2.heap.size = B at *
  go_wp2_with fail
  go_loopg [7] 64 (fun g i wr => ∃ k : Nat, k + g = 64 ∧ i = .int .i64 k ∧ w3 = wr ∧ Hid (∀ i, i < k → (a.testBit i && !b.testBit i) = false))
  case atStart => exact ⟨0, rfl, rfl, rfl, fun i h => absurd h (Nat.not_lt_zero _)⟩
  case round =>
    obtain ⟨k, hk, rfl, rfl, hd⟩ := hrel
    by_cases h0 : k < 64
    · have hc := HCB.out k h0
      have he := HCD.out k h0
      have hno' := Lib.hid (hno.out k h0)
      have hnext : Hid (∀ c, (a.testBit k && !b.testBit k) = c → c = false → ∀ i, i < k + 1 → (a.testBit i && !b.testBit i) = false) := by
        intro c h1 h2 i hi
        by_cases e : i = k
        · subst e; exact h1.trans h2
        · exact hd.out i (by omega)
      have hkk : (0 : Int) ≤ (k : Int) := Int.natCast_nonneg _
      clear hno hyes hd HCB HCD
      generalize a.testBit k = x at *
      generalize b.testBit k = y at *
      cases x
      · have HX := Lib.hid (hnext.out _ rfl rfl)
        clear hnext hno'
        go_wp2_with fail
        go_roundg (gk - 1)
        case rel => exact ⟨k + 1, by omega, by go_num, rfl, HX⟩
        case measure => omega
      · cases y
        · have e := hno'.out rfl rfl
          subst e
          clear hnext hno'
          go_wp2_with fail
          go_ret
          exact ⟨rfl, hbs⟩
        · have HX := Lib.hid (hnext.out _ rfl rfl)
          clear hnext hno'
          go_wp2_with fail
          go_roundg (gk - 1)
          case rel => exact ⟨k + 1, by omega, by go_num, rfl, HX⟩
          case measure => omega
    · obtain rfl : k = 64 := by omega
      have e := hyes.out hd.out
      subst e
      clear hno hyes hd HCB HCD
      go_wp2_with fail
      go_ret
      exact ⟨rfl, hbs⟩
end Go.Proofs.Ytdpikdkhemhmdaa
