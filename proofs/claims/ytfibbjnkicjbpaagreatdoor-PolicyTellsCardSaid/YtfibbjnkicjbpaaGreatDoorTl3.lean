/- Texts of the proof, merged: Base, LbPlain, LbBase, LbSet, LbBelow, PrBelow, StrInfo. -/
import Derived.Test.YtfibbjnkicjbpaaGreatDoorTl1
import Derived.Test.YtfibbjnkicjbpaaGreatDoorTl2
import Derived.Test.YtfibbjnkicjbpaaGreatDoorRows
import Derived.WalkKit
import Derived.WalkSpells
import Derived.WalkLawsBesides
import Derived.Lib.Hide
import Derived.Lib.SmallJoins
import Derived.RowKit
import Derived.Deep.LoopGhost
import Derived.BigQuiet
import Derived.StillTactics
import Derived.OwnWalk
import Derived.Laws.Rows
import Derived.Laws.Tables
import Derived.Shelf.GgClosure.Gives
import Derived.Laws.CopyOwn
import Derived.Deep.WholeRow
/- What the walks import; how an ending is spelt. -/
namespace Go.Proofs.YtfibbjnkicjbpaaGreatDoor
open Go.RowKit

theorem ret_bool {a b : Bool} (h : a = b) : Ending.returned (.bool a) = .returned (.bool b) := by rw [h]

theorem ret_int {k : IntKind} {a b : Int} (h : a = b) : Ending.returned (.int k a) = .returned (.int k b) := by rw [h]

theorem str_ret {a b : ByteArray} (h : a = b) : Ending.returned (.string a) = .returned (.string b) := by rw [h]
end Go.Proofs.YtfibbjnkicjbpaaGreatDoor
/- Plain facts about sets of compartments as numbers: no program. -/
namespace Go.Proofs.YtfibbjnkicjbpaaGreatDoor
open Go

/-- The number whose bits are f at j, j + 1, .. (m of them). -/
def wordD (f : Nat → Bool) : Nat → Nat → Nat
  | _, 0 => 0
  | j, m + 1 => 2 * wordD f (j + 1) m + (f j).toNat
theorem wordD_lt (f : Nat → Bool) : ∀ m j, wordD f j m < 2 ^ m
  | 0, _ => by simp [wordD]
  | m + 1, j => by
    have h := wordD_lt f m (j + 1)
    have hb : (f j).toNat ≤ 1 := Bool.toNat_le _
    rw [wordD, Nat.pow_succ]; omega
theorem wordD_bit (f : Nat → Bool) : ∀ m j i, (wordD f j m).testBit i = (decide (i < m) && f (j + i))
  | 0, j, i => by simp [wordD]
  | m + 1, j, 0 => by
    have hb : f j = true ∨ f j = false := by cases f j <;> simp
    rw [wordD, Nat.testBit_zero]
    rcases hb with h | h
    · rw [h]; simp [h]
    · rw [h]; simp [h]
  | m + 1, j, i + 1 => by
    have ih := wordD_bit f m (j + 1) i
    have hb : (f j).toNat ≤ 1 := Bool.toNat_le _
    rw [wordD, Nat.testBit_succ]
    have e : (2 * wordD f (j + 1) m + (f j).toNat) / 2 = wordD f (j + 1) m := by omega
    rw [e, ih]
    have e2 : j + 1 + i = j + (i + 1) := by omega
    rw [e2]
    simp
/-- The label of a list of 64 truths. -/
def wordOf (f : Nat → Bool) : Nat := wordD f 0 64
theorem wordOf_lt (f : Nat → Bool) : wordOf f < 18446744073709551616 := wordD_lt f 64 0
theorem wordOf_bit (f : Nat → Bool) (i : Nat) (h : i < 64) : (wordOf f).testBit i = f i := by
  unfold wordOf
  rw [wordD_bit, Nat.zero_add, decide_eq_true h, Bool.true_and]
theorem bit_hi (a i : Nat) (ha : a < 18446744073709551616) (h : 64 ≤ i) : a.testBit i = false := by
  apply Nat.testBit_lt_two_pow
  exact Nat.lt_of_lt_of_le ha (Nat.pow_le_pow_right (by decide : 2 > 0) h)
theorem word_ext {a b : Nat} (ha : a < 18446744073709551616) (hb : b < 18446744073709551616) (h : ∀ i, i < 64 → a.testBit i = b.testBit i) : a = b := by
  apply Nat.eq_of_testBit_eq
  intro i
  by_cases hi : i < 64
  · exact h i hi
  · rw [bit_hi a i ha (by omega), bit_hi b i hb (by omega)]
theorem wordOf_self (a : Nat) (ha : a < 18446744073709551616) : wordOf a.testBit = a :=
  word_ext (wordOf_lt _) ha fun i hi => wordOf_bit _ i hi
/-- What is in either, in both, in the one and not in the other. -/
def bothF (how : Nat) (a b : Nat) (i : Nat) : Bool := if how = 1 then a.testBit i || b.testBit i else if how = 2 then a.testBit i && b.testBit i else a.testBit i && !b.testBit i
theorem both_or (a b : Nat) (ha : a < 18446744073709551616) (hb : b < 18446744073709551616) : wordOf (bothF 1 a b) = a ||| b :=
  word_ext (wordOf_lt _) (Nat.or_lt_two_pow (n := 64) ha hb) fun i hi => by rw [wordOf_bit _ i hi, Nat.testBit_or]; rfl
theorem both_and (a b : Nat) (ha : a < 18446744073709551616) : wordOf (bothF 2 a b) = a &&& b :=
  word_ext (wordOf_lt _) (Nat.lt_of_le_of_lt Nat.and_le_left ha) fun i hi => by rw [wordOf_bit _ i hi, Nat.testBit_and]; rfl
/-- Is each compartment of a one of b's? -/
def belowB (a b : Nat) : Bool := (List.range 64).all fun i => !a.testBit i || b.testBit i
theorem below_iff (a b : Nat) : belowB a b = true ↔ ∀ i, i < 64 → a.testBit i = true → b.testBit i = true := by
  unfold belowB
  rw [List.all_eq_true]
  constructor
  · intro h i hi ha
    have := h i (List.mem_range.2 hi)
    rw [ha] at this; simpa using this
  · intro h i hi
    cases ha : a.testBit i with
    | false => rfl
    | true => rw [h i (List.mem_range.1 hi) ha]; rfl
/-- The compartments below k, rising. -/
def listTo (a k : Nat) : List Nat := (List.range k).filter fun i => a.testBit i
theorem listTo_step (a k : Nat) : listTo a (k + 1) = if a.testBit k then listTo a k ++ [k] else listTo a k := by
  unfold listTo
  rw [List.range_succ, List.filter_append]
  cases h : a.testBit k <;> simp [h]
theorem listTo_len (a k : Nat) : (listTo a k).length ≤ k := by
  unfold listTo
  exact Nat.le_trans (List.length_filter_le _ _) (by simp)
end Go.Proofs.YtfibbjnkicjbpaaGreatDoor
/- What the walks over labels import. -/
namespace Go.Proofs.YtfibbjnkicjbpaaGreatDoor
open Go.RowKit

/-- Sixty-four truths as cells. -/
structure Bits (cs : Array Value) (f : Nat → Bool) : Prop where
  size : cs.size = 64
  get : ∀ i, i < 64 → cs[i]? = some (.bool (f i))
theorem Bits.cell {w : World} {cs : Array Value} {f : Nat → Bool} {t : TypeId} (h : Bits cs f) (i : Nat) (hi : i < 64) : (w.alloc (.cells cs t)).cell? ⟨w.heap.size, i, none⟩ = some (.bool (f i)) := by
  rw [World.cell?_alloc_mark]; exact h.get i hi
end Go.Proofs.YtfibbjnkicjbpaaGreatDoor
/- The document's Set, by its contract. -/
namespace Go.Proofs.YtfibbjnkicjbpaaGreatDoor
open Go.RowKit

theorem div_pow_step (a k : Nat) : a / 2 ^ (k + 1) = a / 2 ^ k / 2 := by rw [Nat.pow_succ, Nat.div_div_eq_div_mul]
theorem bit_div (a k : Nat) : a.testBit k = (a / 2 ^ k % 2 == 1) := by
  rw [Nat.testBit_eq_decide_div_mod_eq]
  rw [Bool.eq_iff_iff]; simp
theorem bools_one {cs : Array Value} {f : Nat → Bool} (h : Bits cs f) : cs.all (·.oneCell') = true := by
  rw [Array.all_eq_true]
  intro i hi
  have h1 := h.get i (by have := h.size; omega)
  rw [Array.getElem?_eq_getElem hi, Option.some.injEq] at h1
  rw [h1]; rfl
end Go.Proofs.YtfibbjnkicjbpaaGreatDoor
/- The document's Below, by its contract. -/
namespace Go.Proofs.YtfibbjnkicjbpaaGreatDoor
open Go.RowKit

theorem below_no (a b k : Nat) (hk : k < 64) (h1 : a.testBit k = true) (h2 : b.testBit k = false) : belowB a b = false := by
  cases h : belowB a b with
  | false => rfl
  | true => have := (below_iff a b).1 h k hk h1; rw [h2] at this; cases this
theorem below_yes (a b : Nat) (h : ∀ i, i < 64 → (a.testBit i && !b.testBit i) = false) : belowB a b = true := by
  rw [below_iff]
  intro i hi ha
  have := h i hi
  rw [ha] at this
  simpa using this

/-- Two arrays of the call's own, written whole one behind the other. -/
theorem heap_first (w : World) (z z' : Array Value) (T : TypeId) : ((w.alloc (.cells z T)).alloc (.cells z' T)).heap[w.heap.size]? = some (.cells z T (0, 0)) := by
  rw [heap_alloc_old _ _ (by simp)]; exact heap_alloc_new _ _
theorem heap_second (w : World) (z z' cs : Array Value) (T : TypeId) : (((w.alloc (.cells z T)).alloc (.cells z' T)).setRow w.heap.size cs).heap[w.heap.size + 1]? = some (.cells z' T (0, 0)) := by
  rw [setRow_other _ _ _ _ (by omega)]
  have := heap_alloc_new (w.alloc (.cells z T)) (.cells z' T)
  simpa using this
def TwoArr (w W : World) (cs ds : Array Value) : Prop := W.heap.size = w.heap.size + 2 ∧ Below w.heap.size w W ∧ (∀ i, W.cell? ⟨w.heap.size, i, none⟩ = cs[i]?) ∧ ∀ i, W.cell? ⟨w.heap.size + 1, i, none⟩ = ds[i]?
theorem twoArr (w : World) (z z' cs ds : Array Value) (T : TypeId) : TwoArr w ((((w.alloc (.cells z T)).alloc (.cells z' T)).setRow w.heap.size cs).setRow (w.heap.size + 1) ds) cs ds := by
  have h1 := heap_first w z z' T
  have h2 := heap_second w z z' cs T
  have h3 := setRow_heap _ _ _ cs _ _ h1
  have h4 := setRow_heap _ _ _ ds _ _ h2
  refine ⟨by simp, below_setRow (below_setRow (((Below.refl _ _).alloc (Nat.le_refl _) _).alloc (by simp) _) (Nat.le_refl _) _) (by omega) _, fun i => ?_, fun i => cell_of_row _ _ _ _ _ _ h4⟩
  have h5 : ((((w.alloc (.cells z T)).alloc (.cells z' T)).setRow w.heap.size cs).setRow (w.heap.size + 1) ds).heap[w.heap.size]? = some (.cells cs T (0, 0)) := by
    rw [setRow_other _ _ _ _ (by omega)]; exact h3
  exact cell_of_row _ _ _ _ _ _ h5

end Go.Proofs.YtfibbjnkicjbpaaGreatDoor
/- The document's Below of chapter 3, by its contract. -/
namespace Go.Proofs.YtfibbjnkicjbpaaGreatDoor
open Go Go.RowKit

theorem bit_and (a k : Nat) (ha : a < 18446744073709551616) : bits BinOp.and .u64 ((a : Int) / 2 ^ k) 1 = if a.testBit k then 1 else 0 := by
  have h := u64_and_nat (a / 2 ^ k) 1 (Nat.lt_of_le_of_lt (Nat.div_le_self _ _) ha) (by decide)
  have e : ((a / 2 ^ k : Nat) : Int) = (a : Int) / 2 ^ k := by push_cast; rfl
  rw [e] at h
  have h2 : bits BinOp.and .u64 ((a : Int) / 2 ^ k) 1 = ((a / 2 ^ k &&& 1 : Nat) : Int) := h
  rw [h2, Nat.and_one_is_mod, bit_div]
  rcases Nat.mod_two_eq_zero_or_one (a / 2 ^ k) with h | h <;> rw [h] <;> rfl
set_option maxRecDepth 100000 in
theorem prBelow_any (a b : Nat) (w : World) (ha : a < 18446744073709551616) (hb : b < 18446744073709551616) :
    Calls Tryz.prog 41 #[.int .u64 a, .int .u64 b] w fun e w' => e = .returned (.bool (belowB a b)) ∧ w = w' := by
  go_enter Tryz.func41, Tryz.ntmps41
  go_wp2_with fail
  go_loopg [5] 64 (fun g vi wr => ∃ k : Nat, k + g = 64 ∧ vi = .int .i64 k ∧ wr = w ∧ Hid (∀ i, i < k → (a.testBit i && !b.testBit i) = false))
  case atStart => exact ⟨0, by omega, rfl, rfl, fun i hi => absurd hi (Nat.not_lt_zero _)⟩
  case round =>
    obtain ⟨k, hk, rfl, rfl, hno⟩ := hrel
    have hk0 : (0 : Int) ≤ (k : Int) := by omega
    by_cases hlt : k < 64
    · have hkI : (k : Int) < 64 := by omega
      have hA := bit_and a k ha
      have hB := bit_and b k hb
      cases h1 : a.testBit k
      · rw [h1] at hA
        have hn : Hid (∀ i, i < k + 1 → (a.testBit i && !b.testBit i) = false) := fun i hi => by
          rcases Nat.lt_or_eq_of_le (Nat.le_of_lt_succ hi) with h | rfl
          · exact hno.out i h
          · rw [h1]; rfl
        simp only [Bool.false_eq_true, if_false] at hA
        clear hB hno h1
        go_wp2_with fail
        go_roundg (gk - 1)
        case rel => exact ⟨k + 1, by omega, by go_num, rfl, hn⟩
        case measure => omega
      · rw [h1] at hA
        cases h2 : b.testBit k
        · rw [h2] at hB
          have hf := below_no a b k hlt h1 h2
          simp only [Bool.false_eq_true, if_false, if_true] at hA hB
          have HF := Lib.hid hf
          clear hno h1 h2 hf
          go_wp2_with fail
          go_ret
          exact ⟨by rw [HF.out]; rfl, rfl⟩
        · rw [h2] at hB
          have hn : Hid (∀ i, i < k + 1 → (a.testBit i && !b.testBit i) = false) := fun i hi => by
            rcases Nat.lt_or_eq_of_le (Nat.le_of_lt_succ hi) with h | rfl
            · exact hno.out i h
            · rw [h1, h2]; rfl
          simp only [if_true] at hA hB
          clear hno h1 h2
          go_wp2_with fail
          go_roundg (gk - 1)
          case rel => exact ⟨k + 1, by omega, by go_num, rfl, hn⟩
          case measure => omega
    · obtain rfl : k = 64 := by omega
      have hf := below_yes a b fun i hi => hno.out i hi
      have HF := Lib.hid hf
      clear hno hf
      go_wp2_with fail
      go_ret
      exact ⟨by rw [HF.out]; rfl, rfl⟩
end Go.Proofs.YtfibbjnkicjbpaaGreatDoor
/- A string's element facts. -/
namespace Go.Proofs.YtfibbjnkicjbpaaGreatDoor
open Go Go.RowKit
theorem strInfo : (Tryz.prog.info? 9).map (fun i => (i.zero, i.size, i.bytes)) = some (some (.string ⟨#[]⟩), 1, 16) := by kernel_rfl
end Go.Proofs.YtfibbjnkicjbpaaGreatDoor
