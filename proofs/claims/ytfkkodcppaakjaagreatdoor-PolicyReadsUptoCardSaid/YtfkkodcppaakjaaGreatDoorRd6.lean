/- Texts of the proof, merged: Base, LbBase, LbSet, LbBelow, LbWord, LbBoth, LbOf, LbOps. -/
import Derived.Test.YtfkkodcppaakjaaGreatDoorRd1
import Derived.Test.YtfkkodcppaakjaaGreatDoorRd2
import Derived.Test.YtfkkodcppaakjaaGreatDoorRd3
import Derived.Test.YtfkkodcppaakjaaGreatDoorRd5
import Derived.Test.YtfkkodcppaakjaaGreatDoorRows
import Derived.WalkKit
import Derived.WalkSpells
import Derived.WalkLawsBesides
import Derived.Lib.Hide
import Derived.Lib.SmallJoins
import Derived.Deep.LoopGhost
import Derived.BigQuiet
import Derived.StillTactics
import Derived.OwnWalk
import Derived.Laws.Rows
import Derived.Laws.Tables
import Derived.Shelf.GgClosure.Gives
import Derived.Laws.CopyOwn
import Derived.Deep.WholeRow
import Derived.Deep.DeepCutAuto
import Derived.Laws.BitsAllLaws
/- What the walks import; how an ending is spelt. -/
namespace Go.Proofs.YtfkkodcppaakjaaGreatDoor
open Go.RowKit

theorem ret_bool {a b : Bool} (h : a = b) : Ending.returned (.bool a) = .returned (.bool b) := by rw [h]

theorem ret_int {k : IntKind} {a b : Int} (h : a = b) : Ending.returned (.int k a) = .returned (.int k b) := by rw [h]

theorem str_ret {a b : ByteArray} (h : a = b) : Ending.returned (.string a) = .returned (.string b) := by rw [h]
end Go.Proofs.YtfkkodcppaakjaaGreatDoor
/- What the walks over labels import. -/
namespace Go.Proofs.YtfkkodcppaakjaaGreatDoor
open Go.RowKit

/-- Sixty-four truths as cells. -/
structure Bits (cs : Array Value) (f : Nat → Bool) : Prop where
  size : cs.size = 64
  get : ∀ i, i < 64 → cs[i]? = some (.bool (f i))
theorem Bits.cell {w : World} {cs : Array Value} {f : Nat → Bool} {t : TypeId} (h : Bits cs f) (i : Nat) (hi : i < 64) : (w.alloc (.cells cs t)).cell? ⟨w.heap.size, i, none⟩ = some (.bool (f i)) := by
  rw [World.cell?_alloc_mark]; exact h.get i hi
end Go.Proofs.YtfkkodcppaakjaaGreatDoor
/- The document's Set, by its contract. -/
namespace Go.Proofs.YtfkkodcppaakjaaGreatDoor
open Go.RowKit

theorem div_pow_step (a k : Nat) : a / 2 ^ (k + 1) = a / 2 ^ k / 2 := by rw [Nat.pow_succ, Nat.div_div_eq_div_mul]
theorem bit_div (a k : Nat) : a.testBit k = (a / 2 ^ k % 2 == 1) := by
  rw [Nat.testBit_eq_decide_div_mod_eq]
  rw [Bool.eq_iff_iff]; simp
theorem bools_one {cs : Array Value} {f : Nat → Bool} (h : Bits cs f) : cs.all (·.oneCell') = true := by
  rw [Array.all_eq_true]
  intro i hi
  have h1 := h.get i (by have := h.size; omega)
  rw [Array.getElem?_eq_getElem hi, Option.some.injEq] at h1
  rw [h1]; rfl
end Go.Proofs.YtfkkodcppaakjaaGreatDoor
/- The document's Below, by its contract. -/
namespace Go.Proofs.YtfkkodcppaakjaaGreatDoor
open Go.RowKit

theorem below_no (a b k : Nat) (hk : k < 64) (h1 : a.testBit k = true) (h2 : b.testBit k = false) : belowB a b = false := by
  cases h : belowB a b with
  | false => rfl
  | true => have := (below_iff a b).1 h k hk h1; rw [h2] at this; cases this
theorem below_yes (a b : Nat) (h : ∀ i, i < 64 → (a.testBit i && !b.testBit i) = false) : belowB a b = true := by
  rw [below_iff]
  intro i hi ha
  have := h i hi
  rw [ha] at this
  simpa using this

/-- Two arrays of the call's own, written whole one behind the other. -/
theorem heap_first (w : World) (z z' : Array Value) (T : TypeId) : ((w.alloc (.cells z T)).alloc (.cells z' T)).heap[w.heap.size]? = some (.cells z T (0, 0)) := by
  rw [heap_alloc_old _ _ (by simp)]; exact heap_alloc_new _ _
theorem heap_second (w : World) (z z' cs : Array Value) (T : TypeId) : (((w.alloc (.cells z T)).alloc (.cells z' T)).setRow w.heap.size cs).heap[w.heap.size + 1]? = some (.cells z' T (0, 0)) := by
  rw [setRow_other _ _ _ _ (by omega)]
  have := heap_alloc_new (w.alloc (.cells z T)) (.cells z' T)
  simpa using this
def TwoArr (w W : World) (cs ds : Array Value) : Prop := W.heap.size = w.heap.size + 2 ∧ Below w.heap.size w W ∧ (∀ i, W.cell? ⟨w.heap.size, i, none⟩ = cs[i]?) ∧ ∀ i, W.cell? ⟨w.heap.size + 1, i, none⟩ = ds[i]?
theorem twoArr (w : World) (z z' cs ds : Array Value) (T : TypeId) : TwoArr w ((((w.alloc (.cells z T)).alloc (.cells z' T)).setRow w.heap.size cs).setRow (w.heap.size + 1) ds) cs ds := by
  have h1 := heap_first w z z' T
  have h2 := heap_second w z z' cs T
  have h3 := setRow_heap _ _ _ cs _ _ h1
  have h4 := setRow_heap _ _ _ ds _ _ h2
  refine ⟨by simp, below_setRow (below_setRow (((Below.refl _ _).alloc (Nat.le_refl _) _).alloc (by simp) _) (Nat.le_refl _) _) (by omega) _, fun i => ?_, fun i => cell_of_row _ _ _ _ _ _ h4⟩
  have h5 : ((((w.alloc (.cells z T)).alloc (.cells z' T)).setRow w.heap.size cs).setRow (w.heap.size + 1) ds).heap[w.heap.size]? = some (.cells cs T (0, 0)) := by
    rw [setRow_other _ _ _ _ (by omega)]; exact h3
  exact cell_of_row _ _ _ _ _ _ h5

end Go.Proofs.YtfkkodcppaakjaaGreatDoor
/- The document's Word, by its contract. -/
namespace Go.Proofs.YtfkkodcppaakjaaGreatDoor
open Go.RowKit

end Go.Proofs.YtfkkodcppaakjaaGreatDoor
/- The document's Both, by its contract. -/
namespace Go.Proofs.YtfkkodcppaakjaaGreatDoor
open Go.RowKit

theorem both1 (a b k : Nat) : bothF 1 a b k = (a.testBit k || b.testBit k) := rfl
theorem both2 (a b k : Nat) : bothF 2 a b k = (a.testBit k && b.testBit k) := rfl
theorem both3 (a b k : Nat) : bothF 3 a b k = (a.testBit k && !b.testBit k) := rfl

end Go.Proofs.YtfkkodcppaakjaaGreatDoor
/- The document's Of, by its contract; rows of numbers; lists of numbers compared. -/
namespace Go.Proofs.YtfkkodcppaakjaaGreatDoor
open Go.RowKit

/-- The slice at p holds these numbers. -/
def NumRow (k : IntKind) (w : World) (p : Option Addr) (xs : List Int) : Prop := ∀ i (h : i < xs.length), ∃ b off, p = some ⟨b, off, none⟩ ∧ b < w.heap.size ∧ w.cell? ⟨b, off + i, none⟩ = some (.int k xs[i])
theorem NumRow.at {kd : IntKind} {w : World} {p : Option Addr} {xs : List Int} (h : NumRow kd w p xs) (i : Nat) (hi : i < xs.length) : ∃ b off, p = some ⟨b, off, none⟩ ∧ b < w.heap.size ∧ ∀ W, Below w.heap.size w W → W.cell? ⟨b, off + i, none⟩ = some (.int kd xs[i]) := by
  obtain ⟨b, off, e, hlt, hc⟩ := h i hi
  exact ⟨b, off, e, hlt, fun W hb => (hb.cell (p := ⟨b, off + i, none⟩) hlt).trans hc⟩
theorem NumRow.later {kd : IntKind} {w W : World} {p : Option Addr} {xs : List Int} (h : NumRow kd w p xs) (hb : Below w.heap.size w W) : NumRow kd W p xs := fun i hi => by
  obtain ⟨b, off, e, hlt, hc⟩ := h i hi
  exact ⟨b, off, e, Nat.lt_of_lt_of_le hlt hb.size, (hb.cell (p := ⟨b, off + i, none⟩) hlt).trans hc⟩

def ofOk (xs : List Int) : Bool := xs.all fun x => decide (0 ≤ x) && decide (x ≤ 63)
def ofF (xs : List Int) (i : Nat) : Bool := xs.contains (i : Int)
def ofW (xs : List Int) : Nat := if ofOk xs then wordOf (ofF xs) else 0
def ofE (xs : List Int) : Int := if ofOk xs then 0 else 1
theorem of_bad (xs : List Int) (k : Nat) (h : k < xs.length) (hx : xs[k] < 0 ∨ 63 < xs[k]) : ofW xs = 0 ∧ ofE xs = 1 := by
  have e : ofOk xs = false := by
    unfold ofOk
    rw [List.all_eq_false]
    refine ⟨xs[k], List.getElem_mem h, ?_⟩
    simp; omega
  unfold ofW ofE; rw [e]; exact ⟨rfl, rfl⟩
theorem of_good (xs : List Int) (h : ∀ (k : Nat) (hk : k < xs.length), 0 ≤ xs[k] ∧ xs[k] ≤ 63) : ofW xs = wordOf (ofF xs) ∧ ofE xs = 0 := by
  have e : ofOk xs = true := by
    unfold ofOk
    rw [List.all_eq_true]
    intro x hx
    obtain ⟨k, hk, rfl⟩ := List.getElem_of_mem hx
    have := h k hk
    simp [this.1, this.2]
  unfold ofW ofE; rw [e]; exact ⟨rfl, rfl⟩
theorem ofF_take (xs : List Int) (k m i : Nat) (h : k < xs.length) (hm : xs[k] = (m : Int)) : ofF (xs.take (k + 1)) i = (ofF (xs.take k) i || decide (i = m)) := by
  unfold ofF
  rw [List.take_succ_eq_append_getElem h, List.contains_append, hm]
  congr 1
  rw [Bool.eq_iff_iff]; simp; omega
theorem zeros_at (i : Nat) (h : i < 64) : (Array.replicate 64 (Value.bool false))[i]? = some (.bool false) := by
  rw [Array.getElem?_replicate, if_pos h]
theorem ofF_all (xs : List Int) (n : Nat) (h : xs.length = n) : ofF (xs.take n) = ofF xs := by rw [List.take_of_length_le (by omega)]

end Go.Proofs.YtfkkodcppaakjaaGreatDoor
/- label's own words on two labels, by contract: the world stays as it is. -/
namespace Go.Proofs.YtfkkodcppaakjaaGreatDoor
open Go.RowKit

/-- What is in a and not in b. -/
def lessN (a b : Nat) : Nat := a &&& (18446744073709551615 - b)
theorem less_bit (a b : Nat) (hb : b < 18446744073709551616) (i : Nat) (hi : i < 64) : (lessN a b).testBit i = (a.testBit i && !b.testBit i) := by
  have e : 18446744073709551615 - b = 2 ^ 64 - (b + 1) := by omega
  unfold lessN
  rw [Nat.testBit_and, e, Nat.testBit_two_pow_sub_succ hb i, decide_eq_true hi, Bool.true_and]
theorem less_lt (a b : Nat) (ha : a < 18446744073709551616) : lessN a b < 18446744073709551616 := Nat.lt_of_le_of_lt Nat.and_le_left ha
theorem both_less (a b : Nat) (ha : a < 18446744073709551616) (hb : b < 18446744073709551616) : wordOf (bothF 3 a b) = lessN a b :=
  word_ext (wordOf_lt _) (less_lt a b ha) fun i hi => by rw [wordOf_bit _ i hi, less_bit a b hb i hi]; rfl
theorem less_zero (a b : Nat) (ha : a < 18446744073709551616) (hb : b < 18446744073709551616) : (((lessN a b : Nat) : Int) == 0) = belowB a b := by
  rw [Bool.eq_iff_iff, below_iff, beq_iff_eq]
  constructor
  · intro h i hi hai
    have h0 : lessN a b = 0 := by omega
    have := less_bit a b hb i hi
    rw [h0, hai, Nat.zero_testBit] at this
    cases hbi : b.testBit i with
    | true => rfl
    | false => rw [hbi] at this; cases this
  · intro h
    have h0 : lessN a b = 0 := word_ext (less_lt a b ha) (by decide) fun i hi => by
      rw [less_bit a b hb i hi, Nat.zero_testBit]
      cases hai : a.testBit i with
      | false => rfl
      | true => rw [h i hi hai]; rfl
    rw [h0]; rfl
theorem or_lt (a b : Nat) (ha : a < 18446744073709551616) (hb : b < 18446744073709551616) : a ||| b < 18446744073709551616 := Nat.or_lt_two_pow (n := 64) ha hb
theorem and_lt (a b : Nat) (ha : a < 18446744073709551616) : a &&& b < 18446744073709551616 := Nat.lt_of_le_of_lt Nat.and_le_left ha

theorem less_any (a b : Nat) (w : World) (ha : a < 18446744073709551616) (hb : b < 18446744073709551616) :
    Calls Tryz.prog 169 #[.int .u64 a, .int .u64 b] w fun e w' => e = .returned (.int .u64 (lessN a b : Nat)) ∧ w = w' := by
  have H := Lib.hid (u64_andNot_nat a b ha hb)
  go_enter Tryz.func169, Tryz.ntmps169
  go_wp2
  go_ret
  exact ⟨ret_int H.out, rfl⟩
theorem below_any (a b : Nat) (w : World) (ha : a < 18446744073709551616) (hb : b < 18446744073709551616) :
    Calls Tryz.prog 136 #[.int .u64 a, .int .u64 b] w fun e w' => e = .returned (.bool (belowB a b)) ∧ w = w' := by
  have cL := less_any a b w ha hb
  have H := Lib.hid (less_zero a b ha hb)
  go_enter Tryz.func136, Tryz.ntmps136
  go_wp2_with (go_at_call 169; refine cL.mono ?_; rintro e w' ⟨rfl, rfl⟩)
  go_ret
  exact ⟨ret_bool H.out, rfl⟩
end Go.Proofs.YtfkkodcppaakjaaGreatDoor
