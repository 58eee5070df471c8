/- Plain facts about sets of compartments as numbers: no program. -/
import Derived.RowKit
namespace Go.Proofs.Ytdpikdkhemhmdaa
open Go

/-- The number whose bits are f at j, j + 1, .. (m of them). -/
def wordD (f : Nat → Bool) : Nat → Nat → Nat
  | _, 0 => 0
  | j, m + 1 => 2 * wordD f (j + 1) m + (f j).toNat
theorem wordD_lt (f : Nat → Bool) : ∀ m j, wordD f j m < 2 ^ m
  | 0, _ => by simp [wordD]
  | m + 1, j => by
    have h := wordD_lt f m (j + 1)
    have hb : (f j).toNat ≤ 1 := Bool.toNat_le _
    rw [wordD, Nat.pow_succ]; omega
theorem wordD_bit (f : Nat → Bool) : ∀ m j i, (wordD f j m).testBit i = (decide (i < m) && f (j + i))
  | 0, j, i => by simp [wordD]
  | m + 1, j, 0 => by
    have hb : f j = true ∨ f j = false := by cases f j <;> simp
    rw [wordD, Nat.testBit_zero]
    rcases hb with h | h
    · rw [h]; simp [h]
    · rw [h]; simp [h]
  | m + 1, j, i + 1 => by
    have ih := wordD_bit f m (j + 1) i
    have hb : (f j).toNat ≤ 1 := Bool.toNat_le _
    rw [wordD, Nat.testBit_succ]
    have e : (2 * wordD f (j + 1) m + (f j).toNat) / 2 = wordD f (j + 1) m := by omega
    rw [e, ih]
    have e2 : j + 1 + i = j + (i + 1) := by omega
    rw [e2]
    simp
/-- The label of a list of 64 truths. -/
def wordOf (f : Nat → Bool) : Nat := wordD f 0 64
theorem wordOf_lt (f : Nat → Bool) : wordOf f < 18446744073709551616 := wordD_lt f 64 0
theorem wordOf_bit (f : Nat → Bool) (i : Nat) (h : i < 64) : (wordOf f).testBit i = f i := by
  unfold wordOf
  rw [wordD_bit, Nat.zero_add, decide_eq_true h, Bool.true_and]
theorem bit_hi (a i : Nat) (ha : a < 18446744073709551616) (h : 64 ≤ i) : a.testBit i = false := by
  apply Nat.testBit_lt_two_pow
  exact Nat.lt_of_lt_of_le ha (Nat.pow_le_pow_right (by decide : 2 > 0) h)
theorem word_ext {a b : Nat} (ha : a < 18446744073709551616) (hb : b < 18446744073709551616) (h : ∀ i, i < 64 → a.testBit i = b.testBit i) : a = b := by
  apply Nat.eq_of_testBit_eq
  intro i
  by_cases hi : i < 64
  · exact h i hi
  · rw [bit_hi a i ha (by omega), bit_hi b i hb (by omega)]
theorem wordOf_self (a : Nat) (ha : a < 18446744073709551616) : wordOf a.testBit = a :=
  word_ext (wordOf_lt _) ha fun i hi => wordOf_bit _ i hi
/-- What is in either, in both, in the one and not in the other. -/
def bothF (how : Nat) (a b : Nat) (i : Nat) : Bool := if how = 1 then a.testBit i || b.testBit i else if how = 2 then a.testBit i && b.testBit i else a.testBit i && !b.testBit i
theorem both_or (a b : Nat) (ha : a < 18446744073709551616) (hb : b < 18446744073709551616) : wordOf (bothF 1 a b) = a ||| b :=
  word_ext (wordOf_lt _) (Nat.or_lt_two_pow (n := 64) ha hb) fun i hi => by rw [wordOf_bit _ i hi, Nat.testBit_or]; rfl
theorem both_and (a b : Nat) (ha : a < 18446744073709551616) : wordOf (bothF 2 a b) = a &&& b :=
  word_ext (wordOf_lt _) (Nat.lt_of_le_of_lt Nat.and_le_left ha) fun i hi => by rw [wordOf_bit _ i hi, Nat.testBit_and]; rfl
/-- Is each compartment of a one of b's? -/
def belowB (a b : Nat) : Bool := (List.range 64).all fun i => !a.testBit i || b.testBit i
theorem below_iff (a b : Nat) : belowB a b = true ↔ ∀ i, i < 64 → a.testBit i = true → b.testBit i = true := by
  unfold belowB
  rw [List.all_eq_true]
  constructor
  · intro h i hi ha
    have := h i (List.mem_range.2 hi)
    rw [ha] at this; simpa using this
  · intro h i hi
    cases ha : a.testBit i with
    | false => rfl
    | true => rw [h i (List.mem_range.1 hi) ha]; rfl
/-- The compartments below k, rising. -/
def listTo (a k : Nat) : List Nat := (List.range k).filter fun i => a.testBit i
theorem listTo_step (a k : Nat) : listTo a (k + 1) = if a.testBit k then listTo a k ++ [k] else listTo a k := by
  unfold listTo
  rw [List.range_succ, List.filter_append]
  cases h : a.testBit k <;> simp [h]
theorem listTo_len (a k : Nat) : (listTo a k).length ≤ k := by
  unfold listTo
  exact Nat.le_trans (List.length_filter_le _ _) (by simp)
end Go.Proofs.Ytdpikdkhemhmdaa
