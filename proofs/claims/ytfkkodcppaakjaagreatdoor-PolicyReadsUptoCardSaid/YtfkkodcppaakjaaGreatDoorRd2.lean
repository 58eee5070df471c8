/- Texts of the proof, merged: LbPlain, PoPlain. -/
import Derived.Test.YtfkkodcppaakjaaGreatDoorRd1
import Derived.RowKit
import Derived.Sort.KeysCollected
import Derived.Maps.OwnSet
/- Plain facts about sets of compartments as numbers: no program. -/
namespace Go.Proofs.YtfkkodcppaakjaaGreatDoor
open Go

/-- The number whose bits are f at j, j + 1, .. (m of them). -/
def wordD (f : Nat → Bool) : Nat → Nat → Nat
  | _, 0 => 0
  | j, m + 1 => 2 * wordD f (j + 1) m + (f j).toNat
theorem wordD_lt (f : Nat → Bool) : ∀ m j, wordD f j m < 2 ^ m
  | 0, _ => by simp [wordD]
  | m + 1, j => by
    have h := wordD_lt f m (j + 1)
    have hb : (f j).toNat ≤ 1 := Bool.toNat_le _
    rw [wordD, Nat.pow_succ]; omega
theorem wordD_bit (f : Nat → Bool) : ∀ m j i, (wordD f j m).testBit i = (decide (i < m) && f (j + i))
  | 0, j, i => by simp [wordD]
  | m + 1, j, 0 => by
    have hb : f j = true ∨ f j = false := by cases f j <;> simp
    rw [wordD, Nat.testBit_zero]
    rcases hb with h | h
    · rw [h]; simp [h]
    · rw [h]; simp [h]
  | m + 1, j, i + 1 => by
    have ih := wordD_bit f m (j + 1) i
    have hb : (f j).toNat ≤ 1 := Bool.toNat_le _
    rw [wordD, Nat.testBit_succ]
    have e : (2 * wordD f (j + 1) m + (f j).toNat) / 2 = wordD f (j + 1) m := by omega
    rw [e, ih]
    have e2 : j + 1 + i = j + (i + 1) := by omega
    rw [e2]
    simp
/-- The label of a list of 64 truths. -/
def wordOf (f : Nat → Bool) : Nat := wordD f 0 64
theorem wordOf_lt (f : Nat → Bool) : wordOf f < 18446744073709551616 := wordD_lt f 64 0
theorem wordOf_bit (f : Nat → Bool) (i : Nat) (h : i < 64) : (wordOf f).testBit i = f i := by
  unfold wordOf
  rw [wordD_bit, Nat.zero_add, decide_eq_true h, Bool.true_and]
theorem bit_hi (a i : Nat) (ha : a < 18446744073709551616) (h : 64 ≤ i) : a.testBit i = false := by
  apply Nat.testBit_lt_two_pow
  exact Nat.lt_of_lt_of_le ha (Nat.pow_le_pow_right (by decide : 2 > 0) h)
theorem word_ext {a b : Nat} (ha : a < 18446744073709551616) (hb : b < 18446744073709551616) (h : ∀ i, i < 64 → a.testBit i = b.testBit i) : a = b := by
  apply Nat.eq_of_testBit_eq
  intro i
  by_cases hi : i < 64
  · exact h i hi
  · rw [bit_hi a i ha (by omega), bit_hi b i hb (by omega)]
theorem wordOf_self (a : Nat) (ha : a < 18446744073709551616) : wordOf a.testBit = a :=
  word_ext (wordOf_lt _) ha fun i hi => wordOf_bit _ i hi
/-- What is in either, in both, in the one and not in the other. -/
def bothF (how : Nat) (a b : Nat) (i : Nat) : Bool := if how = 1 then a.testBit i || b.testBit i else if how = 2 then a.testBit i && b.testBit i else a.testBit i && !b.testBit i
theorem both_or (a b : Nat) (ha : a < 18446744073709551616) (hb : b < 18446744073709551616) : wordOf (bothF 1 a b) = a ||| b :=
  word_ext (wordOf_lt _) (Nat.or_lt_two_pow (n := 64) ha hb) fun i hi => by rw [wordOf_bit _ i hi, Nat.testBit_or]; rfl
theorem both_and (a b : Nat) (ha : a < 18446744073709551616) : wordOf (bothF 2 a b) = a &&& b :=
  word_ext (wordOf_lt _) (Nat.lt_of_le_of_lt Nat.and_le_left ha) fun i hi => by rw [wordOf_bit _ i hi, Nat.testBit_and]; rfl
/-- Is each compartment of a one of b's? -/
def belowB (a b : Nat) : Bool := (List.range 64).all fun i => !a.testBit i || b.testBit i
theorem below_iff (a b : Nat) : belowB a b = true ↔ ∀ i, i < 64 → a.testBit i = true → b.testBit i = true := by
  unfold belowB
  rw [List.all_eq_true]
  constructor
  · intro h i hi ha
    have := h i (List.mem_range.2 hi)
    rw [ha] at this; simpa using this
  · intro h i hi
    cases ha : a.testBit i with
    | false => rfl
    | true => rw [h i (List.mem_range.1 hi) ha]; rfl
/-- The compartments below k, rising. -/
def listTo (a k : Nat) : List Nat := (List.range k).filter fun i => a.testBit i
theorem listTo_step (a k : Nat) : listTo a (k + 1) = if a.testBit k then listTo a k ++ [k] else listTo a k := by
  unfold listTo
  rw [List.range_succ, List.filter_append]
  cases h : a.testBit k <;> simp [h]
theorem listTo_len (a k : Nat) : (listTo a k).length ≤ k := by
  unfold listTo
  exact Nat.le_trans (List.length_filter_le _ _) (by simp)
end Go.Proofs.YtfkkodcppaakjaaGreatDoor
/- Viewers as plain lists: rising by name, found by name: no program. -/
namespace Go.Proofs.YtfkkodcppaakjaaGreatDoor
open Go Go.Maps

/-- A viewer: the name's bytes, the clearance as a number. -/
structure Vw where
  s : List UInt8
  c : Nat
  deriving DecidableEq, Inhabited
def names (l : List Vw) : List (List UInt8) := l.map (·.s)
theorem names_perm {l l' : List Vw} (h : l.Perm l') : (names l).Perm (names l') := h.map _
/-- Rising by name. -/
def Rising (l : List Vw) : Prop := l.Pairwise fun x y => x.s < y.s
theorem lt_le {x y : List UInt8} (h : x < y) : x ≤ y := Std.le_of_lt h
theorem le_asymm {x y : List UInt8} (h : x ≤ y) (k : y ≤ x) : x = y := Std.le_antisymm h k
theorem Rising.nodup {l : List Vw} (h : Rising l) : (names l).Nodup := by
  unfold names
  rw [List.nodup_iff_pairwise_ne, List.pairwise_map]
  exact h.imp fun {a b} hab e => by
    have h1 : a.s < b.s := hab
    rw [e] at h1
    exact absurd h1 (Std.lt_irrefl)
theorem Rising.filter {l : List Vw} (h : Rising l) (p : Vw → Bool) : Rising (l.filter p) := List.Pairwise.filter p h
/-- The viewers, rising by name. -/
def byName (x y : Vw) : Bool := decide (x.s ≤ y.s)
def sortV (l : List Vw) : List Vw := l.mergeSort byName
theorem sortV_perm (l : List Vw) : (sortV l).Perm l := List.mergeSort_perm l _
theorem sortV_pairwise (l : List Vw) : (sortV l).Pairwise fun x y => x.s ≤ y.s := by
  have h := List.pairwise_mergeSort (le := byName) (fun a b c h k => by
    unfold byName at h k ⊢; simp only [decide_eq_true_eq] at h k ⊢; exact Std.le_trans h k) (fun a b => by
    unfold byName; simp only [Bool.or_eq_true, decide_eq_true_eq]; exact Std.le_total) l
  exact h.imp fun {a b} hab => by unfold byName at hab; simpa using hab
theorem rising_of {l : List Vw} (h : l.Pairwise fun x y => x.s ≤ y.s) (hn : (names l).Nodup) : Rising l := by
  unfold names at hn
  rw [List.nodup_iff_pairwise_ne, List.pairwise_map] at hn
  unfold Rising
  refine (h.and hn).imp fun {a b} hab => ?_
  exact Std.lt_of_le_of_ne hab.1 hab.2
theorem sortV_rising {l : List Vw} (hn : (names l).Nodup) : Rising (sortV l) :=
  rising_of (sortV_pairwise l) ((names_perm (sortV_perm l)).nodup_iff.2 hn)
/-- Two rising lists of the same viewers are one. -/
theorem rising_one : ∀ {l l' : List Vw}, Rising l → Rising l' → l.Perm l' → l = l'
  | _, _, h, h', hp => hp.eq_of_pairwise (le := fun (x y : Vw) => x.s < y.s) (fun _ _ _ _ hab hba => absurd (Std.lt_trans (α := List UInt8) hab hba) Std.lt_irrefl) h h'
theorem sortV_self {l : List Vw} (h : Rising l) : sortV l = l := rising_one (sortV_rising h.nodup) h (sortV_perm l)
theorem sortV_of_perm {l l' : List Vw} (h : Rising l') (hp : l.Perm l') : sortV l = l' := by
  have hn : (names l).Nodup := ((names_perm hp).nodup_iff).2 h.nodup
  exact rising_one (sortV_rising hn) h ((sortV_perm l).trans hp)
/-- The names, sorted. -/
theorem names_sorted {l : List Vw} (h : Rising l) {ss : List (List UInt8)} (hp : ss.Perm (names l)) : ss.mergeSort (fun x y => decide (x ≤ y)) = names l := by
  have e : ss.mergeSort Go.leB = (names l).mergeSort Go.leB := Go.mergeSort_of_perm hp
  have e2 : (names l).mergeSort Go.leB = names l := by
    apply List.mergeSort_of_pairwise
    unfold names
    rw [List.pairwise_map]
    exact h.imp fun {a b} hab => decide_eq_true (lt_le hab)
  exact e.trans e2
/-- The clearance that stands by a name. -/
def look (l : List Vw) (s : List UInt8) : Option Nat := (l.find? fun x => x.s == s).map (·.c)
/-- May they be a policy's? -/
def okL (l : List Vw) : Prop := l.length ≤ 64 ∧ (names l).Nodup ∧ ∀ x ∈ l, nameL x.s = true
instance (l : List Vw) : Decidable (okL l) := by unfold okL; infer_instance
theorem okL_filter {l : List Vw} (h : okL l) (p : Vw → Bool) : okL (l.filter p) :=
  ⟨Nat.le_trans (List.length_filter_le _ _) h.1, h.2.1.sublist (List.filter_sublist.map _), fun x hx => h.2.2 x ((List.mem_filter.1 hx).1)⟩
theorem okL_perm {l l' : List Vw} (hp : l.Perm l') (h : okL l) : okL l' :=
  ⟨hp.length_eq ▸ h.1, ((names_perm hp).nodup_iff).1 h.2.1, fun x hx => h.2.2 x (hp.mem_iff.2 hx)⟩
/-- Numbers of 64 bits. -/
def Lo64 (l : List Vw) : Prop := ∀ x ∈ l, x.c < 18446744073709551616
theorem Lo64.filter {l : List Vw} (h : Lo64 l) (p : Vw → Bool) : Lo64 (l.filter p) := fun x hx => h x (List.mem_filter.1 hx).1
theorem Lo64.perm {l l' : List Vw} (h : Lo64 l) (hp : l'.Perm l) : Lo64 l' := fun x hx => h x (hp.mem_iff.1 hx)
/-- What a map holds: these viewers, and no others. -/
structure MapIs {H : Type} (D : DataW H) (l : List Vw) : Prop where
  map : IsMap D
  has : ∀ s, Maps.has D (.string s) = true ↔ s ∈ names l
  at' : ∀ x ∈ l, ∀ z, D.atKey (.string x.s) z = .lit (.int .u64 x.c)
theorem mapIs_nil {H : Type} : MapIs (.map [] : DataW H) [] := ⟨⟨[], rfl⟩, fun s => by simp [Maps.has, names], fun x hx => by simp at hx⟩
theorem key_lit (s : List UInt8) : WideAt.IsKeyLit (.string s) := by simp [WideAt.IsKeyLit]
theorem MapIs.put {H : Type} {D : DataW H} {l : List Vw} (h : MapIs D l) (x : Vw) (hx : x.s ∉ names l) : MapIs (D.put (.string x.s) (.lit (.int .u64 x.c))) (l ++ [x]) := by
  refine ⟨h.map.put _ _, fun s => ?_, fun y hy z => ?_⟩
  · by_cases e : s = x.s
    · subst e
      simp [has_put_same h.map (key_lit _), names]
    · rw [has_put_other (by simpa using e), h.has]
      simp [names, e]
  · rw [List.mem_append, List.mem_singleton] at hy
    rcases hy with hy | rfl
    · have hne : y.s ≠ x.s := fun e => hx (e ▸ List.mem_map_of_mem hy)
      rw [atKey_put_other (by simpa using hne)]
      exact h.at' y hy z
    · exact atKey_put_same h.map (key_lit _) _ _
theorem MapIs.perm {H : Type} {D : DataW H} {l l' : List Vw} (h : MapIs D l) (hp : l.Perm l') : MapIs D l' :=
  ⟨h.map, fun s => by rw [h.has]; exact (hp.map (·.s)).mem_iff, fun x hx => h.at' x (hp.mem_iff.2 hx)⟩
end Go.Proofs.YtfkkodcppaakjaaGreatDoor
