/- Texts of the proof, merged: Plain, LbPlain, PoPlain, LbPop, LbTextP, LbSplP, Shelf, Base, LbBase, LbSet, LbBelow, LbWord, LbBoth. -/
import Derived.Shelf.GgClosure.StringsIndexFunc
import Derived.Lib.Bytealg
import Derived.Laws.Strings
import Derived.Lib.SpaceUEq
import Derived.RowKit
import Derived.Sort.KeysCollected
import Derived.Maps.OwnSet
import Derived.Lib.TrailingZeros
import Derived.Lib.Join
import Derived.Lib.ItoaNum
import Derived.Lib.IndexBytes
import Derived.Lib.AtoiAll
import Derived.Shelf.Strings.Builder1
import Derived.Shelf.Strings.Builder2
import Derived.Shelf.Strings.OnBuilder
import Derived.Shelf.Small.Bits
import Derived.Shelf.Small.Wraps
import Derived.Shelf.Strings.BuilderF
import Derived.Shelf.Strings.BuilderK
import Derived.Shelf.Strings.Builder2Cap
import Derived.Shelf.Strconv.Itoa0
import Derived.Shelf.Strings.Search1
import Derived.Shelf.Strings.Search2
import Derived.Shelf.Strings.Search3
import Derived.Shelf.Strings.Cut
import Derived.Shelf.Strings.Count
import Derived.Shelf.LaysM
import Derived.Shelf.Strings.Shaped
import Derived.Ground.GgwProg
import Derived.Shelf.GgClosure.StringsIndexFuncTop
import Derived.Shelf.Strings.Prefix
import Derived.Shelf.Strings.Split
import Derived.Shelf.Strings.SplitShaped
import Derived.Shelf.Unicode.DecodeSlow
import Derived.Test.YtfibbjnkicjbpaaGreatDoorProg
import Derived.Test.YtfibbjnkicjbpaaGreatDoorRows
import Derived.WalkKit
import Derived.WalkSpells
import Derived.WalkLawsBesides
import Derived.Lib.Hide
import Derived.Lib.SmallJoins
import Derived.Deep.LoopGhost
import Derived.BigQuiet
import Derived.StillTactics
import Derived.OwnWalk
import Derived.Laws.Rows
import Derived.Laws.Tables
import Derived.Shelf.GgClosure.Gives
import Derived.Laws.CopyOwn
import Derived.Deep.WholeRow
import Derived.Deep.DeepCutAuto
/- Plain facts about bytes, names and texts: no program. -/
namespace Go.Proofs.YtfibbjnkicjbpaaGreatDoor
open Go

/-- May the bytes be a line's text? -/
def textL (l : List UInt8) : Bool := decide (l.length ≤ 256) && !l.contains 10
/-- May the byte stand in a name? -/
def nameCh (c : UInt8) : Bool := (decide (97 ≤ c.toNat) && decide (c.toNat ≤ 122)) || (decide (48 ≤ c.toNat) && decide (c.toNat ≤ 57)) || decide (c.toNat = 45) || decide (c.toNat = 95)
/-- Are the bytes a name? -/
def nameL (l : List UInt8) : Bool := decide (1 ≤ l.length) && decide (l.length ≤ 32) && l.all nameCh
/-- The rune that has no place in a name. -/
def foreignR (r : Nat) : Bool := (decide (r < 97) || decide (122 < r)) && (decide (r < 48) || decide (57 < r)) && !decide (r = 45) && !decide (r = 95)

theorem foreign_ch (c : UInt8) : foreignR c.toNat = !nameCh c := by
  unfold foreignR nameCh
  rw [Bool.eq_iff_iff]
  simp
theorem foreign_hi (r : Nat) (h : 128 ≤ r) : foreignR r = true := by
  have h1 : ¬ r < 97 := by omega
  unfold foreignR
  simp
  omega

theorem get_bang (s : ByteArray) (k : Nat) (h : k < s.size) : s.get! k = s[k] := by
  show s.data[k]! = s.data[k]
  exact getElem!_pos s.data k h

theorem dec_lo (s : ByteArray) (pos : Nat) (h : pos < s.size) (hb : s[pos].toNat < 128) : Utf8.decode s pos = (s[pos].toNat, 1) := by
  rw [Lib.decode_at, get_bang s pos h]
  unfold Lib.decodeN
  rw [if_pos hb]
theorem dec_hi (s : ByteArray) (pos : Nat) (h : pos < s.size) (hb : 128 ≤ s[pos].toNat) : 128 ≤ (Utf8.decode s pos).1 := by
  rw [Lib.decode_at, get_bang s pos h]
  rcases Lib.decodeN_cases (s.size - pos) s[pos].toNat (s.get! (pos + 1)).toNat (s.get! (pos + 2)).toNat (s.get! (pos + 3)).toNat with ⟨h1, _⟩ | ⟨_, _, _, h1, h2⟩ | ⟨_, _, _, _, h1, h2⟩ | ⟨h1, _⟩ | h1
  · omega
  · rw [h2]; exact h1
  · rw [h2]; simp only; omega
  · omega
  · rw [h1]; simp

theorem drop_cons (s : ByteArray) (pos : Nat) (h : pos < s.size) : s.data.toList.drop pos = s[pos] :: s.data.toList.drop (pos + 1) := by
  rw [List.drop_eq_getElem_cons (by simpa using h)]; rfl

theorem idx_any (p : Nat → Bool) (hp : ∀ r, 128 ≤ r → p r = true) (s : ByteArray) : ∀ (f pos : Nat), s.size ≤ pos + f →
    decide (0 ≤ Lib.idxFuncFrom p true s f pos) = (s.data.toList.drop pos).any fun c => p c.toNat
  | 0, pos, h => by
    rw [List.drop_eq_nil_of_le (by simpa using h)]
    simp [Lib.idxFuncFrom]
  | f + 1, pos, h => by
    by_cases hlt : pos < s.size
    · rw [drop_cons s pos hlt]
      by_cases hb : s[pos].toNat < 128
      · cases hc : p s[pos].toNat
        · have e : Lib.idxFuncFrom p true s (f + 1) pos = Lib.idxFuncFrom p true s f (pos + 1) := by
            simp only [Lib.idxFuncFrom, hlt, if_true, dec_lo s pos hlt hb, hc]; simp
          rw [e, idx_any p hp s f (pos + 1) (by omega)]
          simp [hc]
        · have e : Lib.idxFuncFrom p true s (f + 1) pos = (pos : Int) := by
            simp only [Lib.idxFuncFrom, hlt, if_true, dec_lo s pos hlt hb, hc]
          rw [e]
          simp [hc]
      · have h1 := hp _ (dec_hi s pos hlt (by omega))
        have e : Lib.idxFuncFrom p true s (f + 1) pos = (pos : Int) := by
          simp only [Lib.idxFuncFrom, hlt, if_true, h1]
        rw [e]
        simp [hp s[pos].toNat (by omega)]
    · rw [List.drop_eq_nil_of_le (by simpa using Nat.le_of_not_lt hlt), Lib.idxFuncFrom_end _ _ _ _ _ hlt]
      rfl

theorem foreign_idx (s : ByteArray) : decide (0 ≤ Lib.idxFunc foreignR true s) = !(s.data.toList.all nameCh) := by
  unfold Lib.idxFunc
  rw [idx_any foreignR foreign_hi s s.size 0 (by omega)]
  rw [List.drop_zero]
  generalize s.data.toList = l
  induction l with
  | nil => rfl
  | cons a t ih => rw [List.any_cons, List.all_cons, foreign_ch, ih, Bool.not_and]

theorem index_byte (b : UInt8) : ∀ l : List UInt8, decide (0 ≤ Lib.indexByte l b) = l.contains b
  | [] => by simp [Lib.indexByte]
  | a :: t => by
    have ih := index_byte b t
    unfold Lib.indexByte
    rw [List.contains_cons]
    by_cases h : b = a
    · subst h; simp
    · have hge := Lib.indexByte_ge t b
      rw [beq_false_of_ne (Ne.symm h), beq_false_of_ne h, Bool.false_or, ← ih]
      simp only [Bool.false_eq_true, if_false]
      by_cases h1 : Lib.indexByte t b = -1
      · rw [h1]; decide
      · rw [if_neg (by rw [beq_iff_eq]; exact h1)]
        rw [Bool.eq_iff_iff]; simp; omega

/-- May it stand in a name: in numbers. -/
theorem nameCh_iff (c : UInt8) : nameCh c = true ↔ (97 ≤ c.toNat ∧ c.toNat ≤ 122) ∨ (48 ≤ c.toNat ∧ c.toNat ≤ 57) ∨ c.toNat = 45 ∨ c.toNat = 95 := by
  unfold nameCh; simp [or_assoc]
theorem nameCh_no (c : UInt8) (h : nameCh c = false) : (((c.toNat : Int) == 45) = false ∧ ((c.toNat : Int) == 95) = false) ∧ ((c.toNat : Int) < 48 ∨ (57 < (c.toNat : Int) ∧ (c.toNat : Int) < 97) ∨ 122 < (c.toNat : Int)) := by
  have hx : ¬ ((97 ≤ c.toNat ∧ c.toNat ≤ 122) ∨ (48 ≤ c.toNat ∧ c.toNat ≤ 57) ∨ c.toNat = 45 ∨ c.toNat = 95) := fun h' => Bool.false_ne_true (h.symm.trans ((nameCh_iff c).2 h'))
  refine ⟨⟨beq_false_of_ne (by omega), beq_false_of_ne (by omega)⟩, by omega⟩
theorem nameCh_yes (c : UInt8) (h : nameCh c = true) : (97 ≤ (c.toNat : Int) ∧ (c.toNat : Int) ≤ 122) ∨ (48 ≤ (c.toNat : Int) ∧ (c.toNat : Int) ≤ 57) ∨ (((c.toNat : Int) == 45) = true ∧ (c.toNat : Int) < 48) ∨ (((c.toNat : Int) == 45) = false ∧ ((c.toNat : Int) == 95) = true ∧ 57 < (c.toNat : Int) ∧ (c.toNat : Int) < 97) := by
  rcases (nameCh_iff c).1 h with h | h | h | h
  · exact .inl (by omega)
  · exact .inr (.inl (by omega))
  · exact .inr (.inr (.inl ⟨beq_iff_eq.2 (by omega), by omega⟩))
  · exact .inr (.inr (.inr ⟨beq_false_of_ne (by omega), beq_iff_eq.2 (by omega), by omega, by omega⟩))
/-- What Check answers. -/
def checkE (n r : Int) (l : List UInt8) : Int := if n < 1 ∨ 4611686018427387904 < n ∨ r < 0 ∨ 4611686018427387904 < r ∨ textL l = false then 10 else 0
theorem len_size (s : ByteArray) : s.data.toList.length = s.size := by simp
theorem bytes_some (s : ByteArray) (h : 1 ≤ s.size) : ¬ s.toList = [] ∧ s.toList.isEmpty = false := by
  have h2 : ¬ s.toList = [] := by
    rw [ByteArray.toList_eq]; intro e
    have h3 := len_size s
    rw [e] at h3
    have h4 : 0 = s.size := h3
    omega
  exact ⟨h2, List.isEmpty_eq_false_iff.2 h2⟩
theorem bytes_none (s : ByteArray) (h : ¬ 1 ≤ s.size) : s.toList = [] ∧ s.toList.isEmpty = true := by
  have h2 : s.toList = [] := by
    rw [ByteArray.toList_eq]
    apply List.eq_nil_of_length_eq_zero
    rw [len_size]; omega
  exact ⟨h2, by rw [h2]; rfl⟩
theorem take_snoc (s : ByteArray) (k : Nat) (h : k < s.size) : s.data.toList.take (k + 1) = s.data.toList.take k ++ [s[k]] := by
  rw [List.take_succ_eq_append_getElem (by simpa using h)]; rfl
theorem take_all (s : ByteArray) : s.data.toList.take s.size = s.data.toList := List.take_of_length_le (by simp)
def No10 (s : ByteArray) (k : Nat) : Prop := (s.data.toList.take k).contains 10 = false
theorem no10_start (s : ByteArray) : No10 s 0 := by simp [No10]
theorem no10_step (s : ByteArray) (k : Nat) (h : k < s.size) (hn : No10 s k) (hb : ((s[k].toNat : Int) == 10) = false) : No10 s (k + 1) := by
  unfold No10 at hn ⊢
  rw [take_snoc s k h, List.contains_append, hn]
  have : (s[k] == 10) = false := by
    rw [beq_eq_false_iff_ne] at hb ⊢
    intro e; apply hb; rw [e]; rfl
  simp only [Bool.false_or]
  simp only [List.contains_cons, List.contains_nil, Bool.or_false]
  rw [beq_eq_false_iff_ne] at this ⊢
  exact fun e => this e.symm
theorem no10_hit (s : ByteArray) (k : Nat) (h : k < s.size) (hb : ((s[k].toNat : Int) == 10) = true) : textL s.data.toList = false := by
  have h1 : s[k].toNat = 10 := by have := beq_iff_eq.1 hb; omega
  have h2 : s[k] = 10 := by rw [← UInt8.toNat_inj]; exact h1
  have h3 : s.data.toList.contains 10 = true := by
    rw [List.contains_iff_mem, ← h2]
    exact List.getElem_mem (by simpa using h)
  unfold textL; rw [h3]; simp
theorem no10_end (s : ByteArray) (hn : No10 s s.size) : textL s.data.toList = decide ((s.size : Int) ≤ 256) := by
  unfold No10 at hn
  rw [take_all] at hn
  unfold textL; rw [hn]
  have e : s.data.toList.length = s.size := by simp
  rw [e]
  rw [Bool.eq_iff_iff]; simp; omega

theorem text_long (s : ByteArray) (h : ¬ s.size ≤ 256) : textL s.data.toList = false := by
  unfold textL
  have e : s.data.toList.length = s.size := by simp
  rw [e, decide_eq_false h]; rfl
theorem text_short (s : ByteArray) (h : s.size ≤ 256) : textL s.data.toList = !decide (0 ≤ Lib.indexByte s.data.toList 10) := by
  unfold textL
  have e : s.data.toList.length = s.size := by simp
  rw [e, decide_eq_true h, index_byte]; rfl

def AllCh (s : ByteArray) (k : Nat) : Prop := (s.data.toList.take k).all nameCh = true
theorem allch_start (s : ByteArray) : AllCh s 0 := by simp [AllCh]
theorem allch_step (s : ByteArray) (k : Nat) (h : k < s.size) (hn : AllCh s k) (hb : nameCh s[k] = true) : AllCh s (k + 1) := by
  unfold AllCh at hn ⊢
  rw [take_snoc s k h, List.all_append, hn]
  simp [hb]
theorem allch_hit (s : ByteArray) (k : Nat) (h : k < s.size) (hb : nameCh s[k] = false) : nameL s.data.toList = false := by
  have h3 : s.data.toList.all nameCh = false := by
    rw [List.all_eq_false]
    exact ⟨s[k], List.getElem_mem (by simpa using h), by simp [hb]⟩
  unfold nameL; rw [h3]; simp
theorem allch_end (s : ByteArray) (h1 : 1 ≤ s.size) (hn : AllCh s s.size) : nameL s.data.toList = decide ((s.size : Int) ≤ 32) := by
  unfold AllCh at hn
  rw [take_all] at hn
  unfold nameL; rw [hn]
  have e : s.data.toList.length = s.size := by simp
  rw [e, Bool.and_true, decide_eq_true h1]
  rw [Bool.eq_iff_iff]; simp; omega
theorem name_empty (s : ByteArray) (h1 : ¬ 1 ≤ s.size) : nameL s.data.toList = false := by
  unfold nameL
  have e : s.data.toList.length = s.size := by simp
  rw [e, decide_eq_false h1]; rfl

theorem name_short (s : ByteArray) (h1 : 1 ≤ s.size) (h : s.size ≤ 32) : nameL s.data.toList = !decide (0 ≤ Lib.idxFunc foreignR true s) := by
  rw [foreign_idx]
  unfold nameL
  have e : s.data.toList.length = s.size := by simp
  rw [e, decide_eq_true h, decide_eq_true h1]; simp
theorem name_long (s : ByteArray) (h : ¬ s.size ≤ 32) : nameL s.data.toList = false := by
  unfold nameL
  have e : s.data.toList.length = s.size := by simp
  rw [e, decide_eq_false h]; simp

theorem check_no (n r : Int) (l : List UInt8) (h : n < 1 ∨ 4611686018427387904 < n ∨ r < 0 ∨ 4611686018427387904 < r ∨ textL l = false) : checkE n r l = 10 := by
  unfold checkE; rw [if_pos h]
theorem check_yes (n r : Int) (l : List UInt8) (h1 : 1 ≤ n) (h2 : n ≤ 4611686018427387904) (h3 : 0 ≤ r) (h4 : r ≤ 4611686018427387904) (h5 : textL l = true) : checkE n r l = 0 := by
  unfold checkE; rw [if_neg]; rintro (h | h | h | h | h)
  · omega
  · omega
  · omega
  · omega
  · rw [h5] at h; cases h
end Go.Proofs.YtfibbjnkicjbpaaGreatDoor
/- Plain facts about sets of compartments as numbers: no program. -/
namespace Go.Proofs.YtfibbjnkicjbpaaGreatDoor
open Go

/-- The number whose bits are f at j, j + 1, .. (m of them). -/
def wordD (f : Nat → Bool) : Nat → Nat → Nat
  | _, 0 => 0
  | j, m + 1 => 2 * wordD f (j + 1) m + (f j).toNat
theorem wordD_lt (f : Nat → Bool) : ∀ m j, wordD f j m < 2 ^ m
  | 0, _ => by simp [wordD]
  | m + 1, j => by
    have h := wordD_lt f m (j + 1)
    have hb : (f j).toNat ≤ 1 := Bool.toNat_le _
    rw [wordD, Nat.pow_succ]; omega
theorem wordD_bit (f : Nat → Bool) : ∀ m j i, (wordD f j m).testBit i = (decide (i < m) && f (j + i))
  | 0, j, i => by simp [wordD]
  | m + 1, j, 0 => by
    have hb : f j = true ∨ f j = false := by cases f j <;> simp
    rw [wordD, Nat.testBit_zero]
    rcases hb with h | h
    · rw [h]; simp [h]
    · rw [h]; simp [h]
  | m + 1, j, i + 1 => by
    have ih := wordD_bit f m (j + 1) i
    have hb : (f j).toNat ≤ 1 := Bool.toNat_le _
    rw [wordD, Nat.testBit_succ]
    have e : (2 * wordD f (j + 1) m + (f j).toNat) / 2 = wordD f (j + 1) m := by omega
    rw [e, ih]
    have e2 : j + 1 + i = j + (i + 1) := by omega
    rw [e2]
    simp
/-- The label of a list of 64 truths. -/
def wordOf (f : Nat → Bool) : Nat := wordD f 0 64
theorem wordOf_lt (f : Nat → Bool) : wordOf f < 18446744073709551616 := wordD_lt f 64 0
theorem wordOf_bit (f : Nat → Bool) (i : Nat) (h : i < 64) : (wordOf f).testBit i = f i := by
  unfold wordOf
  rw [wordD_bit, Nat.zero_add, decide_eq_true h, Bool.true_and]
theorem bit_hi (a i : Nat) (ha : a < 18446744073709551616) (h : 64 ≤ i) : a.testBit i = false := by
  apply Nat.testBit_lt_two_pow
  exact Nat.lt_of_lt_of_le ha (Nat.pow_le_pow_right (by decide : 2 > 0) h)
theorem word_ext {a b : Nat} (ha : a < 18446744073709551616) (hb : b < 18446744073709551616) (h : ∀ i, i < 64 → a.testBit i = b.testBit i) : a = b := by
  apply Nat.eq_of_testBit_eq
  intro i
  by_cases hi : i < 64
  · exact h i hi
  · rw [bit_hi a i ha (by omega), bit_hi b i hb (by omega)]
theorem wordOf_self (a : Nat) (ha : a < 18446744073709551616) : wordOf a.testBit = a :=
  word_ext (wordOf_lt _) ha fun i hi => wordOf_bit _ i hi
/-- What is in either, in both, in the one and not in the other. -/
def bothF (how : Nat) (a b : Nat) (i : Nat) : Bool := if how = 1 then a.testBit i || b.testBit i else if how = 2 then a.testBit i && b.testBit i else a.testBit i && !b.testBit i
theorem both_or (a b : Nat) (ha : a < 18446744073709551616) (hb : b < 18446744073709551616) : wordOf (bothF 1 a b) = a ||| b :=
  word_ext (wordOf_lt _) (Nat.or_lt_two_pow (n := 64) ha hb) fun i hi => by rw [wordOf_bit _ i hi, Nat.testBit_or]; rfl
theorem both_and (a b : Nat) (ha : a < 18446744073709551616) : wordOf (bothF 2 a b) = a &&& b :=
  word_ext (wordOf_lt _) (Nat.lt_of_le_of_lt Nat.and_le_left ha) fun i hi => by rw [wordOf_bit _ i hi, Nat.testBit_and]; rfl
/-- Is each compartment of a one of b's? -/
def belowB (a b : Nat) : Bool := (List.range 64).all fun i => !a.testBit i || b.testBit i
theorem below_iff (a b : Nat) : belowB a b = true ↔ ∀ i, i < 64 → a.testBit i = true → b.testBit i = true := by
  unfold belowB
  rw [List.all_eq_true]
  constructor
  · intro h i hi ha
    have := h i (List.mem_range.2 hi)
    rw [ha] at this; simpa using this
  · intro h i hi
    cases ha : a.testBit i with
    | false => rfl
    | true => rw [h i (List.mem_range.1 hi) ha]; rfl
/-- The compartments below k, rising. -/
def listTo (a k : Nat) : List Nat := (List.range k).filter fun i => a.testBit i
theorem listTo_step (a k : Nat) : listTo a (k + 1) = if a.testBit k then listTo a k ++ [k] else listTo a k := by
  unfold listTo
  rw [List.range_succ, List.filter_append]
  cases h : a.testBit k <;> simp [h]
theorem listTo_len (a k : Nat) : (listTo a k).length ≤ k := by
  unfold listTo
  exact Nat.le_trans (List.length_filter_le _ _) (by simp)
end Go.Proofs.YtfibbjnkicjbpaaGreatDoor
/- Viewers as plain lists: rising by name, found by name: no program. -/
namespace Go.Proofs.YtfibbjnkicjbpaaGreatDoor
open Go Go.Maps

/-- A viewer: the name's bytes, the clearance as a number. -/
structure Vw where
  s : List UInt8
  c : Nat
  deriving DecidableEq, Inhabited
def names (l : List Vw) : List (List UInt8) := l.map (·.s)
theorem names_perm {l l' : List Vw} (h : l.Perm l') : (names l).Perm (names l') := h.map _
/-- Rising by name. -/
def Rising (l : List Vw) : Prop := l.Pairwise fun x y => x.s < y.s
theorem lt_le {x y : List UInt8} (h : x < y) : x ≤ y := Std.le_of_lt h
theorem le_asymm {x y : List UInt8} (h : x ≤ y) (k : y ≤ x) : x = y := Std.le_antisymm h k
theorem Rising.nodup {l : List Vw} (h : Rising l) : (names l).Nodup := by
  unfold names
  rw [List.nodup_iff_pairwise_ne, List.pairwise_map]
  exact h.imp fun {a b} hab e => by
    have h1 : a.s < b.s := hab
    rw [e] at h1
    exact absurd h1 (Std.lt_irrefl)
theorem Rising.filter {l : List Vw} (h : Rising l) (p : Vw → Bool) : Rising (l.filter p) := List.Pairwise.filter p h
/-- The viewers, rising by name. -/
def byName (x y : Vw) : Bool := decide (x.s ≤ y.s)
def sortV (l : List Vw) : List Vw := l.mergeSort byName
theorem sortV_perm (l : List Vw) : (sortV l).Perm l := List.mergeSort_perm l _
theorem sortV_pairwise (l : List Vw) : (sortV l).Pairwise fun x y => x.s ≤ y.s := by
  have h := List.pairwise_mergeSort (le := byName) (fun a b c h k => by
    unfold byName at h k ⊢; simp only [decide_eq_true_eq] at h k ⊢; exact Std.le_trans h k) (fun a b => by
    unfold byName; simp only [Bool.or_eq_true, decide_eq_true_eq]; exact Std.le_total) l
  exact h.imp fun {a b} hab => by unfold byName at hab; simpa using hab
theorem rising_of {l : List Vw} (h : l.Pairwise fun x y => x.s ≤ y.s) (hn : (names l).Nodup) : Rising l := by
  unfold names at hn
  rw [List.nodup_iff_pairwise_ne, List.pairwise_map] at hn
  unfold Rising
  refine (h.and hn).imp fun {a b} hab => ?_
  exact Std.lt_of_le_of_ne hab.1 hab.2
theorem sortV_rising {l : List Vw} (hn : (names l).Nodup) : Rising (sortV l) :=
  rising_of (sortV_pairwise l) ((names_perm (sortV_perm l)).nodup_iff.2 hn)
/-- Two rising lists of the same viewers are one. -/
theorem rising_one : ∀ {l l' : List Vw}, Rising l → Rising l' → l.Perm l' → l = l'
  | _, _, h, h', hp => hp.eq_of_pairwise (le := fun (x y : Vw) => x.s < y.s) (fun _ _ _ _ hab hba => absurd (Std.lt_trans (α := List UInt8) hab hba) Std.lt_irrefl) h h'
theorem sortV_self {l : List Vw} (h : Rising l) : sortV l = l := rising_one (sortV_rising h.nodup) h (sortV_perm l)
theorem sortV_of_perm {l l' : List Vw} (h : Rising l') (hp : l.Perm l') : sortV l = l' := by
  have hn : (names l).Nodup := ((names_perm hp).nodup_iff).2 h.nodup
  exact rising_one (sortV_rising hn) h ((sortV_perm l).trans hp)
/-- The names, sorted. -/
theorem names_sorted {l : List Vw} (h : Rising l) {ss : List (List UInt8)} (hp : ss.Perm (names l)) : ss.mergeSort (fun x y => decide (x ≤ y)) = names l := by
  have e : ss.mergeSort Go.leB = (names l).mergeSort Go.leB := Go.mergeSort_of_perm hp
  have e2 : (names l).mergeSort Go.leB = names l := by
    apply List.mergeSort_of_pairwise
    unfold names
    rw [List.pairwise_map]
    exact h.imp fun {a b} hab => decide_eq_true (lt_le hab)
  exact e.trans e2
/-- The clearance that stands by a name. -/
def look (l : List Vw) (s : List UInt8) : Option Nat := (l.find? fun x => x.s == s).map (·.c)
/-- May they be a policy's? -/
def okL (l : List Vw) : Prop := l.length ≤ 64 ∧ (names l).Nodup ∧ ∀ x ∈ l, nameL x.s = true
instance (l : List Vw) : Decidable (okL l) := by unfold okL; infer_instance
theorem okL_filter {l : List Vw} (h : okL l) (p : Vw → Bool) : okL (l.filter p) :=
  ⟨Nat.le_trans (List.length_filter_le _ _) h.1, h.2.1.sublist (List.filter_sublist.map _), fun x hx => h.2.2 x ((List.mem_filter.1 hx).1)⟩
theorem okL_perm {l l' : List Vw} (hp : l.Perm l') (h : okL l) : okL l' :=
  ⟨hp.length_eq ▸ h.1, ((names_perm hp).nodup_iff).1 h.2.1, fun x hx => h.2.2 x (hp.mem_iff.2 hx)⟩
/-- Numbers of 64 bits. -/
def Lo64 (l : List Vw) : Prop := ∀ x ∈ l, x.c < 18446744073709551616
theorem Lo64.filter {l : List Vw} (h : Lo64 l) (p : Vw → Bool) : Lo64 (l.filter p) := fun x hx => h x (List.mem_filter.1 hx).1
theorem Lo64.perm {l l' : List Vw} (h : Lo64 l) (hp : l'.Perm l) : Lo64 l' := fun x hx => h x (hp.mem_iff.1 hx)
/-- What a map holds: these viewers, and no others. -/
structure MapIs {H : Type} (D : DataW H) (l : List Vw) : Prop where
  map : IsMap D
  has : ∀ s, Maps.has D (.string s) = true ↔ s ∈ names l
  at' : ∀ x ∈ l, ∀ z, D.atKey (.string x.s) z = .lit (.int .u64 x.c)
theorem mapIs_nil {H : Type} : MapIs (.map [] : DataW H) [] := ⟨⟨[], rfl⟩, fun s => by simp [Maps.has, names], fun x hx => by simp at hx⟩
theorem key_lit (s : List UInt8) : WideAt.IsKeyLit (.string s) := by simp [WideAt.IsKeyLit]
theorem MapIs.put {H : Type} {D : DataW H} {l : List Vw} (h : MapIs D l) (x : Vw) (hx : x.s ∉ names l) : MapIs (D.put (.string x.s) (.lit (.int .u64 x.c))) (l ++ [x]) := by
  refine ⟨h.map.put _ _, fun s => ?_, fun y hy z => ?_⟩
  · by_cases e : s = x.s
    · subst e
      simp [has_put_same h.map (key_lit _), names]
    · rw [has_put_other (by simpa using e), h.has]
      simp [names, e]
  · rw [List.mem_append, List.mem_singleton] at hy
    rcases hy with hy | rfl
    · have hne : y.s ≠ x.s := fun e => hx (e ▸ List.mem_map_of_mem hy)
      rw [atKey_put_other (by simpa using hne)]
      exact h.at' y hy z
    · exact atKey_put_same h.map (key_lit _) _ _
theorem MapIs.perm {H : Type} {D : DataW H} {l l' : List Vw} (h : MapIs D l) (hp : l.Perm l') : MapIs D l' :=
  ⟨h.map, fun s => by rw [h.has]; exact (hp.map (·.s)).mem_iff, fun x hx => h.at' x (hp.mem_iff.2 hx)⟩
end Go.Proofs.YtfibbjnkicjbpaaGreatDoor
/- Plain facts about counting bits, and about the lowest bit: no program. -/
namespace Go.Proofs.YtfibbjnkicjbpaaGreatDoor
open Go

/-- How many compartments there are. -/
def cnt (a : Nat) : Nat := (listTo a 64).length
/-- Bytes, the least first. -/
def valB : List Nat → Nat
  | [] => 0
  | b :: l => 256 * valB l + b
def repB (c : Nat) : Nat → Nat
  | 0 => 0
  | n + 1 => 256 * repB c n + c
theorem land_split (q M b c : Nat) (hb : b < 256) (hc : c < 256) : (256 * q + b) &&& (256 * M + c) = 256 * (q &&& M) + (b &&& c) := by
  have h1 : ((256 * q + b) &&& (256 * M + c)) % 2 ^ 8 = (256 * q + b) % 2 ^ 8 &&& (256 * M + c) % 2 ^ 8 := Nat.and_mod_two_pow ..
  have h2 : ((256 * q + b) &&& (256 * M + c)) / 2 ^ 8 = (256 * q + b) / 2 ^ 8 &&& (256 * M + c) / 2 ^ 8 := Nat.and_div_two_pow ..
  have e1 : (256 * q + b) % 2 ^ 8 = b := by omega
  have e2 : (256 * M + c) % 2 ^ 8 = c := by omega
  have e3 : (256 * q + b) / 2 ^ 8 = q := by omega
  have e4 : (256 * M + c) / 2 ^ 8 = M := by omega
  rw [e1, e2] at h1
  rw [e3, e4] at h2
  omega
def h1B (b : Nat) : Nat := (b / 2 &&& 85) + (b &&& 85)
def h2B (b : Nat) : Nat := (b / 4 &&& 51) + (b &&& 51)
def h3B (b : Nat) : Nat := (b / 16 + b) % 16
theorem m85 : ∀ (b : Fin 256) (e : Fin 2), (128 * e.val + b.val / 2) &&& 85 = b.val / 2 &&& 85 := by decide +kernel
theorem m51 : ∀ (b : Fin 256) (e : Fin 4), (64 * e.val + b.val / 4) &&& 51 = b.val / 4 &&& 51 := by decide +kernel
theorem h1_le : ∀ b : Fin 256, h1B b.val < 256 := by decide +kernel
theorem h2_le : ∀ b : Fin 256, h2B (h1B b.val) < 256 ∧ h2B (h1B b.val) % 16 ≤ 4 ∧ h2B (h1B b.val) / 16 ≤ 4 := by decide +kernel
theorem h3_eq : ∀ b : Fin 256, h3B (h2B (h1B b.val)) = (listTo b.val 8).length := by decide +kernel
theorem f1_val : ∀ l : List Nat, (∀ b ∈ l, b < 256) → (valB l / 2 &&& repB 85 l.length) + (valB l &&& repB 85 l.length) = valB (l.map h1B)
  | [], _ => rfl
  | b :: l, h => by
    have hb : b < 256 := h b (List.mem_cons_self ..)
    have ih := f1_val l fun c hc => h c (List.mem_cons_of_mem _ hc)
    have e : valB (b :: l) / 2 = 256 * (valB l / 2) + (128 * (valB l % 2) + b / 2) := by rw [valB]; omega
    rw [e, List.length_cons, repB, land_split _ _ _ _ (by omega) (by decide), valB, land_split _ _ _ _ hb (by decide), List.map_cons, valB, ← ih]
    have hm := m85 ⟨b, hb⟩ ⟨valB l % 2, Nat.mod_lt _ (by decide)⟩
    simp only at hm
    rw [hm]
    unfold h1B
    omega
theorem f2_val : ∀ l : List Nat, (∀ b ∈ l, b < 256) → (valB l / 4 &&& repB 51 l.length) + (valB l &&& repB 51 l.length) = valB (l.map h2B)
  | [], _ => rfl
  | b :: l, h => by
    have hb : b < 256 := h b (List.mem_cons_self ..)
    have ih := f2_val l fun c hc => h c (List.mem_cons_of_mem _ hc)
    have e : valB (b :: l) / 4 = 256 * (valB l / 4) + (64 * (valB l % 4) + b / 4) := by rw [valB]; omega
    rw [e, List.length_cons, repB, land_split _ _ _ _ (by omega) (by decide), valB, land_split _ _ _ _ hb (by decide), List.map_cons, valB, ← ih]
    have hm := m51 ⟨b, hb⟩ ⟨valB l % 4, Nat.mod_lt _ (by decide)⟩
    simp only at hm
    rw [hm]
    unfold h2B
    omega
theorem low_val : ∀ l : List Nat, (∀ b ∈ l, b % 16 ≤ 4 ∧ b / 16 ≤ 4) → valB l % 16 ≤ 4
  | [], _ => by simp [valB]
  | b :: l, h => by
    have := h b (List.mem_cons_self ..)
    rw [valB]; omega
theorem f3_val : ∀ l : List Nat, (∀ b ∈ l, b % 16 ≤ 4 ∧ b / 16 ≤ 4) → (valB l / 16 + valB l) &&& repB 15 l.length = valB (l.map h3B)
  | [], _ => rfl
  | b :: l, h => by
    have hb := h b (List.mem_cons_self ..)
    have hl : ∀ c ∈ l, c % 16 ≤ 4 ∧ c / 16 ≤ 4 := fun c hc => h c (List.mem_cons_of_mem _ hc)
    have ih := f3_val l hl
    have hlow := low_val l hl
    have e : valB (b :: l) / 16 + valB (b :: l) = 256 * (valB l / 16 + valB l) + (16 * (valB l % 16) + b / 16 + b) := by rw [valB]; omega
    rw [e, List.length_cons, repB, land_split _ _ _ _ (by omega) (by decide), List.map_cons, valB, ← ih]
    have hm : (16 * (valB l % 16) + b / 16 + b) &&& 15 = (16 * (valB l % 16) + b / 16 + b) % 2 ^ 4 := Nat.and_two_pow_sub_one_eq_mod _ 4
    rw [hm]
    unfold h3B
    omega
theorem cnt_split (q b k : Nat) (hb : b < 256) : (listTo (256 * q + b) (8 + k)).length = (listTo b 8).length + (listTo q k).length := by
  have hbit : ∀ j, (256 * q + b).testBit j = if j < 8 then b.testBit j else q.testBit (j - 8) := fun j => Nat.testBit_two_pow_mul_add q (i := 8) hb j
  unfold listTo
  rw [List.range_add, List.filter_append, List.length_append]
  congr 1
  · congr 1
    apply List.filter_congr
    intro i hi
    rw [hbit, if_pos (List.mem_range.1 hi)]
  · rw [List.filter_map, List.length_map]
    congr 1
    apply List.filter_congr
    intro i _
    show (256 * q + b).testBit (8 + i) = _
    rw [hbit, if_neg (by omega)]
    congr 1; omega
theorem cnt_val : ∀ l : List Nat, (∀ b ∈ l, b < 256) → (listTo (valB l) (8 * l.length)).length = (l.map fun b => (listTo b 8).length).sum
  | [], _ => rfl
  | b :: l, h => by
    have e : 8 * (b :: l).length = 8 + 8 * l.length := by rw [List.length_cons]; omega
    rw [e, valB, cnt_split _ _ _ (h b (List.mem_cons_self ..)), cnt_val l fun c hc => h c (List.mem_cons_of_mem _ hc), List.map_cons, List.sum_cons]
def bytesOf (a : Nat) : List Nat := [a % 256, a / 256 % 256, a / 65536 % 256, a / 16777216 % 256, a / 4294967296 % 256, a / 1099511627776 % 256, a / 281474976710656 % 256, a / 72057594037927936 % 256]
theorem bytes_val (a : Nat) (ha : a < 18446744073709551616) : valB (bytesOf a) = a := by
  simp only [bytesOf, valB]; omega
theorem bytes_lt (a : Nat) : ∀ b ∈ bytesOf a, b < 256 := by
  intro b hb
  simp only [bytesOf, List.mem_cons, List.not_mem_nil, or_false] at hb
  omega
theorem all_h2 (a : Nat) : ∀ b ∈ ((bytesOf a).map h1B).map h2B, b % 16 ≤ 4 ∧ b / 16 ≤ 4 := by
  intro b hb
  rw [List.map_map] at hb
  obtain ⟨c, hc, rfl⟩ := List.mem_map.1 hb
  exact (h2_le ⟨c, bytes_lt a c hc⟩).2
def ones1 (a : Nat) : Nat := (a / 2 &&& 6148914691236517205) + (a &&& 6148914691236517205)
def ones2 (a : Nat) : Nat := (a / 4 &&& 3689348814741910323) + (a &&& 3689348814741910323)
def ones3 (a : Nat) : Nat := (a / 16 + a) &&& 1085102592571150095
theorem rep85 : repB 85 8 = 6148914691236517205 := by decide +kernel
theorem rep51 : repB 51 8 = 3689348814741910323 := by decide +kernel
theorem rep15 : repB 15 8 = 1085102592571150095 := by decide +kernel
theorem bytes_len (a : Nat) : (bytesOf a).length = 8 := rfl
theorem ones123 (a : Nat) (ha : a < 18446744073709551616) : ones3 (ones2 (ones1 a)) = valB ((bytesOf a).map fun b => (listTo b 8).length) := by
  have e1 : ones1 a = valB ((bytesOf a).map h1B) := by
    have := f1_val (bytesOf a) (bytes_lt a)
    rw [bytes_val a ha, bytes_len, rep85] at this
    exact this
  have e2 : ones2 (ones1 a) = valB (((bytesOf a).map h1B).map h2B) := by
    have h2 := f2_val ((bytesOf a).map h1B) (by
      intro b hb
      obtain ⟨c, hc, rfl⟩ := List.mem_map.1 hb
      exact h1_le ⟨c, bytes_lt a c hc⟩)
    rw [List.length_map, bytes_len, rep51] at h2
    rw [e1]
    exact h2
  have e3 : ones3 (ones2 (ones1 a)) = valB ((((bytesOf a).map h1B).map h2B).map h3B) := by
    have h3 := f3_val _ (all_h2 a)
    rw [List.length_map, List.length_map, bytes_len, rep15] at h3
    rw [e2]
    exact h3
  rw [e3, List.map_map, List.map_map]
  congr 1
  apply List.map_congr_left
  intro b hb
  exact h3_eq ⟨b, bytes_lt a b hb⟩
theorem len8 (b : Nat) : (listTo b 8).length ≤ 8 := listTo_len b 8
theorem ones1_lt (a : Nat) : ones1 a < 18446744073709551616 ∧ (a / 2 &&& 6148914691236517205) ≤ 6148914691236517205 ∧ (a &&& 6148914691236517205) ≤ 6148914691236517205 := by
  have h1 : (a / 2 &&& 6148914691236517205) ≤ 6148914691236517205 := Nat.and_le_right
  have h2 : (a &&& 6148914691236517205) ≤ 6148914691236517205 := Nat.and_le_right
  unfold ones1
  omega
theorem ones2_lt (a : Nat) : ones2 a ≤ 7378697629483820646 ∧ (a / 4 &&& 3689348814741910323) ≤ 3689348814741910323 ∧ (a &&& 3689348814741910323) ≤ 3689348814741910323 := by
  have h1 : (a / 4 &&& 3689348814741910323) ≤ 3689348814741910323 := Nat.and_le_right
  have h2 : (a &&& 3689348814741910323) ≤ 3689348814741910323 := Nat.and_le_right
  unfold ones2
  omega
theorem ones3_lt (a : Nat) : ones3 a ≤ 1085102592571150095 := Nat.and_le_right
theorem dv_lb (y M hi lo : Nat) (h : y = M * hi + lo) (hlo : lo < M) : y / M = hi := by
  rw [h, Nat.mul_add_div (by omega), Nat.div_eq_of_lt hlo, Nat.add_zero]
theorem sum3 (p0 p1 p2 p3 p4 p5 p6 p7 y z : Nat) (ey : y = 4294967296 * (256 * (256 * (256 * p7 + (p6 + p7)) + (p5 + p6 + p7)) + (p4 + p5 + p6 + p7)) + (256 * (256 * (256 * (p3 + p4 + p5 + p6) + (p2 + p3 + p4 + p5)) + (p1 + p2 + p3 + p4)) + (p0 + p1 + p2 + p3)))
  (hz : z = y + (256 * (256 * (256 * p7 + (p6 + p7)) + (p5 + p6 + p7)) + (p4 + p5 + p6 + p7))) (h : p0 + p1 + p2 + p3 + p4 + p5 + p6 + p7 < 128) : z % 128 = p0 + p1 + p2 + p3 + p4 + p5 + p6 + p7 := by
  obtain ⟨q, hq⟩ : ∃ q, z = 128 * q + (p0 + p1 + p2 + p3 + p4 + p5 + p6 + p7) := by
    rw [hz, ey]
    refine ⟨33554432 * (256 * (256 * (256 * p7 + (p6 + p7)) + (p5 + p6 + p7)) + (p4 + p5 + p6 + p7)) + 2 * (256 * (256 * (p3 + p4 + p5 + p6) + (p2 + p3 + p4 + p5)) + (p1 + p2 + p3 + p4)) + 2 * (256 * (256 * p7 + (p6 + p7)) + (p5 + p6 + p7)), ?_⟩
    generalize (256 * (256 * p7 + (p6 + p7)) + (p5 + p6 + p7)) = A
    generalize (256 * (256 * (p3 + p4 + p5 + p6) + (p2 + p3 + p4 + p5)) + (p1 + p2 + p3 + p4)) = B
    omega
  rw [hq, Nat.mul_add_mod]
  exact Nat.mod_eq_of_lt h
theorem sum1 (p0 p1 p2 p3 p4 p5 p6 p7 X x : Nat) (hX : X = 256 * (256 * (256 * (256 * (256 * (256 * (256 * (256 * 0 + p7) + p6) + p5) + p4) + p3) + p2) + p1) + p0) (h0 : p0 < 256) (hx : x = X + X / 256) :
    x = 65536 * (256 * (256 * (256 * (256 * (256 * p7 + (p6 + p7)) + (p5 + p6)) + (p4 + p5)) + (p3 + p4)) + (p2 + p3)) + (256 * (p1 + p2) + (p0 + p1)) := by
  have d1 := dv_lb X 256 _ p0 hX h0
  rw [d1, hX] at hx
  clear d1 hX
  omega
theorem sum2 (p0 p1 p2 p3 p4 p5 p6 p7 x y : Nat) (ex : x = 65536 * (256 * (256 * (256 * (256 * (256 * p7 + (p6 + p7)) + (p5 + p6)) + (p4 + p5)) + (p3 + p4)) + (p2 + p3)) + (256 * (p1 + p2) + (p0 + p1))) (h : 256 * (p1 + p2) + (p0 + p1) < 65536) (hy : y = x + x / 65536) :
    y = 4294967296 * (256 * (256 * (256 * p7 + (p6 + p7)) + (p5 + p6 + p7)) + (p4 + p5 + p6 + p7)) + (256 * (256 * (256 * (p3 + p4 + p5 + p6) + (p2 + p3 + p4 + p5)) + (p1 + p2 + p3 + p4)) + (p0 + p1 + p2 + p3)) := by
  have d1 := dv_lb x 65536 _ _ ex h
  rw [d1, ex] at hy
  clear d1 ex
  omega
theorem sum_all (p0 p1 p2 p3 p4 p5 p6 p7 X x y z : Nat) (a0 : p0 ≤ 8) (a1 : p1 ≤ 8) (a2 : p2 ≤ 8) (a3 : p3 ≤ 8) (a4 : p4 ≤ 8) (a5 : p5 ≤ 8) (a6 : p6 ≤ 8) (a7 : p7 ≤ 8)
    (hX : X = 256 * (256 * (256 * (256 * (256 * (256 * (256 * (256 * 0 + p7) + p6) + p5) + p4) + p3) + p2) + p1) + p0) (hx : x = X + X / 256) (hy : y = x + x / 65536) (hz : z = y + y / 4294967296) :
    x < 2 ^ 61 ∧ y < 2 ^ 62 ∧ z < 2 ^ 63 ∧ z % 128 = p0 + p1 + p2 + p3 + p4 + p5 + p6 + p7 := by
  have ex := sum1 p0 p1 p2 p3 p4 p5 p6 p7 X x hX (by omega) hx
  have hXl : X < 2 ^ 60 := by clear ex hx hy hz; omega
  have hxl : x < 2 ^ 61 := by clear ex hX hy hz; omega
  have hyl : y < 2 ^ 62 := by clear ex hX hx hz; omega
  have hzl : z < 2 ^ 63 := by clear ex hX hx hy; omega
  have ey := sum2 p0 p1 p2 p3 p4 p5 p6 p7 x y ex (by clear ex hX hx hy hz; omega) hy
  have d3 := dv_lb y 4294967296 _ _ ey (by clear ex ey hX hx hy hz; omega)
  rw [d3] at hz
  exact ⟨hxl, hyl, hzl, sum3 p0 p1 p2 p3 p4 p5 p6 p7 y z ey hz (by clear ex ey d3 hX hx hy hz; omega)⟩
/-- The last three sums, and what is left of them. -/
theorem ones_end (a : Nat) (ha : a < 18446744073709551616) (x y z : Nat) (hx : x = ones3 (ones2 (ones1 a)) + ones3 (ones2 (ones1 a)) / 256) (hy : y = x + x / 65536) (hz : z = y + y / 4294967296) :
    x < 2 ^ 61 ∧ y < 2 ^ 62 ∧ z < 2 ^ 63 ∧ z % 128 = cnt a := by
  have hc : cnt a = ((bytesOf a).map fun b => (listTo b 8).length).sum := by
    have := cnt_val (bytesOf a) (bytes_lt a)
    rw [bytes_val a ha] at this
    exact this
  have hX := ones123 a ha
  obtain ⟨h1, h2, h3, h4⟩ := sum_all _ _ _ _ _ _ _ _ _ x y z (len8 _) (len8 _) (len8 _) (len8 _) (len8 _) (len8 _) (len8 _) (len8 _) hX hx hy hz
  refine ⟨h1, h2, h3, ?_⟩
  rw [h4, hc]
  simp only [bytesOf, List.map_cons, List.map_nil, List.sum_cons, List.sum_nil]
  clear hX h1 h2 h3 h4 hc hx hy hz ha
  omega

theorem cnt_le (a : Nat) : cnt a ≤ 64 := listTo_len a 64
/-- The lowest compartment first. -/
theorem list_low (x : Nat) (h0 : x ≠ 0) (h : x < 18446744073709551616) : listTo x 64 = Lib.ctz 64 x :: listTo (x &&& (x - 1)) 64 ∧ (x &&& (x - 1)) < 18446744073709551616 ∧ Lib.ctz 64 x < 64 := by
  obtain ⟨m, hm, hk⟩ := Lib.ctzFrom_spec 64 x (by omega) h
  have e : Lib.ctz 64 x = Lib.ctzFrom 64 x := by simp [Lib.ctz, h0]
  rw [e]
  generalize Lib.ctzFrom 64 x = k at *
  have hp : 0 < 2 ^ k := Nat.two_pow_pos k
  have h1 : x = 2 ^ (k + 1) * m + 2 ^ k := by rw [hm, Nat.pow_succ, Nat.mul_add, Nat.mul_one, Nat.mul_assoc]
  have h2 : x - 1 = 2 ^ (k + 1) * m + (2 ^ k - 1) := by omega
  have hlt1 : 2 ^ k < 2 ^ (k + 1) := by rw [Nat.pow_succ]; omega
  have bx : ∀ j, x.testBit j = if j < k + 1 then decide (j = k) else m.testBit (j - (k + 1)) := by
    intro j
    rw [h1, Nat.testBit_two_pow_mul_add m hlt1 j, Nat.testBit_two_pow]
    simp only [eq_comm]
  have by_ : ∀ j, (x &&& (x - 1)).testBit j = if j < k + 1 then false else m.testBit (j - (k + 1)) := by
    intro j
    rw [Nat.testBit_and, bx j, h2, Nat.testBit_two_pow_mul_add m (by omega) j]
    by_cases hj : j < k + 1
    · rw [if_pos hj, if_pos hj, if_pos hj, Nat.testBit_two_pow_sub_one]
      by_cases hjk : j = k
      · subst hjk; simp
      · simp [hjk]
    · rw [if_neg hj, if_neg hj, if_neg hj, Bool.and_self]
  obtain ⟨d, hd⟩ : ∃ d, 64 = k + 1 + d := ⟨64 - (k + 1), by omega⟩
  refine ⟨?_, Nat.lt_of_le_of_lt Nat.and_le_left h, hk⟩
  unfold listTo
  rw [hd, List.range_add, List.filter_append, List.filter_append, List.range_succ, List.filter_append, List.filter_append]
  have z1 : (List.range k).filter (fun i => x.testBit i) = [] := by
    rw [List.filter_eq_nil_iff]
    intro i hi
    have := List.mem_range.1 hi
    rw [bx, if_pos (by omega)]
    simp; omega
  have z2 : (List.range k).filter (fun i => (x &&& (x - 1)).testBit i) = [] := by
    rw [List.filter_eq_nil_iff]
    intro i hi
    have := List.mem_range.1 hi
    rw [by_, if_pos (by omega)]
    simp
  have z3 : [k].filter (fun i => x.testBit i) = [k] := by
    have : x.testBit k = true := by rw [bx, if_pos (by omega)]; simp
    simp [this]
  have z4 : [k].filter (fun i => (x &&& (x - 1)).testBit i) = [] := by
    rw [List.filter_eq_nil_iff]
    intro i hi
    have e := List.mem_singleton.1 hi
    rw [by_, if_pos (by omega)]
    simp
  rw [z1, z2, z3, z4]
  simp only [List.nil_append, List.singleton_append, List.cons.injEq, true_and]
  apply List.filter_congr
  intro i hi
  obtain ⟨j, _, rfl⟩ := List.mem_map.1 hi
  rw [bx, by_, if_neg (by omega), if_neg (by omega)]
theorem list_zero : listTo 0 64 = [] := by
  unfold listTo
  rw [List.filter_eq_nil_iff]
  intro i _
  simp
theorem list_lt (a k i : Nat) (h : i ∈ listTo a k) : i < k := by
  unfold listTo at h
  exact List.mem_range.1 (List.mem_filter.1 h).1
end Go.Proofs.YtfibbjnkicjbpaaGreatDoor
/- A label's text, plainly: no program. -/
namespace Go.Proofs.YtfibbjnkicjbpaaGreatDoor
open Go

/-- A label's text. -/
def textN (a : Nat) : List UInt8 := if a = 0 then [45] else Lib.join ((listTo a 64).map Lib.decDigits) [43]
/-- A number's digits as a text. -/
def digsB (i : Nat) : ByteArray := ⟨(Lib.decDigits i).toArray⟩
theorem dec_lt (i : Nat) (h : i < 100) : Lib.decDigits i = if i < 10 then [UInt8.ofNat (48 + i)] else [UInt8.ofNat (48 + i / 10), UInt8.ofNat (48 + i % 10)] := by
  rw [Lib.decDigits]
  by_cases h1 : i < 10
  · rw [dif_pos h1, if_pos h1]
  · rw [dif_neg h1, if_neg h1, Lib.decDigits, dif_pos (by omega)]; rfl
theorem dec_len2 (i : Nat) (h : i < 100) : (Lib.decDigits i).length ≤ 2 := by
  rw [dec_lt i h]
  split <;> simp
theorem lens_le : ∀ l : List Nat, (∀ i ∈ l, i < 100) → Lib.lens (l.map Lib.decDigits) ≤ 2 * l.length
  | [], _ => by simp [Lib.lens]
  | x :: l, h => by
    have ih := lens_le l fun i hi => h i (List.mem_cons_of_mem _ hi)
    have hx := dec_len2 x (h x (List.mem_cons_self ..))
    simp only [Lib.lens, List.map_cons, List.sum_cons, List.length_cons] at ih ⊢
    omega
theorem list_below (a i : Nat) (h : i ∈ listTo a 64) : i < 100 := by have := list_lt a 64 i h; omega
theorem join_le (l : List Nat) (h : ∀ i ∈ l, i < 100) : (Lib.join (l.map Lib.decDigits) [43]).length ≤ 3 * l.length := by
  cases l with
  | nil => simp [Lib.join_nil]
  | cons x r =>
    have h1 := lens_le (x :: r) h
    rw [List.map_cons] at h1 ⊢
    rw [Lib.join_length]
    simp only [List.length_cons, List.length_nil, List.length_map] at h1 ⊢
    omega
theorem text_le (a : Nat) : (textN a).length ≤ 192 := by
  unfold textN
  split
  · simp
  · have := join_le (listTo a 64) (list_below a)
    have := listTo_len a 64
    omega
theorem digs_map (l : List Nat) : (l.map digsB).map (fun b => b.data.toList) = l.map Lib.decDigits := by
  rw [List.map_map]
  apply List.map_congr_left
  intro i _
  rfl
theorem list_nonzero (a : Nat) (h0 : a ≠ 0) (h : a < 18446744073709551616) : ∃ n, (listTo a 64).length = n + 1 := by
  obtain ⟨e, _⟩ := list_low a h0 h
  exact ⟨_, by rw [e]; rfl⟩
theorem join_snoc_lb (xs : List (List UInt8)) (x sep : List UInt8) : Lib.join (xs ++ [x]) sep = if xs = [] then x else Lib.join xs sep ++ sep ++ x := by
  cases xs with
  | nil => simp [Lib.join_one]
  | cons y r =>
    rw [if_neg (by simp), List.cons_append, Lib.join_cons, Lib.join_cons]
    simp [Lib.joinTail]
end Go.Proofs.YtfibbjnkicjbpaaGreatDoor
/- A text cut at each plus, plainly; what a label's text is cut into: no program. -/
namespace Go.Proofs.YtfibbjnkicjbpaaGreatDoor
open Go

/-- What stands between the pluses: one piece at least. -/
def spl : List UInt8 → List (List UInt8)
  | [] => [[]]
  | c :: r => if c = 43 then [] :: spl r else (c :: (spl r).headD []) :: (spl r).tail
theorem spl_ne : ∀ l, spl l ≠ []
  | [] => by simp [spl]
  | c :: r => by unfold spl; split <;> simp
theorem spl_cut : ∀ l, (Lib.indexByte l 43 = -1 ∧ spl l = [l]) ∨ (∃ i : Nat, Lib.indexByte l 43 = i ∧ i < l.length ∧ spl l = l.take i :: spl (l.drop (i + 1)))
  | [] => .inl ⟨rfl, rfl⟩
  | c :: r => by
    have e1 : Lib.indexByte (c :: r) 43 = if c == 43 then 0 else if Lib.indexByte r 43 == -1 then -1 else Lib.indexByte r 43 + 1 := rfl
    have e2 : spl (c :: r) = if c = 43 then [] :: spl r else (c :: (spl r).headD []) :: (spl r).tail := rfl
    rw [e1, e2]
    by_cases h : c = 43
    · subst h
      exact .inr ⟨0, by simp, by simp, by simp⟩
    · rw [if_neg h, if_neg (by simpa using h)]
      rcases spl_cut r with ⟨h1, h2⟩ | ⟨i, h1, h2, h3⟩
      · left
        rw [h1, h2]
        exact ⟨by simp, rfl⟩
      · right
        refine ⟨i + 1, ?_, by simp; omega, ?_⟩
        · rw [h1, if_neg (by rw [beq_iff_eq]; omega)]; rfl
        · rw [h3]; rfl
/-- Pieces without a plus, put together, are cut into these. -/
theorem spl_one (p : List UInt8) (h : ∀ c ∈ p, c ≠ 43) : spl p = [p] := by
  rcases spl_cut p with ⟨_, h2⟩ | ⟨i, h1, h2, _⟩
  · exact h2
  · obtain ⟨h3, _⟩ := Lib.indexByte_some h1
    rw [List.getElem?_eq_getElem h2] at h3
    exact absurd (Option.some.inj h3) (h _ (List.getElem_mem h2))
theorem spl_app : ∀ (p l : List UInt8), (∀ c ∈ p, c ≠ 43) → spl (p ++ 43 :: l) = p :: spl l
  | [], l, _ => by simp [spl]
  | c :: p, l, h => by
    have hc := h c (List.mem_cons_self ..)
    have ih := spl_app p l fun d hd => h d (List.mem_cons_of_mem _ hd)
    rw [List.cons_append, spl, if_neg hc, ih]; rfl
theorem spl_join : ∀ (x : List UInt8) (ps : List (List UInt8)), (∀ p ∈ x :: ps, ∀ c ∈ p, c ≠ 43) → spl (Lib.join (x :: ps) [43]) = x :: ps
  | x, [], h => by
    rw [Lib.join_one]; exact spl_one x (h x (List.mem_cons_self ..))
  | x, y :: ps, h => by
    have ih := spl_join y ps fun p hp => h p (List.mem_cons_of_mem _ hp)
    have e : Lib.join (x :: y :: ps) [43] = x ++ 43 :: Lib.join (y :: ps) [43] := by
      rw [Lib.join_cons, Lib.join_cons]; simp [Lib.joinTail]
    rw [e, spl_app x _ (h x (List.mem_cons_self ..)), ih]
theorem dec_noplus (i : Nat) (h : i < 100) : ∀ c ∈ Lib.decDigits i, c ≠ 43 := by
  intro c hc
  rw [dec_lt i h] at hc
  have hd : ∀ d, d < 10 → UInt8.ofNat (48 + d) ≠ 43 := by decide
  split at hc
  · rw [List.mem_singleton] at hc; rw [hc]; exact hd i (by omega)
  · simp only [List.mem_cons, List.not_mem_nil, or_false] at hc
    rcases hc with hc | hc
    · rw [hc]; exact hd _ (by omega)
    · rw [hc]; exact hd _ (by omega)
/-- What a label's text is cut into. -/
theorem spl_text (a : Nat) (h0 : a ≠ 0) (ha : a < 18446744073709551616) : spl (textN a) = (listTo a 64).map Lib.decDigits := by
  unfold textN
  rw [if_neg h0]
  have hm := list_below a
  obtain ⟨e, _⟩ := list_low a h0 ha
  cases hl : listTo a 64 with
  | nil => rw [hl] at e; cases e
  | cons x r =>
    rw [hl] at hm
    rw [List.map_cons]
    refine spl_join _ _ ?_
    intro p hp
    rw [← List.map_cons] at hp
    obtain ⟨i, hi, rfl⟩ := List.mem_map.1 hp
    exact dec_noplus i (hm i hi)
end Go.Proofs.YtfibbjnkicjbpaaGreatDoor
/- The library's contracts that the walks call, laid at this program by the shelf's own tool (plain mode), without its remarks. -/
namespace Go.Proofs
open Go.Shelf
def Tryz.lays104_ren : Go.Shelf.Ren := ⟨fun | 104 => 90 | 211 => 111 | 207 => 134 | n => n, fun | 9 => 9 | 4 => 4 | 24 => 120 | 3 => 3 | n => n, fun | n => n⟩
theorem Tryz.lays104 : Go.Proofs.Lays.n104 Tryz.prog Tryz.lays104_ren := {
  mixed := by kernel_rfl
  f104 := Tryz.func90.trans (congrArg some (by kernel_rfl))
  f207 := Tryz.func134.trans (congrArg some (by kernel_rfl))
  f211 := Tryz.func111.trans (congrArg some (by kernel_rfl))
  t3 := Tryz.underlying3
  a3 := Tryz.isAgg3
  z3 := Tryz.sizeOf3
  v3 := Tryz.zeroValue3
  t4 := Tryz.underlying4
  a4 := Tryz.isAgg4
  z4 := Tryz.sizeOf4
  v4 := Tryz.zeroValue4
  t9 := Tryz.underlying9
  a9 := Tryz.isAgg9
  z9 := Tryz.sizeOf9
  v9 := Tryz.zeroValue9
  t24 := Tryz.underlying120
  a24 := Tryz.isAgg120
  z24 := Tryz.sizeOf120
  v24 := Tryz.zeroValue120 }
open Go.RowKit in
theorem Tryz.strings_CutSuffix (s p : ByteArray) (w : World) (hs : s.size ≤ 9223372036854775807) :
    Calls Tryz.prog 90 #[.string s, .string p] w fun e w' => e = .returned (.tuple #[.string ⟨(Lib.trimSuffix s.data.toList p.data.toList).toArray⟩, .bool (Lib.hasSuffix s.data.toList p.data.toList)]) ∧ w' = w := Any.strings_CutSuffix Tryz.lays104 s p w hs
def Tryz.lays143_ren : Go.Shelf.Ren := ⟨fun | 143 => 89 | 219 => 110 | 217 => 130 | 225 => 131 | 224 => 132 | 267 => 133 | 266 => 151 | 314 => 152 | n => n, fun | 9 => 9 | 3 => 3 | 4 => 4 | 5 => 5 | 46 => 81 | 146 => 171 | 51 => 112 | n => n, fun | 1 => 1 | n => n⟩
theorem Tryz.lays143 : Go.Proofs.Lays.n143 Tryz.prog Tryz.lays143_ren := {
  mixed := by kernel_rfl
  f143 := Tryz.func89.trans (congrArg some (by kernel_rfl))
  f217 := Tryz.func130.trans (congrArg some (by kernel_rfl))
  f219 := Tryz.func110.trans (congrArg some (by kernel_rfl))
  f224 := Tryz.func132.trans (congrArg some (by kernel_rfl))
  f225 := Tryz.func131.trans (congrArg some (by kernel_rfl))
  f266 := Tryz.func151.trans (congrArg some (by kernel_rfl))
  f267 := Tryz.func133.trans (congrArg some (by kernel_rfl))
  f314 := Tryz.func152.trans (congrArg some (by kernel_rfl))
  t3 := Tryz.underlying3
  a3 := Tryz.isAgg3
  z3 := Tryz.sizeOf3
  v3 := Tryz.zeroValue3
  t4 := Tryz.underlying4
  a4 := Tryz.isAgg4
  z4 := Tryz.sizeOf4
  v4 := Tryz.zeroValue4
  t5 := Tryz.underlying5
  a5 := Tryz.isAgg5
  z5 := Tryz.sizeOf5
  v5 := Tryz.zeroValue5
  t9 := Tryz.underlying9
  a9 := Tryz.isAgg9
  z9 := Tryz.sizeOf9
  v9 := Tryz.zeroValue9
  t46 := Tryz.underlying81
  a46 := Tryz.isAgg81
  z46 := Tryz.sizeOf81
  v46 := Tryz.zeroValue81
  t51 := Tryz.underlying112
  a51 := Tryz.isAgg112
  z51 := Tryz.sizeOf112
  v51 := Tryz.zeroValue112
  t146 := Tryz.underlying171
  a146 := Tryz.isAgg171
  z146 := Tryz.sizeOf171
  v146 := Tryz.zeroValue171
  g1 := by kernel_rfl }
open Go.RowKit Go.Lib in
theorem Tryz.strings_Index_one (s : ByteArray) (c : UInt8) (w : World) :
    Calls Tryz.prog 89 #[.string s, .string ⟨#[c]⟩] w fun e w' => e = .returned (.int .i64 (Lib.indexByte s.data.toList c)) ∧ w' = w := Any.strings_Index_one Tryz.lays143 s c w
def Tryz.lays145_ren : Go.Shelf.Ren := ⟨fun | 145 => 62 | 220 => 92 | 219 => 110 | 217 => 130 | 225 => 131 | 224 => 132 | 267 => 133 | 266 => 151 | 314 => 152 | n => n, fun | 9 => 9 | 4 => 4 | 59 => 98 | 3 => 3 | 5 => 5 | 46 => 81 | 146 => 171 | 51 => 112 | n => n, fun | 1 => 1 | n => n⟩
theorem Tryz.lays145 : Go.Proofs.Lays.n145 Tryz.prog Tryz.lays145_ren := {
  mixed := by kernel_rfl
  f145 := Tryz.func62.trans (congrArg some (by kernel_rfl))
  f217 := Tryz.func130.trans (congrArg some (by kernel_rfl))
  f219 := Tryz.func110.trans (congrArg some (by kernel_rfl))
  f220 := Tryz.func92.trans (congrArg some (by kernel_rfl))
  f224 := Tryz.func132.trans (congrArg some (by kernel_rfl))
  f225 := Tryz.func131.trans (congrArg some (by kernel_rfl))
  f266 := Tryz.func151.trans (congrArg some (by kernel_rfl))
  f267 := Tryz.func133.trans (congrArg some (by kernel_rfl))
  f314 := Tryz.func152.trans (congrArg some (by kernel_rfl))
  t3 := Tryz.underlying3
  a3 := Tryz.isAgg3
  z3 := Tryz.sizeOf3
  v3 := Tryz.zeroValue3
  t4 := Tryz.underlying4
  a4 := Tryz.isAgg4
  z4 := Tryz.sizeOf4
  v4 := Tryz.zeroValue4
  t5 := Tryz.underlying5
  a5 := Tryz.isAgg5
  z5 := Tryz.sizeOf5
  v5 := Tryz.zeroValue5
  t9 := Tryz.underlying9
  a9 := Tryz.isAgg9
  z9 := Tryz.sizeOf9
  v9 := Tryz.zeroValue9
  t46 := Tryz.underlying81
  a46 := Tryz.isAgg81
  z46 := Tryz.sizeOf81
  v46 := Tryz.zeroValue81
  t51 := Tryz.underlying112
  a51 := Tryz.isAgg112
  z51 := Tryz.sizeOf112
  v51 := Tryz.zeroValue112
  t59 := Tryz.underlying98
  a59 := Tryz.isAgg98
  z59 := Tryz.sizeOf98
  v59 := Tryz.zeroValue98
  t146 := Tryz.underlying171
  a146 := Tryz.isAgg171
  z146 := Tryz.sizeOf171
  v146 := Tryz.zeroValue171
  g1 := by kernel_rfl }
open Go.RowKit Go.Lib in
theorem Tryz.strings_Cut (s sep : ByteArray) (m : Int) (w : World) (hs : s.size < 4294967281) (hm : w.cell? ⟨1, 0, none⟩ = some (.int .i64 m)) :
    Calls Tryz.prog 62 #[.string s, .string sep] w fun e w' => e = .returned (.tuple #[.string ⟨(Lib.cut s.data.toList sep.data.toList).1.toArray⟩, .string ⟨(Lib.cut s.data.toList sep.data.toList).2.1.toArray⟩, .bool (Lib.cut s.data.toList sep.data.toList).2.2]) ∧ ∃ n, w' = w.drewN n := Any.strings_Cut Tryz.lays145 s sep m w hs hm
def Tryz.lays138_ren : Go.Shelf.Ren := ⟨fun | 138 => 60 | 195 => 87 | 218 => 88 | 143 => 89 | 219 => 110 | 217 => 130 | 225 => 131 | 224 => 132 | 267 => 133 | 266 => 151 | 314 => 152 | n => n, fun | 9 => 9 | 3 => 3 | 4 => 4 | 5 => 5 | 0 => 0 | 46 => 81 | 146 => 171 | 51 => 112 | n => n, fun | 1 => 1 | n => n⟩
theorem Tryz.lays138 : Go.Proofs.Lays.n138 Tryz.prog Tryz.lays138_ren := {
  mixed := by kernel_rfl
  f138 := Tryz.func60.trans (congrArg some (by kernel_rfl))
  f143 := Tryz.func89.trans (congrArg some (by kernel_rfl))
  f195 := Tryz.func87.trans (congrArg some (by kernel_rfl))
  f217 := Tryz.func130.trans (congrArg some (by kernel_rfl))
  f218 := Tryz.func88.trans (congrArg some (by kernel_rfl))
  f219 := Tryz.func110.trans (congrArg some (by kernel_rfl))
  f224 := Tryz.func132.trans (congrArg some (by kernel_rfl))
  f225 := Tryz.func131.trans (congrArg some (by kernel_rfl))
  f266 := Tryz.func151.trans (congrArg some (by kernel_rfl))
  f267 := Tryz.func133.trans (congrArg some (by kernel_rfl))
  f314 := Tryz.func152.trans (congrArg some (by kernel_rfl))
  t0 := Tryz.underlying0
  a0 := Tryz.isAgg0
  z0 := Tryz.sizeOf0
  v0 := Tryz.zeroValue0
  t3 := Tryz.underlying3
  a3 := Tryz.isAgg3
  z3 := Tryz.sizeOf3
  v3 := Tryz.zeroValue3
  t4 := Tryz.underlying4
  a4 := Tryz.isAgg4
  z4 := Tryz.sizeOf4
  v4 := Tryz.zeroValue4
  t5 := Tryz.underlying5
  a5 := Tryz.isAgg5
  z5 := Tryz.sizeOf5
  v5 := Tryz.zeroValue5
  t9 := Tryz.underlying9
  a9 := Tryz.isAgg9
  z9 := Tryz.sizeOf9
  v9 := Tryz.zeroValue9
  t46 := Tryz.underlying81
  a46 := Tryz.isAgg81
  z46 := Tryz.sizeOf81
  v46 := Tryz.zeroValue81
  t51 := Tryz.underlying112
  a51 := Tryz.isAgg112
  z51 := Tryz.sizeOf112
  v51 := Tryz.zeroValue112
  t146 := Tryz.underlying171
  a146 := Tryz.isAgg171
  z146 := Tryz.sizeOf171
  v146 := Tryz.zeroValue171
  g1 := by kernel_rfl }
open Go.RowKit Go.Lib in
theorem Tryz.strings_Count_one (s : ByteArray) (c : UInt8) (w : World) :
    Calls Tryz.prog 60 #[.string s, .string ⟨#[c]⟩] w fun e w' => e = .returned (.int .i64 (Lib.countByte s.data.toList c)) ∧ w' = w := Any.strings_Count_one Tryz.lays138 s c w
def Tryz.laysGw17_ren : Go.Shelf.Ren := ⟨fun | 17 => 58 | 15 => 86 | 20 => 109 | n => n, fun | 9 => 9 | 23 => 96 | 4 => 4 | 3 => 3 | 0 => 0 | 21 => 21 | n => n, fun | n => n⟩
theorem Tryz.laysGw17 : Go.Proofs.LaysGw.n17 Tryz.prog Tryz.laysGw17_ren := {
  mixed := by kernel_rfl
  f15 := Tryz.func86.trans (congrArg some (by kernel_rfl))
  f17 := Tryz.func58.trans (congrArg some (by kernel_rfl))
  f20 := Tryz.func109.trans (congrArg some (by kernel_rfl))
  t0 := Tryz.underlying0
  a0 := Tryz.isAgg0
  z0 := Tryz.sizeOf0
  v0 := Tryz.zeroValue0
  i0 := by kernel_rfl
  t3 := Tryz.underlying3
  a3 := Tryz.isAgg3
  z3 := Tryz.sizeOf3
  v3 := Tryz.zeroValue3
  i3 := by kernel_rfl
  t4 := Tryz.underlying4
  a4 := Tryz.isAgg4
  z4 := Tryz.sizeOf4
  v4 := Tryz.zeroValue4
  i4 := by kernel_rfl
  t9 := Tryz.underlying9
  a9 := Tryz.isAgg9
  z9 := Tryz.sizeOf9
  v9 := Tryz.zeroValue9
  i9 := by kernel_rfl
  t21 := Tryz.underlying21
  a21 := Tryz.isAgg21
  z21 := Tryz.sizeOf21
  v21 := Tryz.zeroValue21
  i21 := by kernel_rfl
  t23 := Tryz.underlying96
  a23 := Tryz.isAgg96
  z23 := Tryz.sizeOf96
  v23 := Tryz.zeroValue96
  i23 := by kernel_rfl }
open Go.RowKit Go.Lib in
theorem Tryz.strings_ContainsFunc (g : Nat) (lb : Array Value) (eg : ∀ args w, (callFunc g args).run Tryz.prog w = .ok (.enter g args) w) (p : Nat → Bool) (s : ByteArray) (w : World) (hp : PredAt Tryz.prog g lb encR p w) :
    Calls Tryz.prog 58 #[.string s, .func (.func g) #[] lb] w fun e w' => e = .returned (.bool (decide (0 ≤ Lib.idxFunc p true s))) ∧ Below w.heap.size w w' := Any.strings_ContainsFunc Tryz.laysGw17 g lb eg p s w hp
def Tryz.lays146_ren : Go.Shelf.Ren := ⟨fun | 146 => 91 | 221 => 112 | 268 => 135 | 138 => 60 | 143 => 89 | 195 => 87 | 197 => 137 | 218 => 88 | 219 => 110 | 260 => 153 | 217 => 130 | 225 => 131 | 224 => 132 | 267 => 133 | 266 => 151 | 314 => 152 | n => n, fun | 9 => 9 | 31 => 33 | 3 => 3 | 4 => 4 | 0 => 0 | 105 => 157 | 21 => 21 | 5 => 5 | 46 => 81 | 119 => 180 | 139 => 183 | 138 => 182 | 146 => 171 | 51 => 112 | n => n, fun | 1 => 1 | 3 => 5 | 4 => 6 | n => n⟩
theorem Tryz.lays146 : Go.Proofs.Lays.n146 Tryz.prog Tryz.lays146_ren := {
  mixed := by kernel_rfl
  f138 := Tryz.func60.trans (congrArg some (by kernel_rfl))
  f143 := Tryz.func89.trans (congrArg some (by kernel_rfl))
  f146 := Tryz.func91.trans (congrArg some (by kernel_rfl))
  f195 := Tryz.func87.trans (congrArg some (by kernel_rfl))
  f197 := Tryz.func137.trans (congrArg some (by kernel_rfl))
  f217 := Tryz.func130.trans (congrArg some (by kernel_rfl))
  f218 := Tryz.func88.trans (congrArg some (by kernel_rfl))
  f219 := Tryz.func110.trans (congrArg some (by kernel_rfl))
  f221 := Tryz.func112.trans (congrArg some (by kernel_rfl))
  f224 := Tryz.func132.trans (congrArg some (by kernel_rfl))
  f225 := Tryz.func131.trans (congrArg some (by kernel_rfl))
  f260 := Tryz.func153.trans (congrArg some (by kernel_rfl))
  f266 := Tryz.func151.trans (congrArg some (by kernel_rfl))
  f267 := Tryz.func133.trans (congrArg some (by kernel_rfl))
  f268 := Tryz.func135.trans (congrArg some (by kernel_rfl))
  f314 := Tryz.func152.trans (congrArg some (by kernel_rfl))
  t0 := Tryz.underlying0
  a0 := Tryz.isAgg0
  z0 := Tryz.sizeOf0
  v0 := Tryz.zeroValue0
  t3 := Tryz.underlying3
  a3 := Tryz.isAgg3
  z3 := Tryz.sizeOf3
  v3 := Tryz.zeroValue3
  t4 := Tryz.underlying4
  a4 := Tryz.isAgg4
  z4 := Tryz.sizeOf4
  v4 := Tryz.zeroValue4
  t5 := Tryz.underlying5
  a5 := Tryz.isAgg5
  z5 := Tryz.sizeOf5
  v5 := Tryz.zeroValue5
  t9 := Tryz.underlying9
  a9 := Tryz.isAgg9
  z9 := Tryz.sizeOf9
  v9 := Tryz.zeroValue9
  t21 := Tryz.underlying21
  a21 := Tryz.isAgg21
  z21 := Tryz.sizeOf21
  v21 := Tryz.zeroValue21
  t31 := Tryz.underlying33
  a31 := Tryz.isAgg33
  z31 := Tryz.sizeOf33
  v31 := Tryz.zeroValue33
  t46 := Tryz.underlying81
  a46 := Tryz.isAgg81
  z46 := Tryz.sizeOf81
  v46 := Tryz.zeroValue81
  t51 := Tryz.underlying112
  a51 := Tryz.isAgg112
  z51 := Tryz.sizeOf112
  v51 := Tryz.zeroValue112
  t105 := Tryz.underlying157
  a105 := Tryz.isAgg157
  z105 := Tryz.sizeOf157
  v105 := Tryz.zeroValue157
  t119 := Tryz.underlying180
  a119 := Tryz.isAgg180
  z119 := Tryz.sizeOf180
  t138 := Tryz.underlying182
  a138 := Tryz.isAgg182
  z138 := Tryz.sizeOf182
  v138 := Tryz.zeroValue182
  t139 := Tryz.underlying183
  a139 := Tryz.isAgg183
  z139 := Tryz.sizeOf183
  v139 := Tryz.zeroValue183
  t146 := Tryz.underlying171
  a146 := Tryz.isAgg171
  z146 := Tryz.sizeOf171
  v146 := Tryz.zeroValue171
  g1 := by kernel_rfl
  g3 := by kernel_rfl
  g4 := by kernel_rfl }
open Go.RowKit Go.Lib in
theorem Tryz.strings_Split (s sep : ByteArray) (m : Int) (w : World) (hs : s.size < 4294967281) (hm : w.cell? ⟨1, 0, none⟩ = some (.int .i64 m)) (h1 : 1 ≤ sep.size) :
    Calls Tryz.prog 91 #[.string s, .string sep] w fun e w' =>
      e = .returned (.slice (some ⟨w.heap.size, 0, none⟩) (Lib.countB s sep + 1) (Lib.countB s sep + 1)) ∧ w' = w.alloc (.cells ((Lib.splitB sep 0 (Lib.countB s sep) s).map Value.string).toArray 9) := Any.strings_Split Tryz.lays146 (by kernel_rfl) s sep m w hs hm h1
def Tryz.laysM146_ren : Go.Shelf.Ren := ⟨fun | 146 => 91 | 221 => 112 | 268 => 135 | 138 => 60 | 143 => 89 | 195 => 87 | 197 => 137 | 218 => 88 | 219 => 110 | 260 => 153 | 217 => 130 | 225 => 131 | 224 => 132 | 267 => 133 | 266 => 151 | 314 => 152 | n => n, fun | 9 => 9 | 31 => 33 | 3 => 3 | 4 => 4 | 0 => 0 | 105 => 157 | 21 => 21 | 5 => 5 | 46 => 81 | 119 => 180 | 139 => 183 | 138 => 182 | 146 => 171 | 51 => 112 | n => n, fun | 1 => 1 | 3 => 5 | 4 => 6 | n => n⟩
theorem Tryz.laysM146 : Go.Proofs.LaysM.n146 Tryz.prog Tryz.laysM146_ren := {
  mixed := by kernel_rfl
  f138 := Tryz.func60.trans (congrArg some (by kernel_rfl))
  f143 := Tryz.func89.trans (congrArg some (by kernel_rfl))
  f146 := Tryz.func91.trans (congrArg some (by kernel_rfl))
  f195 := Tryz.func87.trans (congrArg some (by kernel_rfl))
  f197 := Tryz.func137.trans (congrArg some (by kernel_rfl))
  f217 := Tryz.func130.trans (congrArg some (by kernel_rfl))
  f218 := Tryz.func88.trans (congrArg some (by kernel_rfl))
  f219 := Tryz.func110.trans (congrArg some (by kernel_rfl))
  f221 := Tryz.func112.trans (congrArg some (by kernel_rfl))
  f224 := Tryz.func132.trans (congrArg some (by kernel_rfl))
  f225 := Tryz.func131.trans (congrArg some (by kernel_rfl))
  f260 := Tryz.func153.trans (congrArg some (by kernel_rfl))
  f266 := Tryz.func151.trans (congrArg some (by kernel_rfl))
  f267 := Tryz.func133.trans (congrArg some (by kernel_rfl))
  f268 := Tryz.func135.trans (congrArg some (by kernel_rfl))
  f314 := Tryz.func152.trans (congrArg some (by kernel_rfl))
  t0 := Tryz.underlying0
  a0 := Tryz.isAgg0
  z0 := Tryz.sizeOf0
  v0 := Tryz.zeroValue0
  t3 := Tryz.underlying3
  a3 := Tryz.isAgg3
  z3 := Tryz.sizeOf3
  v3 := Tryz.zeroValue3
  t4 := Tryz.underlying4
  a4 := Tryz.isAgg4
  z4 := Tryz.sizeOf4
  v4 := Tryz.zeroValue4
  t5 := Tryz.underlying5
  a5 := Tryz.isAgg5
  z5 := Tryz.sizeOf5
  v5 := Tryz.zeroValue5
  t9 := Tryz.underlying9
  a9 := Tryz.isAgg9
  z9 := Tryz.sizeOf9
  v9 := Tryz.zeroValue9
  t21 := Tryz.underlying21
  a21 := Tryz.isAgg21
  z21 := Tryz.sizeOf21
  v21 := Tryz.zeroValue21
  t31 := Tryz.underlying33
  a31 := Tryz.isAgg33
  z31 := Tryz.sizeOf33
  v31 := Tryz.zeroValue33
  t46 := Tryz.underlying81
  a46 := Tryz.isAgg81
  z46 := Tryz.sizeOf81
  v46 := Tryz.zeroValue81
  t51 := Tryz.underlying112
  a51 := Tryz.isAgg112
  z51 := Tryz.sizeOf112
  v51 := Tryz.zeroValue112
  t105 := Tryz.underlying157
  a105 := Tryz.isAgg157
  z105 := Tryz.sizeOf157
  v105 := Tryz.zeroValue157
  t119 := Tryz.underlying180
  a119 := Tryz.isAgg180
  z119 := Tryz.sizeOf180
  t138 := Tryz.underlying182
  a138 := Tryz.isAgg182
  z138 := Tryz.sizeOf182
  v138 := Tryz.zeroValue182
  t139 := Tryz.underlying183
  a139 := Tryz.isAgg183
  z139 := Tryz.sizeOf183
  v139 := Tryz.zeroValue183
  t146 := Tryz.underlying171
  a146 := Tryz.isAgg171
  z146 := Tryz.sizeOf171
  v146 := Tryz.zeroValue171
  g1 := by kernel_rfl
  g3 := by kernel_rfl
  g4 := by kernel_rfl
  i0 := by kernel_rfl
  i3 := by kernel_rfl
  i4 := by kernel_rfl
  i5 := by kernel_rfl
  i9 := by kernel_rfl
  i21 := by kernel_rfl
  i31 := by kernel_rfl
  i46 := by kernel_rfl
  i51 := by kernel_rfl
  i105 := by kernel_rfl
  i138 := by kernel_rfl
  i139 := by kernel_rfl
  i146 := by kernel_rfl
  m1 := by kernel_rfl
  s1_3 := fun w h => Go.Proofs.cell_of_shapedOpen_int (zero := #[.int .i64 0]) (t := 3) h (of_decide_eq_true (by kernel_rfl)) (by kernel_rfl) rfl (by kernel_rfl) (by kernel_rfl) Tryz.underlying3
  m3 := by kernel_rfl
  m4 := by kernel_rfl }
open Go.RowKit Go.Lib in
theorem Tryz.strings_Split_shaped (s sep : ByteArray) (w : World) (h : w.ShapedOpen Tryz.prog) (hs : s.size < 4294967281) (h1 : 1 ≤ sep.size) :
    Calls Tryz.prog 91 #[.string s, .string sep] w fun e w' =>
      e = .returned (.slice (some ⟨w.heap.size, 0, none⟩) (Lib.countB s sep + 1) (Lib.countB s sep + 1)) ∧ w' = w.alloc (.cells ((Lib.splitB sep 0 (Lib.countB s sep) s).map Value.string).toArray 9) := Any.strings_Split_shaped Tryz.laysM146 s sep w h hs h1
end Go.Proofs
/- What the walks import; how an ending is spelt. -/
namespace Go.Proofs.YtfibbjnkicjbpaaGreatDoor
open Go.RowKit

theorem ret_bool {a b : Bool} (h : a = b) : Ending.returned (.bool a) = .returned (.bool b) := by rw [h]

theorem ret_int {k : IntKind} {a b : Int} (h : a = b) : Ending.returned (.int k a) = .returned (.int k b) := by rw [h]

theorem str_ret {a b : ByteArray} (h : a = b) : Ending.returned (.string a) = .returned (.string b) := by rw [h]
end Go.Proofs.YtfibbjnkicjbpaaGreatDoor
/- What the walks over labels import. -/
namespace Go.Proofs.YtfibbjnkicjbpaaGreatDoor
open Go.RowKit

/-- Sixty-four truths as cells. -/
structure Bits (cs : Array Value) (f : Nat → Bool) : Prop where
  size : cs.size = 64
  get : ∀ i, i < 64 → cs[i]? = some (.bool (f i))
theorem Bits.cell {w : World} {cs : Array Value} {f : Nat → Bool} {t : TypeId} (h : Bits cs f) (i : Nat) (hi : i < 64) : (w.alloc (.cells cs t)).cell? ⟨w.heap.size, i, none⟩ = some (.bool (f i)) := by
  rw [World.cell?_alloc_mark]; exact h.get i hi
end Go.Proofs.YtfibbjnkicjbpaaGreatDoor
/- The document's Set, by its contract. -/
namespace Go.Proofs.YtfibbjnkicjbpaaGreatDoor
open Go.RowKit

theorem div_pow_step (a k : Nat) : a / 2 ^ (k + 1) = a / 2 ^ k / 2 := by rw [Nat.pow_succ, Nat.div_div_eq_div_mul]
theorem bit_div (a k : Nat) : a.testBit k = (a / 2 ^ k % 2 == 1) := by
  rw [Nat.testBit_eq_decide_div_mod_eq]
  rw [Bool.eq_iff_iff]; simp
theorem bools_one {cs : Array Value} {f : Nat → Bool} (h : Bits cs f) : cs.all (·.oneCell') = true := by
  rw [Array.all_eq_true]
  intro i hi
  have h1 := h.get i (by have := h.size; omega)
  rw [Array.getElem?_eq_getElem hi, Option.some.injEq] at h1
  rw [h1]; rfl
end Go.Proofs.YtfibbjnkicjbpaaGreatDoor
/- The document's Below, by its contract. -/
namespace Go.Proofs.YtfibbjnkicjbpaaGreatDoor
open Go.RowKit

theorem below_no (a b k : Nat) (hk : k < 64) (h1 : a.testBit k = true) (h2 : b.testBit k = false) : belowB a b = false := by
  cases h : belowB a b with
  | false => rfl
  | true => have := (below_iff a b).1 h k hk h1; rw [h2] at this; cases this
theorem below_yes (a b : Nat) (h : ∀ i, i < 64 → (a.testBit i && !b.testBit i) = false) : belowB a b = true := by
  rw [below_iff]
  intro i hi ha
  have := h i hi
  rw [ha] at this
  simpa using this

/-- Two arrays of the call's own, written whole one behind the other. -/
theorem heap_first (w : World) (z z' : Array Value) (T : TypeId) : ((w.alloc (.cells z T)).alloc (.cells z' T)).heap[w.heap.size]? = some (.cells z T (0, 0)) := by
  rw [heap_alloc_old _ _ (by simp)]; exact heap_alloc_new _ _
theorem heap_second (w : World) (z z' cs : Array Value) (T : TypeId) : (((w.alloc (.cells z T)).alloc (.cells z' T)).setRow w.heap.size cs).heap[w.heap.size + 1]? = some (.cells z' T (0, 0)) := by
  rw [setRow_other _ _ _ _ (by omega)]
  have := heap_alloc_new (w.alloc (.cells z T)) (.cells z' T)
  simpa using this
def TwoArr (w W : World) (cs ds : Array Value) : Prop := W.heap.size = w.heap.size + 2 ∧ Below w.heap.size w W ∧ (∀ i, W.cell? ⟨w.heap.size, i, none⟩ = cs[i]?) ∧ ∀ i, W.cell? ⟨w.heap.size + 1, i, none⟩ = ds[i]?
theorem twoArr (w : World) (z z' cs ds : Array Value) (T : TypeId) : TwoArr w ((((w.alloc (.cells z T)).alloc (.cells z' T)).setRow w.heap.size cs).setRow (w.heap.size + 1) ds) cs ds := by
  have h1 := heap_first w z z' T
  have h2 := heap_second w z z' cs T
  have h3 := setRow_heap _ _ _ cs _ _ h1
  have h4 := setRow_heap _ _ _ ds _ _ h2
  refine ⟨by simp, below_setRow (below_setRow (((Below.refl _ _).alloc (Nat.le_refl _) _).alloc (by simp) _) (Nat.le_refl _) _) (by omega) _, fun i => ?_, fun i => cell_of_row _ _ _ _ _ _ h4⟩
  have h5 : ((((w.alloc (.cells z T)).alloc (.cells z' T)).setRow w.heap.size cs).setRow (w.heap.size + 1) ds).heap[w.heap.size]? = some (.cells cs T (0, 0)) := by
    rw [setRow_other _ _ _ _ (by omega)]; exact h3
  exact cell_of_row _ _ _ _ _ _ h5

end Go.Proofs.YtfibbjnkicjbpaaGreatDoor
/- The document's Word, by its contract. -/
namespace Go.Proofs.YtfibbjnkicjbpaaGreatDoor
open Go.RowKit

end Go.Proofs.YtfibbjnkicjbpaaGreatDoor
/- The document's Both, by its contract. -/
namespace Go.Proofs.YtfibbjnkicjbpaaGreatDoor
open Go.RowKit

theorem both1 (a b k : Nat) : bothF 1 a b k = (a.testBit k || b.testBit k) := rfl
theorem both2 (a b k : Nat) : bothF 2 a b k = (a.testBit k && b.testBit k) := rfl
theorem both3 (a b k : Nat) : bothF 3 a b k = (a.testBit k && !b.testBit k) := rfl

end Go.Proofs.YtfibbjnkicjbpaaGreatDoor
