/- Plain facts about bytes, names and texts: no program. -/
import Derived.Lib.Bytealg
import Derived.Laws.Strings
import Derived.Lib.SpaceUEq
namespace Go.Proofs.Ytjmnbnlhahbcjaa
open Go

/-- May the bytes be a line's text? -/
def textL (l : List UInt8) : Bool := decide (l.length ≤ 256) && !l.contains 10
theorem drop_cons (s : ByteArray) (pos : Nat) (h : pos < s.size) : s.data.toList.drop pos = s[pos] :: s.data.toList.drop (pos + 1) := by
  rw [List.drop_eq_getElem_cons (by simpa using h)]; rfl

theorem index_byte (b : UInt8) : ∀ l : List UInt8, decide (0 ≤ Lib.indexByte l b) = l.contains b
  | [] => by simp [Lib.indexByte]
  | a :: t => by
    have ih := index_byte b t
    unfold Lib.indexByte
    rw [List.contains_cons]
    by_cases h : b = a
    · subst h; simp
    · have hge := Lib.indexByte_ge t b
      rw [beq_false_of_ne (Ne.symm h), beq_false_of_ne h, Bool.false_or, ← ih]
      simp only [Bool.false_eq_true, if_false]
      by_cases h1 : Lib.indexByte t b = -1
      · rw [h1]; decide
      · rw [if_neg (by rw [beq_iff_eq]; exact h1)]
        rw [Bool.eq_iff_iff]; simp; omega

/-- What Check answers. -/
def checkE (n r : Int) (l : List UInt8) : Int := if n < 1 ∨ 4611686018427387904 < n ∨ r < 0 ∨ 4611686018427387904 < r ∨ textL l = false then 10 else 0
theorem len_size (s : ByteArray) : s.data.toList.length = s.size := by simp
theorem bytes_some (s : ByteArray) (h : 1 ≤ s.size) : ¬ s.toList = [] ∧ s.toList.isEmpty = false := by
  have h2 : ¬ s.toList = [] := by
    rw [ByteArray.toList_eq]; intro e
    have h3 := len_size s
    rw [e] at h3
    have h4 : 0 = s.size := h3
    omega
  exact ⟨h2, List.isEmpty_eq_false_iff.2 h2⟩
theorem bytes_none (s : ByteArray) (h : ¬ 1 ≤ s.size) : s.toList = [] ∧ s.toList.isEmpty = true := by
  have h2 : s.toList = [] := by
    rw [ByteArray.toList_eq]
    apply List.eq_nil_of_length_eq_zero
    rw [len_size]; omega
  exact ⟨h2, by rw [h2]; rfl⟩
theorem take_snoc (s : ByteArray) (k : Nat) (h : k < s.size) : s.data.toList.take (k + 1) = s.data.toList.take k ++ [s[k]] := by
  rw [List.take_succ_eq_append_getElem (by simpa using h)]; rfl
theorem take_all (s : ByteArray) : s.data.toList.take s.size = s.data.toList := List.take_of_length_le (by simp)
def No10 (s : ByteArray) (k : Nat) : Prop := (s.data.toList.take k).contains 10 = false
theorem no10_start (s : ByteArray) : No10 s 0 := by simp [No10]
theorem no10_step (s : ByteArray) (k : Nat) (h : k < s.size) (hn : No10 s k) (hb : ((s[k].toNat : Int) == 10) = false) : No10 s (k + 1) := by
  unfold No10 at hn ⊢
  rw [take_snoc s k h, List.contains_append, hn]
  have : (s[k] == 10) = false := by
    rw [beq_eq_false_iff_ne] at hb ⊢
    intro e; apply hb; rw [e]; rfl
  simp only [Bool.false_or]
  simp only [List.contains_cons, List.contains_nil, Bool.or_false]
  rw [beq_eq_false_iff_ne] at this ⊢
  exact fun e => this e.symm
theorem no10_hit (s : ByteArray) (k : Nat) (h : k < s.size) (hb : ((s[k].toNat : Int) == 10) = true) : textL s.data.toList = false := by
  have h1 : s[k].toNat = 10 := by have := beq_iff_eq.1 hb; omega
  have h2 : s[k] = 10 := by rw [← UInt8.toNat_inj]; exact h1
  have h3 : s.data.toList.contains 10 = true := by
    rw [List.contains_iff_mem, ← h2]
    exact List.getElem_mem (by simpa using h)
  unfold textL; rw [h3]; simp
theorem no10_end (s : ByteArray) (hn : No10 s s.size) : textL s.data.toList = decide ((s.size : Int) ≤ 256) := by
  unfold No10 at hn
  rw [take_all] at hn
  unfold textL; rw [hn]
  have e : s.data.toList.length = s.size := by simp
  rw [e]
  rw [Bool.eq_iff_iff]; simp; omega

theorem text_long (s : ByteArray) (h : ¬ s.size ≤ 256) : textL s.data.toList = false := by
  unfold textL
  have e : s.data.toList.length = s.size := by simp
  rw [e, decide_eq_false h]; rfl
theorem text_short (s : ByteArray) (h : s.size ≤ 256) : textL s.data.toList = !decide (0 ≤ Lib.indexByte s.data.toList 10) := by
  unfold textL
  have e : s.data.toList.length = s.size := by simp
  rw [e, decide_eq_true h, index_byte]; rfl

theorem check_no (n r : Int) (l : List UInt8) (h : n < 1 ∨ 4611686018427387904 < n ∨ r < 0 ∨ 4611686018427387904 < r ∨ textL l = false) : checkE n r l = 10 := by
  unfold checkE; rw [if_pos h]
theorem check_yes (n r : Int) (l : List UInt8) (h1 : 1 ≤ n) (h2 : n ≤ 4611686018427387904) (h3 : 0 ≤ r) (h4 : r ≤ 4611686018427387904) (h5 : textL l = true) : checkE n r l = 0 := by
  unfold checkE; rw [if_neg]; rintro (h | h | h | h | h)
  · omega
  · omega
  · omega
  · omega
  · rw [h5] at h; cases h
end Go.Proofs.Ytjmnbnlhahbcjaa
