/- Texts of the proof, merged: Plain. -/
import Derived.Shelf.GgClosure.StringsIndexFunc
import Derived.Lib.Bytealg
import Derived.Laws.Strings
import Derived.Lib.SpaceUEq
/- Plain facts about bytes, names and texts: no program. -/
namespace Go.Proofs.YtfkkodcppaakjaaGreatDoor
open Go

/-- May the bytes be a line's text? -/
def textL (l : List UInt8) : Bool := decide (l.length ≤ 256) && !l.contains 10
/-- May the byte stand in a name? -/
def nameCh (c : UInt8) : Bool := (decide (97 ≤ c.toNat) && decide (c.toNat ≤ 122)) || (decide (48 ≤ c.toNat) && decide (c.toNat ≤ 57)) || decide (c.toNat = 45) || decide (c.toNat = 95)
/-- Are the bytes a name? -/
def nameL (l : List UInt8) : Bool := decide (1 ≤ l.length) && decide (l.length ≤ 32) && l.all nameCh
/-- The rune that has no place in a name. -/
def foreignR (r : Nat) : Bool := (decide (r < 97) || decide (122 < r)) && (decide (r < 48) || decide (57 < r)) && !decide (r = 45) && !decide (r = 95)

theorem foreign_ch (c : UInt8) : foreignR c.toNat = !nameCh c := by
  unfold foreignR nameCh
  rw [Bool.eq_iff_iff]
  simp
theorem foreign_hi (r : Nat) (h : 128 ≤ r) : foreignR r = true := by
  have h1 : ¬ r < 97 := by omega
  unfold foreignR
  simp
  omega

theorem get_bang (s : ByteArray) (k : Nat) (h : k < s.size) : s.get! k = s[k] := by
  show s.data[k]! = s.data[k]
  exact getElem!_pos s.data k h

theorem dec_lo (s : ByteArray) (pos : Nat) (h : pos < s.size) (hb : s[pos].toNat < 128) : Utf8.decode s pos = (s[pos].toNat, 1) := by
  rw [Lib.decode_at, get_bang s pos h]
  unfold Lib.decodeN
  rw [if_pos hb]
theorem dec_hi (s : ByteArray) (pos : Nat) (h : pos < s.size) (hb : 128 ≤ s[pos].toNat) : 128 ≤ (Utf8.decode s pos).1 := by
  rw [Lib.decode_at, get_bang s pos h]
  rcases Lib.decodeN_cases (s.size - pos) s[pos].toNat (s.get! (pos + 1)).toNat (s.get! (pos + 2)).toNat (s.get! (pos + 3)).toNat with ⟨h1, _⟩ | ⟨_, _, _, h1, h2⟩ | ⟨_, _, _, _, h1, h2⟩ | ⟨h1, _⟩ | h1
  · omega
  · rw [h2]; exact h1
  · rw [h2]; simp only; omega
  · omega
  · rw [h1]; simp

theorem drop_cons (s : ByteArray) (pos : Nat) (h : pos < s.size) : s.data.toList.drop pos = s[pos] :: s.data.toList.drop (pos + 1) := by
  rw [List.drop_eq_getElem_cons (by simpa using h)]; rfl

theorem idx_any (p : Nat → Bool) (hp : ∀ r, 128 ≤ r → p r = true) (s : ByteArray) : ∀ (f pos : Nat), s.size ≤ pos + f →
    decide (0 ≤ Lib.idxFuncFrom p true s f pos) = (s.data.toList.drop pos).any fun c => p c.toNat
  | 0, pos, h => by
    rw [List.drop_eq_nil_of_le (by simpa using h)]
    simp [Lib.idxFuncFrom]
  | f + 1, pos, h => by
    by_cases hlt : pos < s.size
    · rw [drop_cons s pos hlt]
      by_cases hb : s[pos].toNat < 128
      · cases hc : p s[pos].toNat
        · have e : Lib.idxFuncFrom p true s (f + 1) pos = Lib.idxFuncFrom p true s f (pos + 1) := by
            simp only [Lib.idxFuncFrom, hlt, if_true, dec_lo s pos hlt hb, hc]; simp
          rw [e, idx_any p hp s f (pos + 1) (by omega)]
          simp [hc]
        · have e : Lib.idxFuncFrom p true s (f + 1) pos = (pos : Int) := by
            simp only [Lib.idxFuncFrom, hlt, if_true, dec_lo s pos hlt hb, hc]
          rw [e]
          simp [hc]
      · have h1 := hp _ (dec_hi s pos hlt (by omega))
        have e : Lib.idxFuncFrom p true s (f + 1) pos = (pos : Int) := by
          simp only [Lib.idxFuncFrom, hlt, if_true, h1]
        rw [e]
        simp [hp s[pos].toNat (by omega)]
    · rw [List.drop_eq_nil_of_le (by simpa using Nat.le_of_not_lt hlt), Lib.idxFuncFrom_end _ _ _ _ _ hlt]
      rfl

theorem foreign_idx (s : ByteArray) : decide (0 ≤ Lib.idxFunc foreignR true s) = !(s.data.toList.all nameCh) := by
  unfold Lib.idxFunc
  rw [idx_any foreignR foreign_hi s s.size 0 (by omega)]
  rw [List.drop_zero]
  generalize s.data.toList = l
  induction l with
  | nil => rfl
  | cons a t ih => rw [List.any_cons, List.all_cons, foreign_ch, ih, Bool.not_and]

theorem index_byte (b : UInt8) : ∀ l : List UInt8, decide (0 ≤ Lib.indexByte l b) = l.contains b
  | [] => by simp [Lib.indexByte]
  | a :: t => by
    have ih := index_byte b t
    unfold Lib.indexByte
    rw [List.contains_cons]
    by_cases h : b = a
    · subst h; simp
    · have hge := Lib.indexByte_ge t b
      rw [beq_false_of_ne (Ne.symm h), beq_false_of_ne h, Bool.false_or, ← ih]
      simp only [Bool.false_eq_true, if_false]
      by_cases h1 : Lib.indexByte t b = -1
      · rw [h1]; decide
      · rw [if_neg (by rw [beq_iff_eq]; exact h1)]
        rw [Bool.eq_iff_iff]; simp; omega

/-- May it stand in a name: in numbers. -/
theorem nameCh_iff (c : UInt8) : nameCh c = true ↔ (97 ≤ c.toNat ∧ c.toNat ≤ 122) ∨ (48 ≤ c.toNat ∧ c.toNat ≤ 57) ∨ c.toNat = 45 ∨ c.toNat = 95 := by
  unfold nameCh; simp [or_assoc]
theorem nameCh_no (c : UInt8) (h : nameCh c = false) : (((c.toNat : Int) == 45) = false ∧ ((c.toNat : Int) == 95) = false) ∧ ((c.toNat : Int) < 48 ∨ (57 < (c.toNat : Int) ∧ (c.toNat : Int) < 97) ∨ 122 < (c.toNat : Int)) := by
  have hx : ¬ ((97 ≤ c.toNat ∧ c.toNat ≤ 122) ∨ (48 ≤ c.toNat ∧ c.toNat ≤ 57) ∨ c.toNat = 45 ∨ c.toNat = 95) := fun h' => Bool.false_ne_true (h.symm.trans ((nameCh_iff c).2 h'))
  refine ⟨⟨beq_false_of_ne (by omega), beq_false_of_ne (by omega)⟩, by omega⟩
theorem nameCh_yes (c : UInt8) (h : nameCh c = true) : (97 ≤ (c.toNat : Int) ∧ (c.toNat : Int) ≤ 122) ∨ (48 ≤ (c.toNat : Int) ∧ (c.toNat : Int) ≤ 57) ∨ (((c.toNat : Int) == 45) = true ∧ (c.toNat : Int) < 48) ∨ (((c.toNat : Int) == 45) = false ∧ ((c.toNat : Int) == 95) = true ∧ 57 < (c.toNat : Int) ∧ (c.toNat : Int) < 97) := by
  rcases (nameCh_iff c).1 h with h | h | h | h
  · exact .inl (by omega)
  · exact .inr (.inl (by omega))
  · exact .inr (.inr (.inl ⟨beq_iff_eq.2 (by omega), by omega⟩))
  · exact .inr (.inr (.inr ⟨beq_false_of_ne (by omega), beq_iff_eq.2 (by omega), by omega, by omega⟩))
/-- What Check answers. -/
def checkE (n r : Int) (l : List UInt8) : Int := if n < 1 ∨ 4611686018427387904 < n ∨ r < 0 ∨ 4611686018427387904 < r ∨ textL l = false then 10 else 0
theorem len_size (s : ByteArray) : s.data.toList.length = s.size := by simp
theorem bytes_some (s : ByteArray) (h : 1 ≤ s.size) : ¬ s.toList = [] ∧ s.toList.isEmpty = false := by
  have h2 : ¬ s.toList = [] := by
    rw [ByteArray.toList_eq]; intro e
    have h3 := len_size s
    rw [e] at h3
    have h4 : 0 = s.size := h3
    omega
  exact ⟨h2, List.isEmpty_eq_false_iff.2 h2⟩
theorem bytes_none (s : ByteArray) (h : ¬ 1 ≤ s.size) : s.toList = [] ∧ s.toList.isEmpty = true := by
  have h2 : s.toList = [] := by
    rw [ByteArray.toList_eq]
    apply List.eq_nil_of_length_eq_zero
    rw [len_size]; omega
  exact ⟨h2, by rw [h2]; rfl⟩
theorem take_snoc (s : ByteArray) (k : Nat) (h : k < s.size) : s.data.toList.take (k + 1) = s.data.toList.take k ++ [s[k]] := by
  rw [List.take_succ_eq_append_getElem (by simpa using h)]; rfl
theorem take_all (s : ByteArray) : s.data.toList.take s.size = s.data.toList := List.take_of_length_le (by simp)
def No10 (s : ByteArray) (k : Nat) : Prop := (s.data.toList.take k).contains 10 = false
theorem no10_start (s : ByteArray) : No10 s 0 := by simp [No10]
theorem no10_step (s : ByteArray) (k : Nat) (h : k < s.size) (hn : No10 s k) (hb : ((s[k].toNat : Int) == 10) = false) : No10 s (k + 1) := by
  unfold No10 at hn ⊢
  rw [take_snoc s k h, List.contains_append, hn]
  have : (s[k] == 10) = false := by
    rw [beq_eq_false_iff_ne] at hb ⊢
    intro e; apply hb; rw [e]; rfl
  simp only [Bool.false_or]
  simp only [List.contains_cons, List.contains_nil, Bool.or_false]
  rw [beq_eq_false_iff_ne] at this ⊢
  exact fun e => this e.symm
theorem no10_hit (s : ByteArray) (k : Nat) (h : k < s.size) (hb : ((s[k].toNat : Int) == 10) = true) : textL s.data.toList = false := by
  have h1 : s[k].toNat = 10 := by have := beq_iff_eq.1 hb; omega
  have h2 : s[k] = 10 := by rw [← UInt8.toNat_inj]; exact h1
  have h3 : s.data.toList.contains 10 = true := by
    rw [List.contains_iff_mem, ← h2]
    exact List.getElem_mem (by simpa using h)
  unfold textL; rw [h3]; simp
theorem no10_end (s : ByteArray) (hn : No10 s s.size) : textL s.data.toList = decide ((s.size : Int) ≤ 256) := by
  unfold No10 at hn
  rw [take_all] at hn
  unfold textL; rw [hn]
  have e : s.data.toList.length = s.size := by simp
  rw [e]
  rw [Bool.eq_iff_iff]; simp; omega

theorem text_long (s : ByteArray) (h : ¬ s.size ≤ 256) : textL s.data.toList = false := by
  unfold textL
  have e : s.data.toList.length = s.size := by simp
  rw [e, decide_eq_false h]; rfl
theorem text_short (s : ByteArray) (h : s.size ≤ 256) : textL s.data.toList = !decide (0 ≤ Lib.indexByte s.data.toList 10) := by
  unfold textL
  have e : s.data.toList.length = s.size := by simp
  rw [e, decide_eq_true h, index_byte]; rfl

def AllCh (s : ByteArray) (k : Nat) : Prop := (s.data.toList.take k).all nameCh = true
theorem allch_start (s : ByteArray) : AllCh s 0 := by simp [AllCh]
theorem allch_step (s : ByteArray) (k : Nat) (h : k < s.size) (hn : AllCh s k) (hb : nameCh s[k] = true) : AllCh s (k + 1) := by
  unfold AllCh at hn ⊢
  rw [take_snoc s k h, List.all_append, hn]
  simp [hb]
theorem allch_hit (s : ByteArray) (k : Nat) (h : k < s.size) (hb : nameCh s[k] = false) : nameL s.data.toList = false := by
  have h3 : s.data.toList.all nameCh = false := by
    rw [List.all_eq_false]
    exact ⟨s[k], List.getElem_mem (by simpa using h), by simp [hb]⟩
  unfold nameL; rw [h3]; simp
theorem allch_end (s : ByteArray) (h1 : 1 ≤ s.size) (hn : AllCh s s.size) : nameL s.data.toList = decide ((s.size : Int) ≤ 32) := by
  unfold AllCh at hn
  rw [take_all] at hn
  unfold nameL; rw [hn]
  have e : s.data.toList.length = s.size := by simp
  rw [e, Bool.and_true, decide_eq_true h1]
  rw [Bool.eq_iff_iff]; simp; omega
theorem name_empty (s : ByteArray) (h1 : ¬ 1 ≤ s.size) : nameL s.data.toList = false := by
  unfold nameL
  have e : s.data.toList.length = s.size := by simp
  rw [e, decide_eq_false h1]; rfl

theorem name_short (s : ByteArray) (h1 : 1 ≤ s.size) (h : s.size ≤ 32) : nameL s.data.toList = !decide (0 ≤ Lib.idxFunc foreignR true s) := by
  rw [foreign_idx]
  unfold nameL
  have e : s.data.toList.length = s.size := by simp
  rw [e, decide_eq_true h, decide_eq_true h1]; simp
theorem name_long (s : ByteArray) (h : ¬ s.size ≤ 32) : nameL s.data.toList = false := by
  unfold nameL
  have e : s.data.toList.length = s.size := by simp
  rw [e, decide_eq_false h]; simp

theorem check_no (n r : Int) (l : List UInt8) (h : n < 1 ∨ 4611686018427387904 < n ∨ r < 0 ∨ 4611686018427387904 < r ∨ textL l = false) : checkE n r l = 10 := by
  unfold checkE; rw [if_pos h]
theorem check_yes (n r : Int) (l : List UInt8) (h1 : 1 ≤ n) (h2 : n ≤ 4611686018427387904) (h3 : 0 ≤ r) (h4 : r ≤ 4611686018427387904) (h5 : textL l = true) : checkE n r l = 0 := by
  unfold checkE; rw [if_neg]; rintro (h | h | h | h | h)
  · omega
  · omega
  · omega
  · omega
  · rw [h5] at h; cases h
end Go.Proofs.YtfkkodcppaakjaaGreatDoor
