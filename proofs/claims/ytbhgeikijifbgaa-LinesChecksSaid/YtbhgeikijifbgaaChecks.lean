/- What may be a line, a text, a name: the document's answers and the program's, each by its contract. -/
import Derived.Test.YtbhgeikijifbgaaRows
import Derived.Test.YtbhgeikijifbgaaPlain
import Derived.Test.YtbhgeikijifbgaaShelf
import Derived.WalkKit
import Derived.WalkSpells
import Derived.WalkLawsBesides
import Derived.Lib.Hide
import Derived.Lib.SmallJoins
namespace Go.Proofs.Ytbhgeikijifbgaa
open Go.RowKit

def No10 (s : ByteArray) (k : Nat) : Prop := (s.data.toList.take k).contains 10 = false
theorem no10_start (s : ByteArray) : No10 s 0 := by simp [No10]
theorem no10_step (s : ByteArray) (k : Nat) (h : k < s.size) (hn : No10 s k) (hb : ((s[k].toNat : Int) == 10) = false) : No10 s (k + 1) := by
  unfold No10 at hn ⊢
  rw [take_snoc s k h, List.contains_append, hn]
  have : (s[k] == 10) = false := by
    rw [beq_eq_false_iff_ne] at hb ⊢
    intro e; apply hb; rw [e]; rfl
  simp only [Bool.false_or]
  simp only [List.contains_cons, List.contains_nil, Bool.or_false]
  rw [beq_eq_false_iff_ne] at this ⊢
  exact fun e => this e.symm
theorem no10_hit (s : ByteArray) (k : Nat) (h : k < s.size) (hb : ((s[k].toNat : Int) == 10) = true) : textL s.data.toList = false := by
  have h1 : s[k].toNat = 10 := by have := beq_iff_eq.1 hb; omega
  have h2 : s[k] = 10 := by rw [← UInt8.toNat_inj]; exact h1
  have h3 : s.data.toList.contains 10 = true := by
    rw [List.contains_iff_mem, ← h2]
    exact List.getElem_mem (by simpa using h)
  unfold textL; rw [h3]; simp
theorem no10_end (s : ByteArray) (hn : No10 s s.size) : textL s.data.toList = decide ((s.size : Int) ≤ 256) := by
  unfold No10 at hn
  rw [take_all] at hn
  unfold textL; rw [hn]
  have e : s.data.toList.length = s.size := by simp
  rw [e]
  rw [Bool.eq_iff_iff]; simp; omega

theorem ret_bool {a b : Bool} (h : a = b) : Ending.returned (.bool a) = .returned (.bool b) := by rw [h]

set_option maxHeartbeats 400000 in
theorem refText_any (s : ByteArray) (w : World) (hs : s.size ≤ maxLen) :
    Calls Try.prog 8 #[.string s] w fun e w' => e = .returned (.bool (textL s.data.toList)) ∧ w = w' := by
  unfold maxLen at hs
  go_enter Try.func8, Try.ntmps8
  go_wp2
  go_loop [3] (fun i => ∃ k : Nat, k ≤ s.size ∧ i = .int .i64 k ∧ No10 s k) (fun i => s.size - (intOf i).toNat)
  case atStart => exact ⟨0, Nat.zero_le _, rfl, no10_start s⟩
  case round =>
    obtain ⟨k, hk, rfl, hn⟩ := hrel
    by_cases hlt : k < s.size
    · cases hb : ((s[k].toNat : Int) == 10)
      · have hn' := Lib.hid (no10_step s k hlt hn hb)
        go_wp2
        go_round
        case rel => exact ⟨k + 1, by omega, by go_num, hn'.out⟩
        case measure => simp [intOf]; omega
      · have he := Lib.hid (no10_hit s k hlt hb)
        go_wp2
        go_ret
        exact ⟨ret_bool he.out.symm, rfl⟩
    · obtain rfl : k = s.size := by omega
      have he := Lib.hid (no10_end s hn)
      go_wp2
      go_ret
      exact ⟨ret_bool he.out.symm, rfl⟩

theorem text_long (s : ByteArray) (h : ¬ s.size ≤ 256) : textL s.data.toList = false := by
  unfold textL
  have e : s.data.toList.length = s.size := by simp
  rw [e, decide_eq_false h]; rfl
theorem text_short (s : ByteArray) (h : s.size ≤ 256) : textL s.data.toList = !decide (0 ≤ Lib.indexByte s.data.toList 10) := by
  unfold textL
  have e : s.data.toList.length = s.size := by simp
  rw [e, decide_eq_true h, index_byte]; rfl

set_option maxHeartbeats 400000 in
theorem text_any (s : ByteArray) (w : World) (hs : s.size ≤ maxLen) :
    Calls Try.prog 7 #[.string s] w fun e w' => e = .returned (.bool (textL s.data.toList)) ∧ w = w' := by
  unfold maxLen at hs
  by_cases h : s.size ≤ 256
  · have he := Lib.hid (text_short s h)
    go_enter Try.func7, Try.ntmps7
    go_wp2_with (go_at_call 16; refine (Try.strings_Contains_one s 10 _).mono ?_; rintro e w' ⟨rfl, rfl⟩)
    go_ret
    exact ⟨ret_bool he.out.symm, rfl⟩
  · have he := Lib.hid (text_long s h)
    go_enter Try.func7, Try.ntmps7
    go_wp2
    go_ret
    exact ⟨ret_bool he.out.symm, rfl⟩

/-! names -/
def AllCh (s : ByteArray) (k : Nat) : Prop := (s.data.toList.take k).all nameCh = true
theorem allch_start (s : ByteArray) : AllCh s 0 := by simp [AllCh]
theorem allch_step (s : ByteArray) (k : Nat) (h : k < s.size) (hn : AllCh s k) (hb : nameCh s[k] = true) : AllCh s (k + 1) := by
  unfold AllCh at hn ⊢
  rw [take_snoc s k h, List.all_append, hn]
  simp [hb]
theorem allch_hit (s : ByteArray) (k : Nat) (h : k < s.size) (hb : nameCh s[k] = false) : nameL s.data.toList = false := by
  have h3 : s.data.toList.all nameCh = false := by
    rw [List.all_eq_false]
    exact ⟨s[k], List.getElem_mem (by simpa using h), by simp [hb]⟩
  unfold nameL; rw [h3]; simp
theorem allch_end (s : ByteArray) (h1 : 1 ≤ s.size) (hn : AllCh s s.size) : nameL s.data.toList = decide ((s.size : Int) ≤ 32) := by
  unfold AllCh at hn
  rw [take_all] at hn
  unfold nameL; rw [hn]
  have e : s.data.toList.length = s.size := by simp
  rw [e, Bool.and_true, decide_eq_true h1]
  rw [Bool.eq_iff_iff]; simp; omega
theorem name_empty (s : ByteArray) (h1 : ¬ 1 ≤ s.size) : nameL s.data.toList = false := by
  unfold nameL
  have e : s.data.toList.length = s.size := by simp
  rw [e, decide_eq_false h1]; rfl

set_option maxHeartbeats 1000000 in
theorem refName_any (s : ByteArray) (w : World) (hs : s.size ≤ maxLen) :
    Calls Try.prog 10 #[.string s] w fun e w' => e = .returned (.bool (nameL s.data.toList)) ∧ w = w' := by
  unfold maxLen at hs
  go_enter Try.func10, Try.ntmps10
  go_wp2
  go_loop [3] (fun i => ∃ k : Nat, k ≤ s.size ∧ i = .int .i64 k ∧ AllCh s k) (fun i => s.size - (intOf i).toNat)
  case atStart => exact ⟨0, Nat.zero_le _, rfl, allch_start s⟩
  case round =>
    obtain ⟨k, hk, rfl, hn⟩ := hrel
    by_cases hlt : k < s.size
    · cases hb : nameCh s[k]
      · have he := Lib.hid (allch_hit s k hlt hb)
        obtain ⟨⟨hx1, hx2⟩, hx⟩ := nameCh_no s[k] hb
        clear hb hn
        rcases hx with hx | ⟨hx, hy⟩ | hx
        · go_wp2
          go_ret
          exact ⟨ret_bool he.out.symm, rfl⟩
        · have hd : decide ((s[k].toNat : Int) ≤ 57) = false := decide_eq_false (by omega)
          go_wp2
          go_ret
          exact ⟨ret_bool he.out.symm, rfl⟩
        · have hd : decide ((s[k].toNat : Int) ≤ 57) = false := decide_eq_false (by omega)
          have hd2 : decide ((s[k].toNat : Int) ≤ 122) = false := decide_eq_false (by omega)
          go_wp2
          go_ret
          exact ⟨ret_bool he.out.symm, rfl⟩
      · have hn' := Lib.hid (allch_step s k hlt hn hb)
        have hx := nameCh_yes s[k] hb
        clear hb hn
        rcases hx with ⟨hx, hy⟩ | ⟨hx, hy⟩ | ⟨hx, hy⟩ | ⟨hx, hy, hz, hu⟩
        all_goals go_wp2
        all_goals go_round
        all_goals first | exact ⟨k + 1, by omega, by go_num, hn'.out⟩ | (simp [intOf]; omega)
    · obtain rfl : k = s.size := by omega
      by_cases h1 : 1 ≤ s.size
      · have he := Lib.hid (allch_end s h1 hn)
        clear hn
        go_wp2
        go_ret
        exact ⟨ret_bool he.out.symm, rfl⟩
      · have he := Lib.hid (name_empty s h1)
        clear hn
        go_wp2
        go_ret
        exact ⟨ret_bool he.out.symm, rfl⟩

/-- 'foreign', as ContainsFunc asks it. -/
theorem foreign_at (w : World) : Go.Proofs.PredAt Try.prog 18 #[] Go.Proofs.encR foreignR w := fun W r _ => by
  unfold FnGives
  rcases (by omega : r < 45 ∨ r = 45 ∨ (45 < r ∧ r < 48) ∨ (48 ≤ r ∧ r ≤ 57) ∨ (57 < r ∧ r < 95) ∨ r = 95 ∨ r = 96 ∨ (97 ≤ r ∧ r ≤ 122) ∨ 122 < r) with h | h | ⟨h, g⟩ | ⟨h, g⟩ | ⟨h, g⟩ | h | h | ⟨h, g⟩ | h
  all_goals
    obtain ⟨b, hb⟩ : ∃ b, foreignR r = b := ⟨_, rfl⟩
    have he := Lib.hid hb
    rw [hb]; clear hb
    go_enter Try.func18, Try.ntmps18
    go_wp2
    go_ret
    have hf := he.out
    unfold foreignR at hf
    exact ⟨ret_bool (by rw [← hf, Bool.eq_iff_iff]; simp; omega), 0, rfl⟩
end Go.Proofs.Ytbhgeikijifbgaa
