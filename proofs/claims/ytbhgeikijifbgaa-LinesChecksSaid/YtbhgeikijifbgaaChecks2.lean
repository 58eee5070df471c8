/- lines.Name, lines.Check and the document's Check, each by its contract. -/
import Derived.Test.YtbhgeikijifbgaaChecks
namespace Go.Proofs.Ytbhgeikijifbgaa
open Go.RowKit

theorem name_short (s : ByteArray) (h1 : 1 ≤ s.size) (h : s.size ≤ 32) : nameL s.data.toList = !decide (0 ≤ Lib.idxFunc foreignR true s) := by
  rw [foreign_idx]
  unfold nameL
  have e : s.data.toList.length = s.size := by simp
  rw [e, decide_eq_true h, decide_eq_true h1]; simp
theorem name_long (s : ByteArray) (h : ¬ s.size ≤ 32) : nameL s.data.toList = false := by
  unfold nameL
  have e : s.data.toList.length = s.size := by simp
  rw [e, decide_eq_false h]; simp

set_option maxHeartbeats 400000 in
theorem name_any (s : ByteArray) (w : World) (hs : s.size ≤ maxLen) :
    Calls Try.prog 9 #[.string s] w fun e w' => e = .returned (.bool (nameL s.data.toList)) ∧ Below w.heap.size w w' := by
  unfold maxLen at hs
  have hC := fun W => Try.strings_ContainsFunc 18 #[] (enters_of Try.func18 (by kernel_rfl) rfl) foreignR s W (foreign_at W)
  by_cases h0 : 1 ≤ s.size
  · obtain ⟨hne, hne2⟩ := bytes_some s h0
    by_cases h : s.size ≤ 32
    · have he := Lib.hid (name_short s h0 h)
      obtain ⟨b, hb⟩ : ∃ b, Lib.idxFunc foreignR true s = b := ⟨_, rfl⟩
      rw [hb] at hC he
      clear hb
      go_enter Try.func9, Try.ntmps9
      go_wp2_with (go_at_call 17; refine (hC _).mono ?_; rintro e w' ⟨rfl, hb⟩)
      go_ret
      exact ⟨ret_bool he.out.symm, hb⟩
    · have he := Lib.hid (name_long s h)
      clear hC
      go_enter Try.func9, Try.ntmps9
      go_wp2
      go_ret
      exact ⟨ret_bool he.out.symm, Below.refl _ _⟩
  · have he := Lib.hid (name_empty s h0)
    clear hC
    obtain ⟨hne, hne2⟩ := bytes_none s h0
    go_enter Try.func9, Try.ntmps9
    go_wp2
    go_ret
    exact ⟨ret_bool he.out.symm, Below.refl _ _⟩

/-! Check -/
theorem check_no (n r : Int) (l : List UInt8) (h : n < 1 ∨ 4611686018427387904 < n ∨ r < 0 ∨ 4611686018427387904 < r ∨ textL l = false) : checkE n r l = 10 := by
  unfold checkE; rw [if_pos h]
theorem check_yes (n r : Int) (l : List UInt8) (h1 : 1 ≤ n) (h2 : n ≤ 4611686018427387904) (h3 : 0 ≤ r) (h4 : r ≤ 4611686018427387904) (h5 : textL l = true) : checkE n r l = 0 := by
  unfold checkE; rw [if_neg]; rintro (h | h | h | h | h)
  · omega
  · omega
  · omega
  · omega
  · rw [h5] at h; cases h
theorem ret_int {k : IntKind} {a b : Int} (h : a = b) : Ending.returned (.int k a) = .returned (.int k b) := by rw [h]

set_option maxHeartbeats 1000000 in
theorem refCheck_any (u n r : Int) (s : ByteArray) (w : World) (hs : s.size ≤ maxLen) :
    Calls Try.prog 6 #[.agg #[.int .u64 u, .int .i64 n, .int .i64 r, .string s]] w fun e w' => e = .returned (.int .i64 (checkE n r s.data.toList)) ∧ Below w.heap.size w w' := by
  by_cases h1 : n < 1
  · have he := Lib.hid (check_no n r s.data.toList (.inl h1))
    go_enter Try.func6, Try.ntmps6
    go_wp2
    go_ret
    exact ⟨ret_int he.out.symm, (Below.refl _ _).alloc (Nat.le_refl _) _⟩
  by_cases h2 : 4611686018427387904 < n
  · have he := Lib.hid (check_no n r s.data.toList (.inr (.inl h2)))
    go_enter Try.func6, Try.ntmps6
    go_wp2
    go_ret
    exact ⟨ret_int he.out.symm, (Below.refl _ _).alloc (Nat.le_refl _) _⟩
  by_cases h3 : r < 0
  · have he := Lib.hid (check_no n r s.data.toList (.inr (.inr (.inl h3))))
    go_enter Try.func6, Try.ntmps6
    go_wp2
    go_ret
    exact ⟨ret_int he.out.symm, (Below.refl _ _).alloc (Nat.le_refl _) _⟩
  by_cases h4 : 4611686018427387904 < r
  · have he := Lib.hid (check_no n r s.data.toList (.inr (.inr (.inr (.inl h4)))))
    go_enter Try.func6, Try.ntmps6
    go_wp2
    go_ret
    exact ⟨ret_int he.out.symm, (Below.refl _ _).alloc (Nat.le_refl _) _⟩
  have hT := refText_any s (w.alloc (.cells #[.int .u64 u, .int .i64 n, .int .i64 r, .string s] 25)) hs
  cases h5 : textL s.data.toList
  · have he := Lib.hid (check_no n r s.data.toList (.inr (.inr (.inr (.inr h5)))))
    rw [h5] at hT; clear h5
    go_enter Try.func6, Try.ntmps6
    go_wp2_with (go_at_call 8; refine hT.mono ?_; rintro e w' ⟨rfl, rfl⟩)
    go_ret
    exact ⟨ret_int he.out.symm, (Below.refl _ _).alloc (Nat.le_refl _) _⟩
  · have he := Lib.hid (check_yes n r s.data.toList (by omega) (by omega) (by omega) (by omega) h5)
    rw [h5] at hT; clear h5
    go_enter Try.func6, Try.ntmps6
    go_wp2_with (go_at_call 8; refine hT.mono ?_; rintro e w' ⟨rfl, rfl⟩)
    go_ret
    exact ⟨ret_int he.out.symm, (Below.refl _ _).alloc (Nat.le_refl _) _⟩
end Go.Proofs.Ytbhgeikijifbgaa
