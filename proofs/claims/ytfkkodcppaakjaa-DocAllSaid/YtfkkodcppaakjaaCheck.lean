/- lines.Check, by its contract. -/
import Derived.Test.YtfkkodcppaakjaaText
namespace Go.Proofs.Ytfkkodcppaakjaa
open Go.RowKit

set_option maxHeartbeats 1000000 in
theorem check_any (u n r : Int) (s : ByteArray) (w : World) (hs : s.size ≤ maxLen) :
    Calls Try.prog 41 #[.agg #[.int .u64 u, .int .i64 n, .int .i64 r, .string s]] w fun e w' => e = .returned (.int .i64 (checkE n r s.data.toList)) ∧ Below w.heap.size w w' := by
  have hT := text_any s (w.alloc (.cells #[.int .u64 u, .int .i64 n, .int .i64 r, .string s] 26)) hs
  cases h5 : textL s.data.toList
  · have he := Lib.hid (check_no n r s.data.toList (.inr (.inr (.inr (.inr h5)))))
    rw [h5] at hT; clear h5
    go_enter Try.func41, Try.ntmps41
    go_wp2_with (go_at_call 46; refine hT.mono ?_; rintro e w' ⟨rfl, rfl⟩)
    go_ret
    exact ⟨ret_int he.out.symm, (Below.refl _ _).alloc (Nat.le_refl _) _⟩
  rw [h5] at hT
  by_cases h1 : n < 1
  · have he := Lib.hid (check_no n r s.data.toList (.inl h1))
    clear h5
    go_enter Try.func41, Try.ntmps41
    go_wp2_with (go_at_call 46; refine hT.mono ?_; rintro e w' ⟨rfl, rfl⟩)
    go_ret
    exact ⟨ret_int he.out.symm, (Below.refl _ _).alloc (Nat.le_refl _) _⟩
  by_cases h2 : 4611686018427387904 < n
  · have he := Lib.hid (check_no n r s.data.toList (.inr (.inl h2)))
    clear h5
    go_enter Try.func41, Try.ntmps41
    go_wp2_with (go_at_call 46; refine hT.mono ?_; rintro e w' ⟨rfl, rfl⟩)
    go_ret
    exact ⟨ret_int he.out.symm, (Below.refl _ _).alloc (Nat.le_refl _) _⟩
  by_cases h3 : r < 0
  · have he := Lib.hid (check_no n r s.data.toList (.inr (.inr (.inl h3))))
    clear h5
    go_enter Try.func41, Try.ntmps41
    go_wp2_with (go_at_call 46; refine hT.mono ?_; rintro e w' ⟨rfl, rfl⟩)
    go_ret
    exact ⟨ret_int he.out.symm, (Below.refl _ _).alloc (Nat.le_refl _) _⟩
  by_cases h4 : 4611686018427387904 < r
  · have he := Lib.hid (check_no n r s.data.toList (.inr (.inr (.inr (.inl h4)))))
    clear h5
    go_enter Try.func41, Try.ntmps41
    go_wp2_with (go_at_call 46; refine hT.mono ?_; rintro e w' ⟨rfl, rfl⟩)
    go_ret
    exact ⟨ret_int he.out.symm, (Below.refl _ _).alloc (Nat.le_refl _) _⟩
  have he := Lib.hid (check_yes n r s.data.toList (by omega) (by omega) (by omega) (by omega) h5)
  clear h5
  go_enter Try.func41, Try.ntmps41
  go_wp2_with (go_at_call 46; refine hT.mono ?_; rintro e w' ⟨rfl, rfl⟩)
  go_ret
  exact ⟨ret_int he.out.symm, (Below.refl _ _).alloc (Nat.le_refl _) _⟩
end Go.Proofs.Ytfkkodcppaakjaa
