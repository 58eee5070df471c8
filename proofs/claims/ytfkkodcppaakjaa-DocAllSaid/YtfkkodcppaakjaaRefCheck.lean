/- The document's Check, by its contract. -/
import Derived.Test.YtfkkodcppaakjaaRefText
namespace Go.Proofs.Ytfkkodcppaakjaa
open Go.RowKit

set_option maxHeartbeats 1000000 in
theorem refCheck_any (u n r : Int) (s : ByteArray) (w : World) (hs : s.size ≤ maxLen) :
    Calls Try.prog 24 #[.agg #[.int .u64 u, .int .i64 n, .int .i64 r, .string s]] w fun e w' => e = .returned (.int .i64 (checkE n r s.data.toList)) ∧ Below w.heap.size w w' := by
  by_cases h1 : n < 1
  · have he := Lib.hid (check_no n r s.data.toList (.inl h1))
    go_enter Try.func24, Try.ntmps24
    go_wp2
    go_ret
    exact ⟨ret_int he.out.symm, (Below.refl _ _).alloc (Nat.le_refl _) _⟩
  by_cases h2 : 4611686018427387904 < n
  · have he := Lib.hid (check_no n r s.data.toList (.inr (.inl h2)))
    go_enter Try.func24, Try.ntmps24
    go_wp2
    go_ret
    exact ⟨ret_int he.out.symm, (Below.refl _ _).alloc (Nat.le_refl _) _⟩
  by_cases h3 : r < 0
  · have he := Lib.hid (check_no n r s.data.toList (.inr (.inr (.inl h3))))
    go_enter Try.func24, Try.ntmps24
    go_wp2
    go_ret
    exact ⟨ret_int he.out.symm, (Below.refl _ _).alloc (Nat.le_refl _) _⟩
  by_cases h4 : 4611686018427387904 < r
  · have he := Lib.hid (check_no n r s.data.toList (.inr (.inr (.inr (.inl h4)))))
    go_enter Try.func24, Try.ntmps24
    go_wp2
    go_ret
    exact ⟨ret_int he.out.symm, (Below.refl _ _).alloc (Nat.le_refl _) _⟩
  have hT := refText_any s (w.alloc (.cells #[.int .u64 u, .int .i64 n, .int .i64 r, .string s] 26)) hs
  cases h5 : textL s.data.toList
  · have he := Lib.hid (check_no n r s.data.toList (.inr (.inr (.inr (.inr h5)))))
    rw [h5] at hT; clear h5
    go_enter Try.func24, Try.ntmps24
    go_wp2_with (go_at_call 33; refine hT.mono ?_; rintro e w' ⟨rfl, rfl⟩)
    go_ret
    exact ⟨ret_int he.out.symm, (Below.refl _ _).alloc (Nat.le_refl _) _⟩
  · have he := Lib.hid (check_yes n r s.data.toList (by omega) (by omega) (by omega) (by omega) h5)
    rw [h5] at hT; clear h5
    go_enter Try.func24, Try.ntmps24
    go_wp2_with (go_at_call 33; refine hT.mono ?_; rintro e w' ⟨rfl, rfl⟩)
    go_ret
    exact ⟨ret_int he.out.symm, (Below.refl _ _).alloc (Nat.le_refl _) _⟩
end Go.Proofs.Ytfkkodcppaakjaa
