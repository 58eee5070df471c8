/- The order of labels as the library's sort asks for it: by contracts. -/
import Derived.Test.YtdpikdkhemhmdaaBase
import Derived.Sort.WalkA
namespace Go.Proofs.Ytdpikdkhemhmdaa
open Go Go.RowKit

/-- a label as a value -/
abbrev lbV (c : Nat) : Value := .int .u64 c
/-- the order of labels -/
abbrev ltL (a b : Nat) : Bool := decide (a < b)
theorem ltL_int (a b : Nat) : decide ((a : Int) < (b : Int)) = ltL a b := by simp [ltL]

theorem lbNaN_any (x : Nat) (w : World) : Calls Try.prog 89 #[lbV x] w fun e w' => e = .returned (.bool false) ∧ w' = w := by
  go_enter Try.func89, Try.ntmps89
  go_wp2
  go_ret
  exact ⟨by simp, rfl⟩
theorem lbLess_any (x y : Nat) (w : World) : Calls Try.prog 77 #[lbV x, lbV y] w fun e w' => e = .returned (.bool (ltL x y)) ∧ w' = w := by
  go_enter Try.func77, Try.ntmps77
  go_wp2_with (go_at_call 89; refine (lbNaN_any _ _).mono ?_; rintro e w' ⟨rfl, rfl⟩)
  go_ret
  refine ⟨?_, rfl⟩
  simp [ltL]
end Go.Proofs.Ytdpikdkhemhmdaa
