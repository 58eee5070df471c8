/- Join, by contract. -/
import Derived.Test.YtglpkadpohbfmaaLbOps
namespace Go.Proofs.Ytglpkadpohbfmaa
open Go.RowKit
theorem join_any (a b : Nat) (w : World) (ha : a < 18446744073709551616) (hb : b < 18446744073709551616) :
    Calls Try.prog 24 #[.int .u64 a, .int .u64 b] w fun e w' => e = .returned (.int .u64 (a ||| b : Nat)) ∧ w = w' := by
  have H := Lib.hid (u64_or_nat a b ha hb)
  go_enter Try.func24, Try.ntmps24
  go_wp2
  go_ret
  exact ⟨ret_int H.out, rfl⟩
end Go.Proofs.Ytglpkadpohbfmaa
