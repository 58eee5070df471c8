/- Join, by contract. -/
import Derived.Test.YtglpkadpohbfmaaDoorLbOps
namespace Go.Proofs.YtglpkadpohbfmaaDoor
open Go.RowKit
theorem join_any (a b : Nat) (w : World) (ha : a < 18446744073709551616) (hb : b < 18446744073709551616) :
    Calls Tryd.prog 18 #[.int .u64 a, .int .u64 b] w fun e w' => e = .returned (.int .u64 (a ||| b : Nat)) ∧ w = w' := by
  have H := Lib.hid (u64_or_nat a b ha hb)
  go_enter Tryd.func18, Tryd.ntmps18
  go_wp2
  go_ret
  exact ⟨ret_int H.out, rfl⟩
end Go.Proofs.YtglpkadpohbfmaaDoor
