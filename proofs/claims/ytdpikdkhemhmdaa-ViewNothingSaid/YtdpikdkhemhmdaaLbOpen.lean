/- A number of 64 bits that came in. -/
import Derived.Test.YtdpikdkhemhmdaaFrame
import Derived.OpenShut
namespace Go.Proofs.Ytdpikdkhemhmdaa
open Go Go.ChangeShapes Go.WideShapes Go.RowKit
theorem u64_nat {n : Int} (h : (Lit.int .u64 n).wf = true) : ∃ a : Nat, n = (a : Int) ∧ a < 18446744073709551616 := by
  simp [Lit.wf, IntKind.min, IntKind.max, IntKind.signed, IntKind.bits] at h
  exact ⟨n.toNat, by omega, by omega⟩
end Go.Proofs.Ytdpikdkhemhmdaa
