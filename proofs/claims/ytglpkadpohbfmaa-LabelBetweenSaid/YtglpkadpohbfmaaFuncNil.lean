/- A function held against nil. -/
import Derived.Test.YtglpkadpohbfmaaLbBase
namespace Go.Proofs.Ytglpkadpohbfmaa
open Go.RowKit
theorem seq_in (d f : Nat) (lb : Array Value) (w : World) : (Op.equalIn (d + 1) 36 (.func (.func f) #[] lb) .nilFunc).run Try.prog w = .ok false w := by
  simp [Op.equalIn, run_underlying Try.underlying36]
theorem nil_in (d : Nat) (w : World) : (Op.equalIn (d + 1) 36 .nilFunc .nilFunc).run Try.prog w = .ok true w := by
  simp [Op.equalIn, run_underlying Try.underlying36]
theorem seq_nil (f : Nat) (lb : Array Value) (w : World) : (binOp .eql 36 (.func (.func f) #[] lb) .nilFunc).run Try.prog w = .ok (.bool false) w := by
  simp only [binOp]
  simp [Op.equal, Op.maxDepth, seq_in 9999]
theorem nil_nil (w : World) : (binOp .eql 36 .nilFunc .nilFunc).run Try.prog w = .ok (.bool true) w := by
  simp only [binOp]
  simp [Op.equal, Op.maxDepth, nil_in 9999]
end Go.Proofs.Ytglpkadpohbfmaa
