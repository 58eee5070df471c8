/- A function held against nil. -/
import Derived.Test.YtglpkadpohbfmaaDoorLbBase
namespace Go.Proofs.YtglpkadpohbfmaaDoor
open Go.RowKit
theorem seq_in (d f : Nat) (lb : Array Value) (w : World) : (Op.equalIn (d + 1) 41 (.func (.func f) #[] lb) .nilFunc).run Tryd.prog w = .ok false w := by
  simp [Op.equalIn, run_underlying Tryd.underlying41]
theorem nil_in (d : Nat) (w : World) : (Op.equalIn (d + 1) 41 .nilFunc .nilFunc).run Tryd.prog w = .ok true w := by
  simp [Op.equalIn, run_underlying Tryd.underlying41]
theorem seq_nil (f : Nat) (lb : Array Value) (w : World) : (binOp .eql 41 (.func (.func f) #[] lb) .nilFunc).run Tryd.prog w = .ok (.bool false) w := by
  simp only [binOp]
  simp [Op.equal, Op.maxDepth, seq_in 9999]
theorem nil_nil (w : World) : (binOp .eql 41 .nilFunc .nilFunc).run Tryd.prog w = .ok (.bool true) w := by
  simp only [binOp]
  simp [Op.equal, Op.maxDepth, nil_in 9999]
end Go.Proofs.YtglpkadpohbfmaaDoor
