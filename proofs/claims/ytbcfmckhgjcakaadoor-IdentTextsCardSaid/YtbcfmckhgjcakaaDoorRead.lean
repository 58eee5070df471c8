/- lines.Read, by its contract. -/
import Derived.Test.YtbcfmckhgjcakaaDoorTake
namespace Go.Proofs.YtbcfmckhgjcakaaDoor
open Go.RowKit

/-! Read -/
def readOk (l : List UInt8) : Bool := takeOk l && (restL l).isEmpty
def readN (l : List UInt8) : Int := if readOk l then valL l else 0
def readE (l : List UInt8) : Int := if readOk l then 0 else 4
theorem two_ret {n m e f : Int} (h1 : n = m) (h3 : e = f) : Ending.returned (.tuple #[.int .i64 n, .int .i64 e]) = .returned (.tuple #[.int .i64 m, .int .i64 f]) := by rw [h1, h3]
theorem read_bad1 (l : List UInt8) (h : takeOk l = false) : takeE l = 4 ∧ takeN l = 0 ∧ 0 = readN l ∧ 4 = readE l := by
  unfold readN readE readOk takeE takeN; rw [h]; exact ⟨rfl, rfl, rfl, rfl⟩
theorem read_bad2 (l : List UInt8) (h : takeOk l = true) (hr : (restL l).isEmpty = false) : takeE l = 0 ∧ takeT l = restL l ∧ 0 = readN l ∧ 4 = readE l := by
  unfold readN readE readOk takeE takeT; rw [h, hr]; exact ⟨rfl, rfl, rfl, rfl⟩
theorem read_good (l : List UInt8) (h : takeOk l = true) (hr : (restL l).isEmpty = true) : takeE l = 0 ∧ takeT l = [] ∧ takeN l = readN l ∧ 0 = readE l := by
  unfold readN readE readOk takeE takeT takeN; rw [h, hr]; exact ⟨rfl, List.isEmpty_iff.1 hr, rfl, rfl⟩

end Go.Proofs.YtbcfmckhgjcakaaDoor
