/- lines.Read, by its contract. -/
import Derived.Test.YtbhgeikijifbgaaDoorTake
namespace Go.Proofs.YtbhgeikijifbgaaDoor
open Go.RowKit

/-! Read -/
def readOk (l : List UInt8) : Bool := takeOk l && (restL l).isEmpty
def readN (l : List UInt8) : Int := if readOk l then valL l else 0
def readE (l : List UInt8) : Int := if readOk l then 0 else 4
theorem two_ret {n m e f : Int} (h1 : n = m) (h3 : e = f) : Ending.returned (.tuple #[.int .i64 n, .int .i64 e]) = .returned (.tuple #[.int .i64 m, .int .i64 f]) := by rw [h1, h3]
theorem read_bad1 (l : List UInt8) (h : takeOk l = false) : takeE l = 4 ∧ takeN l = 0 ∧ 0 = readN l ∧ 4 = readE l := by
  unfold readN readE readOk takeE takeN; rw [h]; exact ⟨rfl, rfl, rfl, rfl⟩
theorem read_bad2 (l : List UInt8) (h : takeOk l = true) (hr : (restL l).isEmpty = false) : takeE l = 0 ∧ takeT l = restL l ∧ 0 = readN l ∧ 4 = readE l := by
  unfold readN readE readOk takeE takeT; rw [h, hr]; exact ⟨rfl, rfl, rfl, rfl⟩
theorem read_good (l : List UInt8) (h : takeOk l = true) (hr : (restL l).isEmpty = true) : takeE l = 0 ∧ takeT l = [] ∧ takeN l = readN l ∧ 0 = readE l := by
  unfold readN readE readOk takeE takeT takeN; rw [h, hr]; exact ⟨rfl, List.isEmpty_iff.1 hr, rfl, rfl⟩

set_option maxHeartbeats 1000000 in
theorem read_any (s : ByteArray) (w : World) (hs : s.size ≤ maxLen) (ht : Tabs w) :
    Calls Tryd.prog 12 #[.string s] w fun e w' => e = .returned (.tuple #[.int .i64 (readN s.data.toList), .int .i64 (readE s.data.toList)]) ∧ Below w.heap.size w w' := by
  have hT := take_any s w hs ht
  generalize s.data.toList = l at *
  cases hk : takeOk l
  · obtain ⟨e1, e2, e3, e4⟩ := read_bad1 l hk
    rw [e1, e2] at hT
    have E3 := Lib.hid e3; have E4 := Lib.hid e4
    clear e1 e2 e3 e4 hk
    go_enter Tryd.func12, Tryd.ntmps12
    go_wp2_with (go_at_call 15; refine hT.mono ?_; rintro e w' ⟨rfl, hb⟩)
    go_ret2
    exact ⟨two_ret E3.out E4.out, hb⟩
  · cases hr : (restL l).isEmpty
    · obtain ⟨e1, e2, e3, e4⟩ := read_bad2 l hk hr
      rw [e1, e2] at hT
      have E3 := Lib.hid e3; have E4 := Lib.hid e4
      obtain ⟨R, hR⟩ : ∃ R : ByteArray, R = ⟨(restL l).toArray⟩ := ⟨_, rfl⟩
      have hne : ¬ R.toList = [] ∧ R.toList.isEmpty = false := by
        rw [ByteArray.toList_eq, hR]
        exact ⟨List.isEmpty_eq_false_iff.1 hr, hr⟩
      rw [← hR] at hT
      obtain ⟨hn1, hn2⟩ := hne
      clear e1 e2 e3 e4 hk hr hR
      go_enter Tryd.func12, Tryd.ntmps12
      go_wp2_with (go_at_call 15; refine hT.mono ?_; rintro e w' ⟨rfl, hb⟩)
      go_ret2
      exact ⟨two_ret E3.out E4.out, hb⟩
    · obtain ⟨e1, e2, e3, e4⟩ := read_good l hk hr
      rw [e1, e2] at hT
      have E3 := Lib.hid e3; have E4 := Lib.hid e4
      clear e1 e2 e3 e4 hk hr
      go_enter Tryd.func12, Tryd.ntmps12
      go_wp2_with (go_at_call 15; refine hT.mono ?_; rintro e w' ⟨rfl, hb⟩)
      go_ret2
      exact ⟨two_ret E3.out E4.out, hb⟩
end Go.Proofs.YtbhgeikijifbgaaDoor
