/- The document's Take at every text, and its Read: each by its contract. -/
import Derived.Test.YtbcfmckhgjcakaaDoorRefTake
import Derived.Test.YtbcfmckhgjcakaaDoorRead
namespace Go.Proofs.YtbcfmckhgjcakaaDoor
open Go.RowKit

theorem neg_first (s : ByteArray) (h : 0 < s.size) : negB s.data.toList = (((s[0].toNat : Int)) == 45) := by
  have e := drop_cons s 0 h
  rw [List.drop_zero] at e
  unfold negB
  rw [e, List.head?_cons, Bool.eq_iff_iff]
  simp only [beq_iff_eq, Option.some.injEq]
  rw [← UInt8.toNat_inj]
  have h45 : (45 : UInt8).toNat = 45 := rfl
  rw [h45]
  omega

set_option maxHeartbeats 1000000 in
theorem refTake_any (s : ByteArray) (w : World) (hs : s.size ≤ maxLen) :
    Calls Tryd.prog 37 #[.string s] w fun e w' => e = .returned (.tuple #[.int .i64 (takeN s.data.toList), .string ⟨(takeT s.data.toList).toArray⟩, .int .i64 (takeE s.data.toList)]) ∧ Quiet w w' := by
  by_cases h0 : 0 < s.size
  · cases hn : negB s.data.toList
    · exact refTake_pos s w hs hn h0 (by rw [← neg_first s h0]; exact hn)
    · exact refTake_neg s w hs hn h0 (by rw [← neg_first s h0]; exact hn)
  · have hl : s.data.toList = [] := List.eq_nil_of_length_eq_zero (by rw [len_size]; omega)
    have hno : Hid (takeOk s.data.toList = false) := by
      have : takeOk s.data.toList = false := by rw [hl]; rfl
      exact this
    have hz : s.size ≤ 0 := by omega
    clear hl h0
    unfold maxLen at hs
    go_enter Tryd.func37, Tryd.ntmps37
    go_wp2
    go_loop [6, 8] (fun i m => i = .int .i64 0 ∧ m = .int .u64 0) (fun _ _ => 0)
    case atStart => exact ⟨rfl, rfl⟩
    case round =>
      obtain ⟨rfl, rfl⟩ := hrel
      go_wp2
      go_ret3
      exact ⟨no_ret hno.out, Quiet.refl _⟩

set_option maxHeartbeats 1000000 in
theorem refRead_any (s : ByteArray) (w : World) (hs : s.size ≤ maxLen) :
    Calls Tryd.prog 23 #[.string s] w fun e w' => e = .returned (.tuple #[.int .i64 (readN s.data.toList), .int .i64 (readE s.data.toList)]) ∧ Quiet w w' := by
  have hT := refTake_any s w hs
  generalize s.data.toList = l at *
  cases hk : takeOk l
  · obtain ⟨e1, e2, e3, e4⟩ := read_bad1 l hk
    rw [e1, e2] at hT
    have E3 := Lib.hid e3; have E4 := Lib.hid e4
    clear e1 e2 e3 e4 hk
    go_enter Tryd.func23, Tryd.ntmps23
    go_wp2_with (go_at_call 37; refine hT.mono ?_; rintro e w' ⟨rfl, hb⟩)
    go_ret2
    exact ⟨two_ret E3.out E4.out, hb⟩
  · cases hr : (restL l).isEmpty
    · obtain ⟨e1, e2, e3, e4⟩ := read_bad2 l hk hr
      rw [e1, e2] at hT
      have E3 := Lib.hid e3; have E4 := Lib.hid e4
      obtain ⟨R, hR⟩ : ∃ R : ByteArray, R = ⟨(restL l).toArray⟩ := ⟨_, rfl⟩
      have hne : ¬ R.toList = [] ∧ R.toList.isEmpty = false := by
        rw [ByteArray.toList_eq, hR]
        exact ⟨List.isEmpty_eq_false_iff.1 hr, hr⟩
      rw [← hR] at hT
      obtain ⟨hn1, hn2⟩ := hne
      clear e1 e2 e3 e4 hk hr hR
      go_enter Tryd.func23, Tryd.ntmps23
      go_wp2_with (go_at_call 37; refine hT.mono ?_; rintro e w' ⟨rfl, hb⟩)
      go_ret2
      exact ⟨two_ret E3.out E4.out, hb⟩
    · obtain ⟨e1, e2, e3, e4⟩ := read_good l hk hr
      rw [e1, e2] at hT
      have E3 := Lib.hid e3; have E4 := Lib.hid e4
      clear e1 e2 e3 e4 hk hr
      go_enter Tryd.func23, Tryd.ntmps23
      go_wp2_with (go_at_call 37; refine hT.mono ?_; rintro e w' ⟨rfl, hb⟩)
      go_ret2
      exact ⟨two_ret E3.out E4.out, hb⟩
end Go.Proofs.YtbcfmckhgjcakaaDoor
