/- Texts of the proof, merged: RefName. -/
import Derived.Test.YtfibbjnkicjbpaaGreatDoorTl3
import Derived.Test.YtfibbjnkicjbpaaGreatDoorTl41
/- The document's Name, by its contract. -/
namespace Go.Proofs.YtfibbjnkicjbpaaGreatDoor
open Go.RowKit

set_option maxHeartbeats 1000000 in
theorem refName_any (s : ByteArray) (w : World) (hs : s.size ≤ maxLen) :
    Calls Tryz.prog 33 #[.string s] w fun e w' => e = .returned (.bool (nameL s.data.toList)) ∧ w = w' := by
  unfold maxLen at hs
  go_enter Tryz.func33, Tryz.ntmps33
  go_wp2
  go_loop [3] (fun i => ∃ k : Nat, k ≤ s.size ∧ i = .int .i64 k ∧ AllCh s k) (fun i => s.size - (intOf i).toNat)
  case atStart => exact ⟨0, Nat.zero_le _, rfl, allch_start s⟩
  case round =>
    obtain ⟨k, hk, rfl, hn⟩ := hrel
    by_cases hlt : k < s.size
    · cases hb : nameCh s[k]
      · have he := Lib.hid (allch_hit s k hlt hb)
        obtain ⟨⟨hx1, hx2⟩, hx⟩ := nameCh_no s[k] hb
        clear hb hn
        rcases hx with hx | ⟨hx, hy⟩ | hx
        · go_wp2
          go_ret
          exact ⟨ret_bool he.out.symm, rfl⟩
        · have hd : decide ((s[k].toNat : Int) ≤ 57) = false := decide_eq_false (by omega)
          go_wp2
          go_ret
          exact ⟨ret_bool he.out.symm, rfl⟩
        · have hd : decide ((s[k].toNat : Int) ≤ 57) = false := decide_eq_false (by omega)
          have hd2 : decide ((s[k].toNat : Int) ≤ 122) = false := decide_eq_false (by omega)
          go_wp2
          go_ret
          exact ⟨ret_bool he.out.symm, rfl⟩
      · have hn' := Lib.hid (allch_step s k hlt hn hb)
        have hx := nameCh_yes s[k] hb
        clear hb hn
        rcases hx with ⟨hx, hy⟩ | ⟨hx, hy⟩ | ⟨hx, hy⟩ | ⟨hx, hy, hz, hu⟩
        all_goals go_wp2
        all_goals go_round
        all_goals first | exact ⟨k + 1, by omega, by go_num, hn'.out⟩ | (simp [intOf]; omega)
    · obtain rfl : k = s.size := by omega
      by_cases h1 : 1 ≤ s.size
      · have he := Lib.hid (allch_end s h1 hn)
        clear hn
        go_wp2
        go_ret
        exact ⟨ret_bool he.out.symm, rfl⟩
      · have he := Lib.hid (name_empty s h1)
        clear hn
        go_wp2
        go_ret
        exact ⟨ret_bool he.out.symm, rfl⟩
end Go.Proofs.YtfibbjnkicjbpaaGreatDoor
