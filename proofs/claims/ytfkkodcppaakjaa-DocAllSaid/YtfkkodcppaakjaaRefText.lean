/- The document's Text, by its contract. -/
import Derived.Test.YtfkkodcppaakjaaBase
namespace Go.Proofs.Ytfkkodcppaakjaa
open Go.RowKit

set_option maxHeartbeats 400000 in
theorem refText_any (s : ByteArray) (w : World) (hs : s.size ≤ maxLen) :
    Calls Try.prog 33 #[.string s] w fun e w' => e = .returned (.bool (textL s.data.toList)) ∧ w = w' := by
  unfold maxLen at hs
  go_enter Try.func33, Try.ntmps33
  go_wp2
  go_loop [3] (fun i => ∃ k : Nat, k ≤ s.size ∧ i = .int .i64 k ∧ No10 s k) (fun i => s.size - (intOf i).toNat)
  case atStart => exact ⟨0, Nat.zero_le _, rfl, no10_start s⟩
  case round =>
    obtain ⟨k, hk, rfl, hn⟩ := hrel
    by_cases hlt : k < s.size
    · cases hb : ((s[k].toNat : Int) == 10)
      · have hn' := Lib.hid (no10_step s k hlt hn hb)
        go_wp2
        go_round
        case rel => exact ⟨k + 1, by omega, by go_num, hn'.out⟩
        case measure => simp [intOf]; omega
      · have he := Lib.hid (no10_hit s k hlt hb)
        go_wp2
        go_ret
        exact ⟨ret_bool he.out.symm, rfl⟩
    · obtain rfl : k = s.size := by omega
      have he := Lib.hid (no10_end s hn)
      go_wp2
      go_ret
      exact ⟨ret_bool he.out.symm, rfl⟩
end Go.Proofs.Ytfkkodcppaakjaa
