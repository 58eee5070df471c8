/- lines.Text, by its contract. -/
import Derived.Test.YtjmnbnlhahbcjaaBase
import Derived.Test.YtjmnbnlhahbcjaaPlain
import Derived.Test.YtjmnbnlhahbcjaaShelf
namespace Go.Proofs.Ytjmnbnlhahbcjaa
open Go.RowKit

set_option maxHeartbeats 400000 in
theorem text_any (s : ByteArray) (w : World) (hs : s.size ≤ maxLen) :
    Calls Try.prog 65 #[.string s] w fun e w' => e = .returned (.bool (textL s.data.toList)) ∧ w = w' := by
  unfold maxLen at hs
  by_cases h : s.size ≤ 256
  · have he := Lib.hid (text_short s h)
    go_enter Try.func65, Try.ntmps65
    go_wp2_with (go_at_call 76; refine (Try.strings_Contains_one s 10 _).mono ?_; rintro e w' ⟨rfl, rfl⟩)
    go_ret
    exact ⟨ret_bool he.out.symm, rfl⟩
  · have he := Lib.hid (text_long s h)
    go_enter Try.func65, Try.ntmps65
    go_wp2
    go_ret
    exact ⟨ret_bool he.out.symm, rfl⟩
end Go.Proofs.Ytjmnbnlhahbcjaa
