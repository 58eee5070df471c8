/- lines.Text, by its contract. -/
import Derived.Test.YtfkkodcppaakjaaBase
namespace Go.Proofs.Ytfkkodcppaakjaa
open Go.RowKit

set_option maxHeartbeats 400000 in
theorem text_any (s : ByteArray) (w : World) (hs : s.size ≤ maxLen) :
    Calls Try.prog 46 #[.string s] w fun e w' => e = .returned (.bool (textL s.data.toList)) ∧ w = w' := by
  unfold maxLen at hs
  by_cases h : s.size ≤ 256
  · have he := Lib.hid (text_short s h)
    go_enter Try.func46, Try.ntmps46
    go_wp2_with (go_at_call 49; refine (Try.strings_Contains_one s 10 _).mono ?_; rintro e w' ⟨rfl, rfl⟩)
    go_ret
    exact ⟨ret_bool he.out.symm, rfl⟩
  · have he := Lib.hid (text_long s h)
    go_enter Try.func46, Try.ntmps46
    go_wp2
    go_ret
    exact ⟨ret_bool he.out.symm, rfl⟩
end Go.Proofs.Ytfkkodcppaakjaa
