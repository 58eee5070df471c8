/- The document's Word, by its contract. -/
import Derived.Test.YtdpikdkhemhmdaaLbBase
namespace Go.Proofs.Ytdpikdkhemhmdaa
open Go.RowKit

set_option maxHeartbeats 2000000 in
theorem refWord_any (cs : Array Value) (f : Nat → Bool) (w : World) (hcs : Bits cs f) :
    Calls Try.prog 61 #[.agg cs] w fun e w' => e = .returned (.int .u64 (wordOf f)) ∧ Below w.heap.size w w' := by
  have HC := Lib.hid hcs
  clear hcs
  have hfin : Hid (wordD f 0 64 = wordOf f) := (rfl : _ = _)
  go_enter Try.func61, Try.ntmps61
  go_wp2_with fail
  go_loopg [3, 4] 64 (fun g a i wr => g ≤ 64 ∧ i = .int .i64 ((g : Int) - 1) ∧ a = .int .u64 (wordD f g (64 - g)) ∧ w.alloc (.cells cs 73) = wr)
  case atStart => exact ⟨by omega, rfl, rfl, rfl⟩
  case round =>
    obtain ⟨hj, rfl, rfl, rfl⟩ := hrel
    by_cases h0 : gk = 0
    · subst h0
      have e := hfin.out
      rw [Nat.sub_zero, e]
      go_wp2_with fail
      go_ret
      exact ⟨rfl, (Below.refl _ _).alloc (Nat.le_refl _) _⟩
    · obtain ⟨k, rfl⟩ : ∃ k, gk = k + 1 := ⟨gk - 1, by omega⟩
      have hc := HC.out.cell (w := w) (t := 73) k (by omega)
      have hlt : wordD f (k + 1) (64 - (k + 1)) < 9223372036854775808 := by
        have h1 := wordD_lt f (64 - (k + 1)) (k + 1)
        have h2 : 2 ^ (64 - (k + 1)) ≤ 2 ^ 63 := Nat.pow_le_pow_right (by decide) (by omega)
        omega
      have hst : Hid (wordD f k (64 - k) = 2 * wordD f (k + 1) (64 - (k + 1)) + (f k).toNat) := by
        have e : 64 - k = (64 - (k + 1)) + 1 := by omega
        rw [e]; exact (rfl : _ = _)
      generalize wordD f (k + 1) (64 - (k + 1)) = a at *
      have ek : ((k + 1 : Nat) : Int) - 1 = (k : Int) := by omega
      rw [ek]
      cases hb : f k
      · rw [hb] at hc hst
        clear hfin
        go_wp2_with fail
        go_roundg k
        case rel => exact ⟨by omega, by go_num, by rw [hst.out]; go_num, rfl⟩
        case measure => omega
      · rw [hb] at hc hst
        clear hfin
        go_wp2_with fail
        go_roundg k
        case rel => exact ⟨by omega, by go_num, by rw [hst.out]; go_num, rfl⟩
        case measure => omega
end Go.Proofs.Ytdpikdkhemhmdaa
