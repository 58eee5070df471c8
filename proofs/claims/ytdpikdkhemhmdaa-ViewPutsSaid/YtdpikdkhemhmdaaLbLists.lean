/- Lists of labels compared: by contract, where they are the same. -/
import Derived.Test.YtdpikdkhemhmdaaLbOf
import Derived.Deep.QuietTactic
namespace Go.Proofs.Ytdpikdkhemhmdaa
open Go.RowKit

set_option maxHeartbeats 1000000 in
theorem labels_any (w : World) (p q : Option Addr) (n m c d : Nat) (xs : List Int) (hp : NumRow .u64 w p xs) (hq : NumRow .u64 w q xs) (hn : xs.length = n) (hm : xs.length = m) (hl : xs.length ≤ 17592186044416) :
    Calls Try.prog 30 #[.slice p n c, .slice q m d] w fun e w' => e = .returned (.bool true) ∧ Below w.heap.size w w' := by
  obtain rfl : n = m := hn.symm.trans hm
  have HN := Lib.hid hn
  have hn1 : n ≤ 17592186044416 := by omega
  clear hn hm hl
  go_enter Try.func30, Try.ntmps30
  go_wp2_with fail
  go_loopw [5] (fun i wr => ∃ k : Nat, k ≤ n ∧ i = .int .i64 k ∧ Below w.heap.size w wr) (fun i _ => n - (intOf i).toNat)
  case atStart => exact ⟨0, by omega, rfl, Below.refl _ _⟩
  case round =>
    obtain ⟨k, hk, rfl, hbr⟩ := hrel
    by_cases hlt : k < n
    · have hlt' : k < xs.length := by rw [HN.out]; exact hlt
      obtain ⟨b1, o1, rfl, _, h1c⟩ := hp.at k hlt'
      obtain ⟨b2, o2, rfl, _, h2c⟩ := hq.at k hlt'
      have g1 := h1c wr hbr
      have g2 := h2c wr hbr
      generalize xs[k] = x at *
      have hk0 : (0 : Int) ≤ (k : Int) := Int.natCast_nonneg _
      have hkm : (k : Int) < (n : Int) := by omega
      clear h1c h2c
      go_wp2_with fail
      go_quiet (fail)
      go_wp2
      go_roundw
      case rel => exact ⟨k + 1, by omega, by go_num, below_drewN' hbr _⟩
      case measure => simp [intOf]; omega
    · obtain rfl : n = k := by omega
      go_wp2_with fail
      go_ret
      exact ⟨rfl, hbr⟩
end Go.Proofs.Ytdpikdkhemhmdaa
