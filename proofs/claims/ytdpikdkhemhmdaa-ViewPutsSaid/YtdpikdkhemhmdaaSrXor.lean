/- The library's generator of its sort: by a contract. -/
import Derived.Test.YtdpikdkhemhmdaaSrIns
import Derived.Sort.Walk7a
namespace Go.Proofs.Ytdpikdkhemhmdaa
open Go Go.RowKit Go.Sort

set_option maxHeartbeats 1000000 in
theorem lbNext_any (rb ro X : Nat) (hX : X < 18446744073709551616) (w : World) (hc : w.cell? ⟨rb, ro, none⟩ = some (.int .u64 X)) (hf : w.frozen? ⟨rb, ro, none⟩ = false) :
    Calls Try.prog 86 #[.pointer (some ⟨rb, ro, none⟩)] w fun e w' => e = .returned (.int .u64 (xorNextN X : Nat)) ∧ w' = (w.setCell ⟨rb, ro, none⟩ (.int .u64 (xorNextN X : Nat))).drewN 3 := by
  obtain ⟨a, ha⟩ : ∃ a : Nat, a = X ^^^ (X * 8192 % 18446744073709551616) := ⟨_, rfl⟩
  obtain ⟨b, hb⟩ : ∃ b : Nat, b = a ^^^ (a / 128) := ⟨_, rfl⟩
  obtain ⟨c, hc3⟩ : ∃ c : Nat, c = b ^^^ (b * 131072 % 18446744073709551616) := ⟨_, rfl⟩
  have la : a < 18446744073709551616 := by rw [ha]; exact Nat.xor_lt_two_pow (n := 64) (by omega) (by omega)
  have lb : b < 18446744073709551616 := by rw [hb]; exact Nat.xor_lt_two_pow (n := 64) (by omega) (by omega)
  have e1 : bits .xor .u64 (X : Int) (IntKind.u64.wrap ((X : Int) * 8192)) = (a : Int) := by
    rw [IntKind.wrap_u64, show ((X : Int) * 8192 % 18446744073709551616) = ((X * 8192 % 18446744073709551616 : Nat) : Int) by omega, bits_xor_u64_nat _ _ hX (by omega), ha]
  have e2 : bits .xor .u64 (a : Int) ((a : Int) / 128) = (b : Int) := by
    rw [show ((a : Int) / 128) = ((a / 128 : Nat) : Int) by omega, bits_xor_u64_nat _ _ la (by omega), hb]
  have e3 : bits .xor .u64 (b : Int) (IntKind.u64.wrap ((b : Int) * 131072)) = (c : Int) := by
    rw [IntKind.wrap_u64, show ((b : Int) * 131072 % 18446744073709551616) = ((b * 131072 % 18446744073709551616 : Nat) : Int) by omega, bits_xor_u64_nat _ _ lb (by omega), hc3]
  have hv : xorNextN X = c := by unfold xorNextN; simp only []; rw [← ha, ← hb, ← hc3]
  rw [hv]
  clear ha hb hc3 hv
  have hss : ∀ v v', (w.setCell ⟨rb, ro, none⟩ v).setCell ⟨rb, ro, none⟩ v' = w.setCell ⟨rb, ro, none⟩ v' := setCell_setCell w rb ro
  go_enter Try.func86, Try.ntmps86
  go_wp2
  go_region
  all_goals go_wp2
  all_goals go_region
  all_goals go_wp2
  all_goals go_region
  all_goals go_wp2
  go_ret
  exact ⟨rfl, rfl⟩
end Go.Proofs.Ytdpikdkhemhmdaa
