/- How many compartments: the library's count of ones, and label's. -/
import Derived.Test.YtbcfmckhgjcakaaDoorLbOps
import Derived.Laws.Bits128
namespace Go.Proofs.YtbcfmckhgjcakaaDoor
open Go.RowKit

theorem and_num (x : Int) (a m : Nat) (h : x = (a : Int)) (ha : a < 18446744073709551616) (hm : m < 18446744073709551616) : bits .and .u64 x (m : Int) = ((a &&& m : Nat) : Int) := by
  rw [h]; exact u64_and_nat a m ha hm
theorem ones_cast (t c : Nat) (h : (t + t / 256 + (t + t / 256) / 65536 + (t + t / 256 + (t + t / 256) / 65536) / 4294967296) % 128 = c) :
    ((t : Int) + (t : Int) / 256 + ((t : Int) + (t : Int) / 256) / 65536 + ((t : Int) + (t : Int) / 256 + ((t : Int) + (t : Int) / 256) / 65536) / 4294967296) % 128 = (c : Int) := by
  have hx : (t : Int) + (t : Int) / 256 = ((t + t / 256 : Nat) : Int) := by omega
  rw [hx]
  generalize t + t / 256 = x at *
  have hy : (x : Int) + (x : Int) / 65536 = ((x + x / 65536 : Nat) : Int) := by omega
  rw [hy]
  generalize x + x / 65536 = y at *
  omega
set_option maxRecDepth 100000 in
set_option maxHeartbeats 1000000 in
theorem onesCount_any (a : Nat) (w : World) (ha : a < 18446744073709551616) :
    Calls Tryd.prog 71 #[.int .u64 a] w fun e w' => e = .returned (.int .i64 (cnt a : Nat)) ∧ w = w' := by
  have l1 := ones1_lt a
  have l2 := ones2_lt (ones1 a)
  have l3 := ones3_lt (ones2 (ones1 a))
  obtain ⟨lx, ly, lz, hz⟩ := ones_end a ha _ _ _ rfl rfl rfl
  obtain ⟨p, hp⟩ : ∃ p, p = (a / 2 &&& 6148914691236517205) := ⟨_, rfl⟩
  obtain ⟨q, hq⟩ : ∃ q, q = (a &&& 6148914691236517205) := ⟨_, rfl⟩
  have e1 : bits .and .u64 ((a : Int) / 2) 6148914691236517205 = (p : Int) := by rw [hp]; exact and_num _ _ 6148914691236517205 (by omega) (by omega) (by decide)
  have e2 : bits .and .u64 (a : Int) 6148914691236517205 = (q : Int) := by rw [hq]; exact and_num _ _ 6148914691236517205 (by omega) (by omega) (by decide)
  have o1 : ones1 a = p + q := by rw [hp, hq]; rfl
  have lp : p ≤ 6148914691236517205 := by rw [hp]; exact Nat.and_le_right
  have lq : q ≤ 6148914691236517205 := by rw [hq]; exact Nat.and_le_right
  rw [o1] at l2 l3 lx ly lz hz
  clear l1 o1 hp hq
  obtain ⟨r, hr⟩ : ∃ r, r = ((p + q) / 4 &&& 3689348814741910323) := ⟨_, rfl⟩
  obtain ⟨s, hs⟩ : ∃ s, s = (p + q &&& 3689348814741910323) := ⟨_, rfl⟩
  have e3 : bits .and .u64 (((p : Int) + (q : Int)) / 4) 3689348814741910323 = (r : Int) := by rw [hr]; exact and_num _ _ 3689348814741910323 (by omega) (by omega) (by decide)
  have e4 : bits .and .u64 ((p : Int) + (q : Int)) 3689348814741910323 = (s : Int) := by rw [hs]; exact and_num _ _ 3689348814741910323 (by omega) (by omega) (by decide)
  have o2 : ones2 (p + q) = r + s := by rw [hr, hs]; rfl
  have lr : r ≤ 3689348814741910323 := by rw [hr]; exact Nat.and_le_right
  have ls : s ≤ 3689348814741910323 := by rw [hs]; exact Nat.and_le_right
  rw [o2] at l3 lx ly lz hz
  clear l2 o2 hr hs
  obtain ⟨t, ht⟩ : ∃ t, t = ((r + s) / 16 + (r + s) &&& 1085102592571150095) := ⟨_, rfl⟩
  have e5 : bits .and .u64 (((r : Int) + (s : Int)) / 16 + ((r : Int) + (s : Int))) 1085102592571150095 = (t : Int) := by rw [ht]; exact and_num _ _ 1085102592571150095 (by omega) (by omega) (by decide)
  have o3 : ones3 (r + s) = t := by rw [ht]; rfl
  rw [o3] at l3 lx ly lz hz
  clear o3 ht
  have H := Lib.hid hz
  clear hz
  go_enter Tryd.func71, Tryd.ntmps71
  go_wp2
  go_ret
  refine ⟨ret_int ?_, rfl⟩
  rw [i64_and127]
  exact ones_cast t (cnt a) H.out
theorem count_any (a : Nat) (w : World) (ha : a < 18446744073709551616) :
    Calls Tryd.prog 52 #[.int .u64 a] w fun e w' => e = .returned (.int .i64 (cnt a : Nat)) ∧ w = w' := by
  have c := onesCount_any a w ha
  go_enter Tryd.func52, Tryd.ntmps52
  go_wp2_with (go_at_call 71; refine c.mono ?_; rintro e w' ⟨rfl, rfl⟩)
  go_ret
  exact ⟨rfl, rfl⟩
end Go.Proofs.YtbcfmckhgjcakaaDoor
