/- Texts of the proof, merged: LbOps, LbTz. -/
import Derived.Test.YtbcfmckhgjcakaaDoorTx3
import Derived.Test.YtbcfmckhgjcakaaDoorTx6
import Derived.Laws.BitsAllLaws
import Derived.Lib.LaidTab
import Derived.Laws.Bits64b
/- label's own words on two labels, by contract: the world stays as it is. -/
namespace Go.Proofs.YtbcfmckhgjcakaaDoor
open Go.RowKit

/-- What is in a and not in b. -/
def lessN (a b : Nat) : Nat := a &&& (18446744073709551615 - b)
theorem less_bit (a b : Nat) (hb : b < 18446744073709551616) (i : Nat) (hi : i < 64) : (lessN a b).testBit i = (a.testBit i && !b.testBit i) := by
  have e : 18446744073709551615 - b = 2 ^ 64 - (b + 1) := by omega
  unfold lessN
  rw [Nat.testBit_and, e, Nat.testBit_two_pow_sub_succ hb i, decide_eq_true hi, Bool.true_and]
theorem less_lt (a b : Nat) (ha : a < 18446744073709551616) : lessN a b < 18446744073709551616 := Nat.lt_of_le_of_lt Nat.and_le_left ha
theorem both_less (a b : Nat) (ha : a < 18446744073709551616) (hb : b < 18446744073709551616) : wordOf (bothF 3 a b) = lessN a b :=
  word_ext (wordOf_lt _) (less_lt a b ha) fun i hi => by rw [wordOf_bit _ i hi, less_bit a b hb i hi]; rfl
theorem less_zero (a b : Nat) (ha : a < 18446744073709551616) (hb : b < 18446744073709551616) : (((lessN a b : Nat) : Int) == 0) = belowB a b := by
  rw [Bool.eq_iff_iff, below_iff, beq_iff_eq]
  constructor
  · intro h i hi hai
    have h0 : lessN a b = 0 := by omega
    have := less_bit a b hb i hi
    rw [h0, hai, Nat.zero_testBit] at this
    cases hbi : b.testBit i with
    | true => rfl
    | false => rw [hbi] at this; cases this
  · intro h
    have h0 : lessN a b = 0 := word_ext (less_lt a b ha) (by decide) fun i hi => by
      rw [less_bit a b hb i hi, Nat.zero_testBit]
      cases hai : a.testBit i with
      | false => rfl
      | true => rw [h i hi hai]; rfl
    rw [h0]; rfl
theorem or_lt (a b : Nat) (ha : a < 18446744073709551616) (hb : b < 18446744073709551616) : a ||| b < 18446744073709551616 := Nat.or_lt_two_pow (n := 64) ha hb
theorem and_lt (a b : Nat) (ha : a < 18446744073709551616) : a &&& b < 18446744073709551616 := Nat.lt_of_le_of_lt Nat.and_le_left ha

end Go.Proofs.YtbcfmckhgjcakaaDoor
/- The library's count of trailing zeros, by contract, over its table. -/
namespace Go.Proofs.YtbcfmckhgjcakaaDoor
open Go.RowKit

/-- The library's table, as the world holds it. -/
def BTab (w : World) : Prop := Lib.TabIs Tryd.prog w "math/bits.deBruijn64tab" .u8 (Lib.deBruijn64tab.map fun n : Nat => (n : Int))
theorem gBt : Tryd.prog.globalNamed "math/bits.deBruijn64tab" = some 3 := by kernel_rfl
theorem BTab.below {w w' : World} (h : BTab w) (hb : Below w.heap.size w w') : BTab w' := by
  unfold BTab Lib.TabIs World.var? at h ⊢
  rw [gBt] at h ⊢
  simp only [Option.bind_some] at h ⊢
  have hg : 3 < w.heap.size := by
    cases hh : w.heap[3]? with
    | none => rw [hh] at h; cases h
    | some o => exact (Array.getElem?_eq_some_iff.1 hh).1
  rw [hb.block _ hg]; exact h
theorem BTab.at {w : World} (h : BTab w) (j : Nat) (hj : j < 64) : w.cell? ⟨3, j, none⟩ = some (.int .u8 (Lib.deBruijn64tab.getD j 0 : Nat)) := by
  have h1 := Lib.TabIs.cell h gBt j (by rw [List.length_map]; exact hj)
  rw [h1]
  have hl : Lib.deBruijn64tab.length = 64 := rfl
  rw [List.getD_eq_getElem?_getD, List.getD_eq_getElem?_getD, List.getElem?_map, List.getElem?_eq_getElem (by omega)]
  rfl

theorem tz_key (x a : Nat) (hx : x < 18446744073709551616) (hx0 : x ≠ 0) (hlow : x &&& (18446744073709551616 - x) = a) :
    IntKind.u64.wrap (bits BinOp.and IntKind.u64 (x : Int) (IntKind.u64.wrap (-(x : Int))) * 285870213051353865) / 288230376151711744 = ((a * 285870213051353865 % 18446744073709551616 / 288230376151711744 : Nat) : Int) := by
  have e1 : IntKind.u64.wrap (-(x : Int)) = ((18446744073709551616 - x : Nat) : Int) := by rw [IntKind.wrap_u64]; omega
  rw [e1, bits_and_u64_nat x _ hx (by omega), hlow, IntKind.wrap_u64]
  omega
set_option maxHeartbeats 1000000 in
theorem tz_core (x k idx : Nat) (w : World) (hx0 : ((x : Int) == 0) = false)
    (key : IntKind.u64.wrap (bits BinOp.and IntKind.u64 (x : Int) (IntKind.u64.wrap (-(x : Int))) * 285870213051353865) / 288230376151711744 = (idx : Int))
    (hi : idx < 64) (hk : k < 64) (hcell : w.cell? ⟨3, idx, none⟩ = some (.int .u8 k)) :
    Calls Tryd.prog 53 #[.int .u64 x] w fun e w' => e = .returned (.int .i64 k) ∧ w = w' := by
  go_enter Tryd.func53, Tryd.ntmps53
  go_wp2_with (simp only [key])
  go_ret
  exact ⟨rfl, rfl⟩
theorem tz_any (x : Nat) (w : World) (hx : x < 18446744073709551616) (h0 : x ≠ 0) (hT : BTab w) :
    Calls Tryd.prog 53 #[.int .u64 x] w fun e w' => e = .returned (.int .i64 (Lib.ctz 64 x : Nat)) ∧ w = w' := by
  obtain ⟨hlow, hk⟩ := Lib.lowest_bit 64 x h0 hx
  obtain ⟨hi, htab⟩ := Lib.deBruijn64_at _ hk
  have hcell := hT.at _ hi
  rw [htab] at hcell
  exact tz_core x _ _ w (by simp; omega) (tz_key x _ hx h0 hlow) hi hk hcell
end Go.Proofs.YtbcfmckhgjcakaaDoor
