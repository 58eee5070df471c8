/- label's own words on two labels, by contract: the world stays as it is. -/
import Derived.Test.YtdpikdkhemhmdaaLbBase
import Derived.Test.YtdpikdkhemhmdaaLbPop
import Derived.Laws.BitsAllLaws
namespace Go.Proofs.Ytdpikdkhemhmdaa
open Go.RowKit

/-- What is in a and not in b. -/
def lessN (a b : Nat) : Nat := a &&& (18446744073709551615 - b)
theorem less_bit (a b : Nat) (hb : b < 18446744073709551616) (i : Nat) (hi : i < 64) : (lessN a b).testBit i = (a.testBit i && !b.testBit i) := by
  have e : 18446744073709551615 - b = 2 ^ 64 - (b + 1) := by omega
  unfold lessN
  rw [Nat.testBit_and, e, Nat.testBit_two_pow_sub_succ hb i, decide_eq_true hi, Bool.true_and]
theorem less_lt (a b : Nat) (ha : a < 18446744073709551616) : lessN a b < 18446744073709551616 := Nat.lt_of_le_of_lt Nat.and_le_left ha
theorem both_less (a b : Nat) (ha : a < 18446744073709551616) (hb : b < 18446744073709551616) : wordOf (bothF 3 a b) = lessN a b :=
  word_ext (wordOf_lt _) (less_lt a b ha) fun i hi => by rw [wordOf_bit _ i hi, less_bit a b hb i hi]; rfl
theorem less_zero (a b : Nat) (ha : a < 18446744073709551616) (hb : b < 18446744073709551616) : (((lessN a b : Nat) : Int) == 0) = belowB a b := by
  rw [Bool.eq_iff_iff, below_iff, beq_iff_eq]
  constructor
  · intro h i hi hai
    have h0 : lessN a b = 0 := by omega
    have := less_bit a b hb i hi
    rw [h0, hai, Nat.zero_testBit] at this
    cases hbi : b.testBit i with
    | true => rfl
    | false => rw [hbi] at this; cases this
  · intro h
    have h0 : lessN a b = 0 := word_ext (less_lt a b ha) (by decide) fun i hi => by
      rw [less_bit a b hb i hi, Nat.zero_testBit]
      cases hai : a.testBit i with
      | false => rfl
      | true => rw [h i hi hai]; rfl
    rw [h0]; rfl
theorem or_lt (a b : Nat) (ha : a < 18446744073709551616) (hb : b < 18446744073709551616) : a ||| b < 18446744073709551616 := Nat.or_lt_two_pow (n := 64) ha hb
theorem and_lt (a b : Nat) (ha : a < 18446744073709551616) : a &&& b < 18446744073709551616 := Nat.lt_of_le_of_lt Nat.and_le_left ha

theorem less_any (a b : Nat) (w : World) (ha : a < 18446744073709551616) (hb : b < 18446744073709551616) :
    Calls Try.prog 67 #[.int .u64 a, .int .u64 b] w fun e w' => e = .returned (.int .u64 (lessN a b : Nat)) ∧ w = w' := by
  have H := Lib.hid (u64_andNot_nat a b ha hb)
  go_enter Try.func67, Try.ntmps67
  go_wp2
  go_ret
  exact ⟨ret_int H.out, rfl⟩
theorem below_any (a b : Nat) (w : World) (ha : a < 18446744073709551616) (hb : b < 18446744073709551616) :
    Calls Try.prog 51 #[.int .u64 a, .int .u64 b] w fun e w' => e = .returned (.bool (belowB a b)) ∧ w = w' := by
  have cL := less_any a b w ha hb
  have H := Lib.hid (less_zero a b ha hb)
  go_enter Try.func51, Try.ntmps51
  go_wp2_with (go_at_call 67; refine cL.mono ?_; rintro e w' ⟨rfl, rfl⟩)
  go_ret
  exact ⟨ret_bool H.out, rfl⟩
end Go.Proofs.Ytdpikdkhemhmdaa
