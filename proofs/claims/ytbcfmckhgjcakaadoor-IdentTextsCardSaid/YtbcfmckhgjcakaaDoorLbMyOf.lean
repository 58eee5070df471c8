/- label's own Of, by its contract. -/
import Derived.Test.YtbcfmckhgjcakaaDoorLbOf
import Derived.Test.YtbcfmckhgjcakaaDoorLbOps
namespace Go.Proofs.YtbcfmckhgjcakaaDoor
open Go.RowKit

theorem ofF_none : ofF [] = fun _ => false := by funext i; simp [ofF]
theorem wordOf_none : wordOf (ofF []) = 0 := word_ext (wordOf_lt _) (by decide) fun i hi => by
  rw [wordOf_bit _ i hi, ofF_none, Nat.zero_testBit]
theorem wordOf_or (xs : List Int) (k m : Nat) (h : k < xs.length) (hm : xs[k] = (m : Int)) (hm64 : m < 64) : wordOf (ofF (xs.take k)) ||| 2 ^ m = wordOf (ofF (xs.take (k + 1))) :=
  word_ext (or_lt _ _ (wordOf_lt _) (Nat.pow_lt_pow_right (by decide) hm64)) (wordOf_lt _) fun i hi => by
    rw [Nat.testBit_or, wordOf_bit _ i hi, wordOf_bit _ i hi, ofF_take xs k m i h hm, Nat.testBit_two_pow]
    congr 1
    rw [Bool.eq_iff_iff]; simp; omega

theorem ofW_lt (xs : List Int) : ofW xs < 18446744073709551616 := by
  unfold ofW; split
  · exact wordOf_lt _
  · decide

theorem wrap_pow (m : Nat) (h : 2 ^ m < 18446744073709551616) : IntKind.u64.wrap ((2 : Int) ^ m) = ((2 ^ m : Nat) : Int) := by
  have e : ((2 : Int) ^ m) = ((2 ^ m : Nat) : Int) := (Int.natCast_pow 2 m).symm
  rw [e, IntKind.wrap_u64]
  generalize 2 ^ m = p at *
  omega

set_option maxRecDepth 100000 in
set_option maxHeartbeats 4000000 in
theorem of_any (w : World) (p : Option Addr) (n c : Nat) (xs : List Int) (hp : NumRow .i64 w p xs) (hn : xs.length = n) (hl : n ≤ 17592186044416) :
    Calls Tryd.prog 33 #[.slice p n c] w fun e w' => e = .returned (.tuple #[.int .u64 (ofW xs), .int .i64 (ofE xs)]) ∧ w = w' := by
  have hbad := Lib.hid (of_bad xs)
  have hgood := Lib.hid (of_good xs)
  have hall := Lib.hid (ofF_all xs n hn)
  have HN := Lib.hid hn
  have H0 := Lib.hid wordOf_none
  generalize ofW xs = r at *
  generalize ofE xs = f at *
  clear hn
  go_enter Tryd.func33, Tryd.ntmps33
  go_wp2_with fail
  go_loopg [4, 9] n (fun g a i wr => ∃ (k : Nat), k + g = n ∧ i = .int .i64 k ∧ w = wr ∧ a = .int .u64 (wordOf (ofF (xs.take k)) : Nat) ∧ Hid (∀ (j : Nat) (hj : j < xs.length), j < k → 0 ≤ xs[j] ∧ xs[j] ≤ 63))
  case atStart => exact ⟨0, by omega, rfl, rfl, by rw [List.take_zero, H0.out]; rfl, fun j _ h => absurd h (Nat.not_lt_zero _)⟩
  case round =>
    obtain ⟨k, hk, rfl, rfl, rfl, hr⟩ := hrel
    by_cases h0 : k < n
    · have hx : k < xs.length := by rw [HN.out]; exact h0
      obtain ⟨b1, o1, rfl, l1, h1c⟩ := hp.at k hx
      have g1 := h1c w (Below.refl _ _)
      have hb' := Lib.hid (hbad.out k hx)
      have htk := Lib.hid (fun m => wordOf_or xs k m hx)
      have hrk : Hid (0 ≤ xs[k] → xs[k] ≤ 63 → ∀ (j : Nat) (hj : j < xs.length), j < k + 1 → 0 ≤ xs[j] ∧ xs[j] ≤ 63) := by
        intro q1 q2 j hj hjk
        by_cases e : j = k
        · subst e; exact ⟨q1, q2⟩
        · exact hr.out j hj (by omega)
      have hkk : (0 : Int) ≤ (k : Int) := Int.natCast_nonneg _
      have hkn : (k : Int) < (n : Int) := by omega
      have hwl := wordOf_lt (ofF (xs.take k))
      clear h1c hbad hgood hall hr H0
      generalize xs[k] = x at *
      by_cases hneg : x < 0
      · have e := hb'.out (.inl hneg)
        obtain ⟨rfl, rfl⟩ := e
        clear hb' htk hrk
        go_wp2_with fail
        go_ret2
        exact ⟨rfl, rfl⟩
      · by_cases hbig : 63 < x
        · have e := hb'.out (.inr hbig)
          obtain ⟨rfl, rfl⟩ := e
          clear hb' htk hrk
          go_wp2_with fail
          go_ret2
          exact ⟨rfl, rfl⟩
        · obtain ⟨m, rfl⟩ : ∃ m : Nat, x = m := ⟨x.toNat, by omega⟩
          have hm : m < 64 := by omega
          have hpw : 2 ^ m < 18446744073709551616 := (Nat.pow_lt_pow_right (by decide : 1 < 2) hm : 2 ^ m < 2 ^ 64)
          have ho := u64_or_nat (wordOf (ofF (xs.take k))) (2 ^ m) hwl hpw
          rw [htk.out m rfl hm] at ho
          have hrn := Lib.hid (hrk.out (by omega) (by omega))
          have hmm : (0 : Int) ≤ (m : Int) := Int.natCast_nonneg _
          generalize wordOf (ofF (xs.take k)) = a at *
          obtain ⟨a', ha'⟩ : ∃ a', wordOf (ofF (xs.take (k + 1))) = a' := ⟨_, rfl⟩
          rw [ha'] at ho
          have HA := Lib.hid ha'
          clear ha' hb' htk hrk
          go_wp2_with fail
          go_roundg (gk - 1)
          case rel =>
            refine ⟨k + 1, by omega, by go_num, rfl, ?_, hrn⟩
            rw [HA.out, ← ho, wrap_pow m hpw]
          case measure => omega
    · obtain rfl : k = n := by omega
      have e := hgood.out fun j hj => hr.out j hj (by have := HN.out; omega)
      obtain ⟨rfl, rfl⟩ := e
      have e2 := hall.out
      clear hbad hgood hall hr H0
      go_wp2_with fail
      go_ret2
      rw [e2]
      exact ⟨rfl, rfl⟩
end Go.Proofs.YtbcfmckhgjcakaaDoor
