/- Texts of the proof, merged: LbOne. -/
import Derived.Test.YtfkkodcppaakjaaGreatDoorRd6
import Derived.Test.YtfkkodcppaakjaaGreatDoorRd24
/- Of at one number, plainly. -/
namespace Go.Proofs.YtfkkodcppaakjaaGreatDoor
open Go.RowKit
theorem of_one (c : Nat) (h : c < 64) : ofW [(c : Int)] = 2 ^ c ∧ ofE [(c : Int)] = 0 := by
  obtain ⟨h1, h2⟩ := of_good [(c : Int)] fun k hk => by
    match k, hk with
    | 0, _ => exact ⟨by show (0 : Int) ≤ (c : Int); omega, by show (c : Int) ≤ 63; omega⟩
  refine ⟨?_, h2⟩
  rw [h1]
  refine word_ext (wordOf_lt _) (Nat.pow_lt_pow_right (by decide) h) fun i hi => ?_
  rw [wordOf_bit _ i hi, Nat.testBit_two_pow]
  unfold ofF
  rw [Bool.eq_iff_iff]; simp; omega
end Go.Proofs.YtfkkodcppaakjaaGreatDoor
