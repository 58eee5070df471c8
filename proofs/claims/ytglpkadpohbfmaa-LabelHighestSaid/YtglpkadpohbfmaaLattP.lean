/- Labels are a lattice, plainly. -/
import Derived.Test.YtglpkadpohbfmaaLbOps
namespace Go.Proofs.Ytglpkadpohbfmaa
open Go

theorem below_refl (a : Nat) : belowB a a = true := (below_iff a a).2 fun _ _ h => h
theorem below_anti (a b : Nat) (ha : a < 18446744073709551616) (hb : b < 18446744073709551616) (h1 : belowB a b = true) (h2 : belowB b a = true) : a = b :=
  word_ext ha hb fun i hi => by
    have p := (below_iff a b).1 h1 i hi
    have q := (below_iff b a).1 h2 i hi
    cases x : a.testBit i <;> cases y : b.testBit i <;> simp_all
theorem below_trans (a b c : Nat) (h1 : belowB a b = true) (h2 : belowB b c = true) : belowB a c = true :=
  (below_iff a c).2 fun i hi h => (below_iff b c).1 h2 i hi ((below_iff a b).1 h1 i hi h)
theorem below_orl (a b : Nat) : belowB a (a ||| b) = true := (below_iff _ _).2 fun i _ h => by rw [Nat.testBit_or, h]; rfl
theorem below_orr (a b : Nat) : belowB b (a ||| b) = true := (below_iff _ _).2 fun i _ h => by rw [Nat.testBit_or, h, Bool.or_true]
theorem below_andl (a b : Nat) : belowB (a &&& b) a = true := (below_iff _ _).2 fun i _ h => by rw [Nat.testBit_and, Bool.and_eq_true] at h; exact h.1
theorem below_andr (a b : Nat) : belowB (a &&& b) b = true := (below_iff _ _).2 fun i _ h => by rw [Nat.testBit_and, Bool.and_eq_true] at h; exact h.2
theorem below_lub (a b c : Nat) (h1 : belowB a c = true) (h2 : belowB b c = true) : belowB (a ||| b) c = true := (below_iff _ _).2 fun i hi h => by
  rw [Nat.testBit_or, Bool.or_eq_true] at h
  rcases h with h | h
  · exact (below_iff a c).1 h1 i hi h
  · exact (below_iff b c).1 h2 i hi h
theorem below_glb (a b c : Nat) (h1 : belowB c a = true) (h2 : belowB c b = true) : belowB c (a &&& b) = true := (below_iff _ _).2 fun i hi h => by
  rw [Nat.testBit_and, (below_iff c a).1 h1 i hi h, (below_iff c b).1 h2 i hi h]; rfl
theorem less_and (a b : Nat) (ha : a < 18446744073709551616) (hb : b < 18446744073709551616) : lessN a b &&& b = 0 :=
  word_ext (and_lt _ _ (less_lt a b ha)) (by decide) fun i hi => by
    rw [Nat.testBit_and, less_bit a b hb i hi, Nat.zero_testBit]
    cases a.testBit i <;> cases b.testBit i <;> rfl
theorem less_or (a b : Nat) (ha : a < 18446744073709551616) (hb : b < 18446744073709551616) : lessN a b ||| (a &&& b) = a :=
  word_ext (or_lt _ _ (less_lt a b ha) (and_lt a b ha)) ha fun i hi => by
    rw [Nat.testBit_or, less_bit a b hb i hi, Nat.testBit_and]
    cases a.testBit i <;> cases b.testBit i <;> rfl
theorem and_or (a b c : Nat) : a &&& (b ||| c) = (a &&& b) ||| (a &&& c) := Nat.eq_of_testBit_eq fun i => by
  rw [Nat.testBit_and, Nat.testBit_or, Nat.testBit_or, Nat.testBit_and, Nat.testBit_and]
  cases a.testBit i <;> cases b.testBit i <;> cases c.testBit i <;> rfl
theorem or_and (a b c : Nat) : a ||| (b &&& c) = (a ||| b) &&& (a ||| c) := Nat.eq_of_testBit_eq fun i => by
  rw [Nat.testBit_or, Nat.testBit_and, Nat.testBit_and, Nat.testBit_or, Nat.testBit_or]
  cases a.testBit i <;> cases b.testBit i <;> cases c.testBit i <;> rfl
end Go.Proofs.Ytglpkadpohbfmaa
