/- What lies between two labels, plainly. -/
import Derived.Test.YtglpkadpohbfmaaLbDep
import Derived.Test.YtglpkadpohbfmaaLattP
import Derived.Laws.Bits64b
namespace Go.Proofs.Ytglpkadpohbfmaa
open Go Go.RowKit

/-- The labels between two, rising. -/
def betw (a b : Nat) : List Nat := if belowB a b = true then (List.range (2 ^ cnt (lessN b a))).map fun j => a ||| dep 64 (lessN b a) j else []
theorem betw_len (a b : Nat) (h : belowB a b = true) : (betw a b).length = 2 ^ cnt (lessN b a) := by
  unfold betw; rw [if_pos h, List.length_map, List.length_range]
theorem betw_none (a b : Nat) (h : belowB a b = false) : betw a b = [] := by
  unfold betw; rw [if_neg (by rw [h]; decide)]
theorem betw_at (a b j : Nat) (h : belowB a b = true) (hj : j < 2 ^ cnt (lessN b a)) : (betw a b)[j]? = some (a ||| dep 64 (lessN b a) j) := by
  unfold betw
  rw [if_pos h, List.getElem?_map, List.getElem?_range hj]; rfl
theorem cnt_pcn (f : Nat) : pcn 64 f = cnt f := pcn_cnt 64 f
theorem dep_lt64 (f j : Nat) (h : f < 18446744073709551616) : dep 64 f j ≤ f := dep_le 64 f j h
theorem sum_or (a b j : Nat) (ha : a < 18446744073709551616) (hb : b < 18446744073709551616) : a ||| dep 64 (lessN b a) j = a + dep 64 (lessN b a) j := by
  have hf := less_lt b a hb
  have h1 := dep_lt64 (lessN b a) j hf
  refine or_add 64 a _ ha (by omega) ?_
  have h2 := dep_and 64 (lessN b a) j hf
  rw [← h2, ← Nat.and_assoc, Nat.and_comm a, Nat.and_assoc, Nat.and_comm a, less_and b a hb ha, Nat.and_zero]
theorem or_lt64 (a b j : Nat) (ha : a < 18446744073709551616) (hb : b < 18446744073709551616) : a ||| dep 64 (lessN b a) j < 18446744073709551616 :=
  or_lt _ _ ha (Nat.lt_of_le_of_lt (dep_lt64 _ j (less_lt b a hb)) (less_lt b a hb))
theorem betw_rise (a b i j : Nat) (ha : a < 18446744073709551616) (hb : b < 18446744073709551616) (hij : i < j) (hj : j < 2 ^ cnt (lessN b a)) : a ||| dep 64 (lessN b a) i < a ||| dep 64 (lessN b a) j := by
  rw [sum_or a b i ha hb, sum_or a b j ha hb]
  have := dep_mono 64 (lessN b a) i j hij (by rw [cnt_pcn]; exact hj)
  omega
theorem betw_low (a b j : Nat) : belowB a (a ||| dep 64 (lessN b a) j) = true := below_orl _ _
theorem betw_high (a b j : Nat) (ha : a < 18446744073709551616) (hb : b < 18446744073709551616) (h : belowB a b = true) : belowB (a ||| dep 64 (lessN b a) j) b = true := by
  rw [below_iff]
  intro i hi h1
  rw [Nat.testBit_or, Bool.or_eq_true] at h1
  rcases h1 with h1 | h1
  · exact (below_iff a b).1 h i hi h1
  · rw [← dep_and 64 (lessN b a) j (less_lt b a hb), Nat.testBit_and, less_bit b a ha i hi] at h1
    simp only [Bool.and_eq_true] at h1
    exact h1.2.1
theorem dep_next (f t : Nat) (j : Nat) (hf : f < 18446744073709551616) (ht : t = dep 64 f j) : bits .and .u64 (IntKind.u64.wrap ((t : Int) - (f : Int))) (f : Int) = ((dep 64 f (j + 1) : Nat) : Int) := by
  have h1 := dep_step 64 f j hf
  have h2 := dep_lt64 f j hf
  rw [← ht] at h1 h2
  have e : IntKind.u64.wrap ((t : Int) - (f : Int)) = (((t + (2 ^ 64 - 1 - f) + 1) % 2 ^ 64 : Nat) : Int) := by
    rw [IntKind.wrap_u64]; omega
  rw [e, u64_and_nat _ f (Nat.mod_lt _ (by decide)) hf, h1]
theorem dep_end (f j : Nat) (hf : f < 18446744073709551616) (hj : j < 2 ^ cnt f) : (j + 1 = 2 ^ cnt f ∧ dep 64 f j = f) ∨ (j + 1 < 2 ^ cnt f ∧ dep 64 f j < f) := by
  have h1 := dep_last 64 f hf
  rw [cnt_pcn] at h1
  by_cases e : j + 1 = 2 ^ cnt f
  · refine .inl ⟨e, ?_⟩
    rw [show j = 2 ^ cnt f - 1 by omega]; exact h1
  · refine .inr ⟨by omega, ?_⟩
    have := dep_mono 64 f j (2 ^ cnt f - 1) (by omega) (by rw [cnt_pcn]; omega)
    omega
end Go.Proofs.Ytglpkadpohbfmaa
