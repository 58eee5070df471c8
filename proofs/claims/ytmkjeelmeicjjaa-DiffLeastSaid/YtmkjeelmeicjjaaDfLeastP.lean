/- The most texts in common of two lists, by rows of a table, from the beginning on; pairs that rise are no more than that: plain. -/
import Derived.Test.YtmkjeelmeicjjaaDfMapP
import Derived.Test.YtmkjeelmeicjjaaDfRows
namespace Go.Proofs.Ytmkjeelmeicjjaa
open Go Go.RowKit

/-- The most texts in common of the beginnings. -/
def Lt (a b : List Tx) (i j : Nat) : Nat := lcs (a.take i) (b.take j)
theorem Lt_none (a b : List Tx) (j : Nat) : Lt a b 0 j = 0 := by unfold Lt; rw [List.take_zero, lcs_nil']
theorem Lt_none' (a b : List Tx) (i : Nat) : Lt a b i 0 = 0 := by unfold Lt; rw [List.take_zero, lcs_nil]
theorem Lt_all (a b : List Tx) : Lt a b a.length b.length = lcs a b := by unfold Lt; rw [List.take_length, List.take_length]
theorem Lt_mono (a b : List Tx) {i i' j j' : Nat} (hi : i ≤ i') (hj : j ≤ j') : Lt a b i j ≤ Lt a b i' j' := lcs_mono (List.take_sublist_take_left hi) (List.take_sublist_take_left hj)
theorem Lt_le (a b : List Tx) (i j : Nat) : Lt a b i j ≤ a.length := by
  obtain ⟨l, h1, _, h3⟩ := lcs_sub (a.take i) (b.take j)
  have := h1.length_le
  unfold Lt
  rw [List.length_take] at this
  omega
theorem Lt_step (a b : List Tx) (i j : Nat) (hi : i < a.length) (hj : j < b.length) : Lt a b (i + 1) (j + 1) = if a[i]? = b[j]? then Lt a b i j + 1 else max (Lt a b i (j + 1)) (Lt a b (i + 1) j) := by
  unfold Lt
  rw [List.take_succ_eq_append_getElem hi, List.take_succ_eq_append_getElem hj, lcs_snoc, List.getElem?_eq_getElem hi, List.getElem?_eq_getElem hj]
  simp only [Option.some.injEq]
theorem Lt_eq (a b : List Tx) (i j : Nat) (hi : i < a.length) (hj : j < b.length) (h : a[i]? = b[j]?) : Lt a b (i + 1) (j + 1) = Lt a b i j + 1 ∧ Lt a b (i + 1) j ≤ Lt a b i j + 1 ∧ Lt a b i (j + 1) ≤ Lt a b i j + 1 := by
  have e := Lt_step a b i j hi hj
  rw [if_pos h] at e
  have h1 := Lt_mono a b (Nat.le_refl (i + 1)) (Nat.le_succ j)
  have h2 := Lt_mono a b (Nat.le_succ i) (Nat.le_refl (j + 1))
  exact ⟨e, by rw [← e]; exact h1, by rw [← e]; exact h2⟩
/-- A row of the table, filled below q. -/
def ltr (a b : List Tx) (i q : Nat) : List Value := (List.range (b.length + 1)).map fun j => .int .i64 ((if j < q then Lt a b i j else 0 : Nat) : Int)
theorem ltr_len (a b : List Tx) (i q : Nat) : (ltr a b i q).length = b.length + 1 := by simp [ltr]
theorem ltr_at (a b : List Tx) (i q j : Nat) (hj : j ≤ b.length) (hq : j < q) : (ltr a b i q)[j]? = some (.int .i64 (Lt a b i j : Nat)) := by
  unfold ltr
  rw [List.getElem?_map, List.getElem?_range (by omega), Option.map_some, if_pos hq]
theorem ltr_over (a b : List Tx) (i q j : Nat) (hj : j ≤ b.length) (hq : q ≤ j) : (ltr a b i q)[j]? = some (.int .i64 0) := by
  unfold ltr
  rw [List.getElem?_map, List.getElem?_range (by omega), Option.map_some, if_neg (by omega)]
  rfl
theorem ltr_set (a b : List Tx) (i q : Nat) (hq : q ≤ b.length) (v : Value) : ((ltr a b i q).set q v).set q (.int .i64 (Lt a b i q : Nat)) = ltr a b i (q + 1) := by
  rw [List.set_set]
  apply List.ext_getElem?
  intro k
  by_cases e : q = k
  · subst e
    rw [List.getElem?_set_self (by rw [ltr_len]; omega), ltr_at a b i (q + 1) q hq (by omega)]
  · rw [List.getElem?_set_ne e]
    by_cases hk : k ≤ b.length
    · by_cases hkq : k < q
      · rw [ltr_at a b i q k hk hkq, ltr_at a b i (q + 1) k hk (by omega)]
      · rw [ltr_over a b i q k hk (by omega), ltr_over a b i (q + 1) k hk (by omega)]
    · rw [List.getElem?_eq_none (by rw [ltr_len]; omega), List.getElem?_eq_none (by rw [ltr_len]; omega)]
theorem ltr_set1 (a b : List Tx) (i q : Nat) (hq : q ≤ b.length) : (ltr a b i q).set q (.int .i64 (Lt a b i q : Nat)) = ltr a b i (q + 1) := by
  have h := ltr_set a b i q hq (.int .i64 0)
  rwa [List.set_set] at h
theorem ltr_none (a b : List Tx) (i : Nat) : ltr a b i 1 = List.replicate (b.length + 1) (.int .i64 0) := by
  apply List.ext_getElem?
  intro k
  rw [List.getElem?_replicate]
  by_cases hk : k ≤ b.length
  · rw [if_pos (by omega)]
    by_cases h0 : k = 0
    · subst h0
      rw [ltr_at a b i 1 0 hk (by omega), Lt_none']; rfl
    · rw [ltr_over a b i 1 k hk (by omega)]
  · rw [if_neg (by omega), List.getElem?_eq_none (by rw [ltr_len]; omega)]
theorem ltr_zero (a b : List Tx) : ltr a b 0 (b.length + 1) = List.replicate (b.length + 1) (.int .i64 0) := by
  apply List.ext_getElem?
  intro k
  rw [List.getElem?_replicate]
  by_cases hk : k ≤ b.length
  · rw [if_pos (by omega), ltr_at a b 0 _ k hk (by omega), Lt_none]; rfl
  · rw [if_neg (by omega), List.getElem?_eq_none (by rw [ltr_len]; omega)]
/-- A pair behind what was found: one more. -/
theorem Lt_more (a b : List Tx) (I J c d f : Nat) (hf : f ≤ Lt a b I J) (hc : I ≤ c) (hd : J ≤ d) (hca : c < a.length) (hdb : d < b.length) (h : a[c]? = b[d]?) : f + 1 ≤ Lt a b (c + 1) (d + 1) := by
  have e := (Lt_eq a b c d hca hdb h).1
  have m := Lt_mono a b hc hd
  omega
theorem take_small (a b : List Tx) : ((a.take 100).length - pre (a.take 100) (b.take 100) - suf (a.take 100) (b.take 100)) * ((b.take 100).length - pre (a.take 100) (b.take 100) - suf (a.take 100) (b.take 100)) ≤ maxWork := by
  have h1 : (a.take 100).length ≤ 100 := by rw [List.length_take]; omega
  have h2 : (b.take 100).length ≤ 100 := by rw [List.length_take]; omega
  generalize (a.take 100).length = x at *
  generalize (b.take 100).length = y at *
  generalize pre (a.take 100) (b.take 100) = p
  generalize suf (a.take 100) (b.take 100) = s
  have h := Nat.mul_le_mul (show x - p - s ≤ 100 by omega) (show y - p - s ≤ 100 by omega)
  unfold maxWork
  omega
theorem comm_small (a b : List Tx) (ha : a.length ≤ 100) (hb : b.length ≤ 100) : (comm a b).length = lcs a b := by
  have h := take_small a b
  rw [List.take_of_length_le ha, List.take_of_length_le hb] at h
  exact comm_length a b h
end Go.Proofs.Ytmkjeelmeicjjaa
