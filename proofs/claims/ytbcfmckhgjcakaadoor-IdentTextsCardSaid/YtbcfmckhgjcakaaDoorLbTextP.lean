/- A label's text, plainly: no program. -/
import Derived.Test.YtbcfmckhgjcakaaDoorLbPop
import Derived.Lib.Join
import Derived.Lib.ItoaNum
namespace Go.Proofs.YtbcfmckhgjcakaaDoor
open Go

/-- A label's text. -/
def textN (a : Nat) : List UInt8 := if a = 0 then [45] else Lib.join ((listTo a 64).map Lib.decDigits) [43]
/-- A number's digits as a text. -/
def digsB (i : Nat) : ByteArray := ⟨(Lib.decDigits i).toArray⟩
theorem dec_lt (i : Nat) (h : i < 100) : Lib.decDigits i = if i < 10 then [UInt8.ofNat (48 + i)] else [UInt8.ofNat (48 + i / 10), UInt8.ofNat (48 + i % 10)] := by
  rw [Lib.decDigits]
  by_cases h1 : i < 10
  · rw [dif_pos h1, if_pos h1]
  · rw [dif_neg h1, if_neg h1, Lib.decDigits, dif_pos (by omega)]; rfl
theorem dec_len2 (i : Nat) (h : i < 100) : (Lib.decDigits i).length ≤ 2 := by
  rw [dec_lt i h]
  split <;> simp
theorem lens_le : ∀ l : List Nat, (∀ i ∈ l, i < 100) → Lib.lens (l.map Lib.decDigits) ≤ 2 * l.length
  | [], _ => by simp [Lib.lens]
  | x :: l, h => by
    have ih := lens_le l fun i hi => h i (List.mem_cons_of_mem _ hi)
    have hx := dec_len2 x (h x (List.mem_cons_self ..))
    simp only [Lib.lens, List.map_cons, List.sum_cons, List.length_cons] at ih ⊢
    omega
theorem list_below (a i : Nat) (h : i ∈ listTo a 64) : i < 100 := by have := list_lt a 64 i h; omega
theorem join_le (l : List Nat) (h : ∀ i ∈ l, i < 100) : (Lib.join (l.map Lib.decDigits) [43]).length ≤ 3 * l.length := by
  cases l with
  | nil => simp [Lib.join_nil]
  | cons x r =>
    have h1 := lens_le (x :: r) h
    rw [List.map_cons] at h1 ⊢
    rw [Lib.join_length]
    simp only [List.length_cons, List.length_nil, List.length_map] at h1 ⊢
    omega
theorem text_le (a : Nat) : (textN a).length ≤ 192 := by
  unfold textN
  split
  · simp
  · have := join_le (listTo a 64) (list_below a)
    have := listTo_len a 64
    omega
theorem digs_map (l : List Nat) : (l.map digsB).map (fun b => b.data.toList) = l.map Lib.decDigits := by
  rw [List.map_map]
  apply List.map_congr_left
  intro i _
  rfl
theorem list_nonzero (a : Nat) (h0 : a ≠ 0) (h : a < 18446744073709551616) : ∃ n, (listTo a 64).length = n + 1 := by
  obtain ⟨e, _⟩ := list_low a h0 h
  exact ⟨_, by rw [e]; rfl⟩
theorem join_snoc (xs : List (List UInt8)) (x sep : List UInt8) : Lib.join (xs ++ [x]) sep = if xs = [] then x else Lib.join xs sep ++ sep ++ x := by
  cases xs with
  | nil => simp [Lib.join_one]
  | cons y r =>
    rw [if_neg (by simp), List.cons_append, Lib.join_cons, Lib.join_cons]
    simp [Lib.joinTail]
end Go.Proofs.YtbcfmckhgjcakaaDoor
