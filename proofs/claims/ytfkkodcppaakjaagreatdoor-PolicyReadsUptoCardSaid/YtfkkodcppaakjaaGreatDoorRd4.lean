/- Texts of the proof, merged: LbTextP, LbSplP. -/
import Derived.Test.YtfkkodcppaakjaaGreatDoorRd3
import Derived.Lib.Join
import Derived.Lib.ItoaNum
import Derived.Lib.IndexBytes
import Derived.Lib.AtoiAll
/- A label's text, plainly: no program. -/
namespace Go.Proofs.YtfkkodcppaakjaaGreatDoor
open Go

/-- A label's text. -/
def textN (a : Nat) : List UInt8 := if a = 0 then [45] else Lib.join ((listTo a 64).map Lib.decDigits) [43]
/-- A number's digits as a text. -/
def digsB (i : Nat) : ByteArray := ⟨(Lib.decDigits i).toArray⟩
theorem dec_lt (i : Nat) (h : i < 100) : Lib.decDigits i = if i < 10 then [UInt8.ofNat (48 + i)] else [UInt8.ofNat (48 + i / 10), UInt8.ofNat (48 + i % 10)] := by
  rw [Lib.decDigits]
  by_cases h1 : i < 10
  · rw [dif_pos h1, if_pos h1]
  · rw [dif_neg h1, if_neg h1, Lib.decDigits, dif_pos (by omega)]; rfl
theorem dec_len2 (i : Nat) (h : i < 100) : (Lib.decDigits i).length ≤ 2 := by
  rw [dec_lt i h]
  split <;> simp
theorem lens_le : ∀ l : List Nat, (∀ i ∈ l, i < 100) → Lib.lens (l.map Lib.decDigits) ≤ 2 * l.length
  | [], _ => by simp [Lib.lens]
  | x :: l, h => by
    have ih := lens_le l fun i hi => h i (List.mem_cons_of_mem _ hi)
    have hx := dec_len2 x (h x (List.mem_cons_self ..))
    simp only [Lib.lens, List.map_cons, List.sum_cons, List.length_cons] at ih ⊢
    omega
theorem list_below (a i : Nat) (h : i ∈ listTo a 64) : i < 100 := by have := list_lt a 64 i h; omega
theorem join_le (l : List Nat) (h : ∀ i ∈ l, i < 100) : (Lib.join (l.map Lib.decDigits) [43]).length ≤ 3 * l.length := by
  cases l with
  | nil => simp [Lib.join_nil]
  | cons x r =>
    have h1 := lens_le (x :: r) h
    rw [List.map_cons] at h1 ⊢
    rw [Lib.join_length]
    simp only [List.length_cons, List.length_nil, List.length_map] at h1 ⊢
    omega
theorem text_le (a : Nat) : (textN a).length ≤ 192 := by
  unfold textN
  split
  · simp
  · have := join_le (listTo a 64) (list_below a)
    have := listTo_len a 64
    omega
theorem digs_map (l : List Nat) : (l.map digsB).map (fun b => b.data.toList) = l.map Lib.decDigits := by
  rw [List.map_map]
  apply List.map_congr_left
  intro i _
  rfl
theorem list_nonzero (a : Nat) (h0 : a ≠ 0) (h : a < 18446744073709551616) : ∃ n, (listTo a 64).length = n + 1 := by
  obtain ⟨e, _⟩ := list_low a h0 h
  exact ⟨_, by rw [e]; rfl⟩
theorem join_snoc_lb (xs : List (List UInt8)) (x sep : List UInt8) : Lib.join (xs ++ [x]) sep = if xs = [] then x else Lib.join xs sep ++ sep ++ x := by
  cases xs with
  | nil => simp [Lib.join_one]
  | cons y r =>
    rw [if_neg (by simp), List.cons_append, Lib.join_cons, Lib.join_cons]
    simp [Lib.joinTail]
end Go.Proofs.YtfkkodcppaakjaaGreatDoor
/- A text cut at each plus, plainly; what a label's text is cut into: no program. -/
namespace Go.Proofs.YtfkkodcppaakjaaGreatDoor
open Go

/-- What stands between the pluses: one piece at least. -/
def spl : List UInt8 → List (List UInt8)
  | [] => [[]]
  | c :: r => if c = 43 then [] :: spl r else (c :: (spl r).headD []) :: (spl r).tail
theorem spl_ne : ∀ l, spl l ≠ []
  | [] => by simp [spl]
  | c :: r => by unfold spl; split <;> simp
theorem spl_cut : ∀ l, (Lib.indexByte l 43 = -1 ∧ spl l = [l]) ∨ (∃ i : Nat, Lib.indexByte l 43 = i ∧ i < l.length ∧ spl l = l.take i :: spl (l.drop (i + 1)))
  | [] => .inl ⟨rfl, rfl⟩
  | c :: r => by
    have e1 : Lib.indexByte (c :: r) 43 = if c == 43 then 0 else if Lib.indexByte r 43 == -1 then -1 else Lib.indexByte r 43 + 1 := rfl
    have e2 : spl (c :: r) = if c = 43 then [] :: spl r else (c :: (spl r).headD []) :: (spl r).tail := rfl
    rw [e1, e2]
    by_cases h : c = 43
    · subst h
      exact .inr ⟨0, by simp, by simp, by simp⟩
    · rw [if_neg h, if_neg (by simpa using h)]
      rcases spl_cut r with ⟨h1, h2⟩ | ⟨i, h1, h2, h3⟩
      · left
        rw [h1, h2]
        exact ⟨by simp, rfl⟩
      · right
        refine ⟨i + 1, ?_, by simp; omega, ?_⟩
        · rw [h1, if_neg (by rw [beq_iff_eq]; omega)]; rfl
        · rw [h3]; rfl
/-- Pieces without a plus, put together, are cut into these. -/
theorem spl_one (p : List UInt8) (h : ∀ c ∈ p, c ≠ 43) : spl p = [p] := by
  rcases spl_cut p with ⟨_, h2⟩ | ⟨i, h1, h2, _⟩
  · exact h2
  · obtain ⟨h3, _⟩ := Lib.indexByte_some h1
    rw [List.getElem?_eq_getElem h2] at h3
    exact absurd (Option.some.inj h3) (h _ (List.getElem_mem h2))
theorem spl_app : ∀ (p l : List UInt8), (∀ c ∈ p, c ≠ 43) → spl (p ++ 43 :: l) = p :: spl l
  | [], l, _ => by simp [spl]
  | c :: p, l, h => by
    have hc := h c (List.mem_cons_self ..)
    have ih := spl_app p l fun d hd => h d (List.mem_cons_of_mem _ hd)
    rw [List.cons_append, spl, if_neg hc, ih]; rfl
theorem spl_join : ∀ (x : List UInt8) (ps : List (List UInt8)), (∀ p ∈ x :: ps, ∀ c ∈ p, c ≠ 43) → spl (Lib.join (x :: ps) [43]) = x :: ps
  | x, [], h => by
    rw [Lib.join_one]; exact spl_one x (h x (List.mem_cons_self ..))
  | x, y :: ps, h => by
    have ih := spl_join y ps fun p hp => h p (List.mem_cons_of_mem _ hp)
    have e : Lib.join (x :: y :: ps) [43] = x ++ 43 :: Lib.join (y :: ps) [43] := by
      rw [Lib.join_cons, Lib.join_cons]; simp [Lib.joinTail]
    rw [e, spl_app x _ (h x (List.mem_cons_self ..)), ih]
theorem dec_noplus (i : Nat) (h : i < 100) : ∀ c ∈ Lib.decDigits i, c ≠ 43 := by
  intro c hc
  rw [dec_lt i h] at hc
  have hd : ∀ d, d < 10 → UInt8.ofNat (48 + d) ≠ 43 := by decide
  split at hc
  · rw [List.mem_singleton] at hc; rw [hc]; exact hd i (by omega)
  · simp only [List.mem_cons, List.not_mem_nil, or_false] at hc
    rcases hc with hc | hc
    · rw [hc]; exact hd _ (by omega)
    · rw [hc]; exact hd _ (by omega)
/-- What a label's text is cut into. -/
theorem spl_text (a : Nat) (h0 : a ≠ 0) (ha : a < 18446744073709551616) : spl (textN a) = (listTo a 64).map Lib.decDigits := by
  unfold textN
  rw [if_neg h0]
  have hm := list_below a
  obtain ⟨e, _⟩ := list_low a h0 ha
  cases hl : listTo a 64 with
  | nil => rw [hl] at e; cases e
  | cons x r =>
    rw [hl] at hm
    rw [List.map_cons]
    refine spl_join _ _ ?_
    intro p hp
    rw [← List.map_cons] at hp
    obtain ⟨i, hi, rfl⟩ := List.mem_map.1 hp
    exact dec_noplus i (hm i hi)
end Go.Proofs.YtfkkodcppaakjaaGreatDoor
