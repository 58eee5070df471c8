/- How the document reads a label's text, plainly. -/
import Derived.Test.YtbcfmckhgjcakaaDoorLbParseP
namespace Go.Proofs.YtbcfmckhgjcakaaDoor
open Go

/-- The document's reading: the number so far, whether there is one, those before. -/
def scan : List UInt8 → Nat → Bool → List Nat → Option (List Nat)
  | [], n, sm, l => if sm = false ∨ 63 < n then none else some (l ++ [n])
  | c :: r, n, sm, l =>
    if c.toNat = 43 then (if sm = false ∨ 63 < n then none else scan r 0 false (l ++ [n]))
    else if c.toNat < 48 ∨ 57 < c.toNat ∨ 9 < n then none else scan r (n * 10 + (c.toNat - 48)) true l
theorem scan_digit (d n : Nat) (sm : Bool) (r : List UInt8) (l : List Nat) (hd : d < 10) (hn : n ≤ 9) : scan (UInt8.ofNat (48 + d) :: r) n sm l = scan r (n * 10 + d) true l := by
  have e : (UInt8.ofNat (48 + d)).toNat = 48 + d := by rw [UInt8.toNat_ofNat']; exact Nat.mod_eq_of_lt (by omega)
  rw [scan, e, if_neg (by omega), if_neg (by omega)]
  congr 2; omega
theorem scan_dec (x : Nat) (r : List UInt8) (l : List Nat) (hx : x < 64) : scan (Lib.decDigits x ++ r) 0 false l = scan r x true l := by
  rw [dec_lt x (by omega)]
  by_cases h : x < 10
  · rw [if_pos h, List.singleton_append, scan_digit x 0 false r l h (by omega)]
    congr 1; omega
  · rw [if_neg h, List.cons_append, List.singleton_append, scan_digit (x / 10) 0 false _ l (by omega) (by omega), scan_digit (x % 10) _ true r l (by omega) (by omega)]
    congr 1; omega
theorem scan_join : ∀ (x : Nat) (fs l : List Nat), (∀ i ∈ x :: fs, i < 64) → scan (Lib.join ((x :: fs).map Lib.decDigits) [43]) 0 false l = some (l ++ x :: fs)
  | x, [], l, h => by
    have hx := h x (List.mem_cons_self ..)
    have e := scan_dec x [] l hx
    rw [List.append_nil] at e
    rw [List.map_cons, List.map_nil, Lib.join_one, e, scan, if_neg (by simp; omega)]
  | x, y :: fs, l, h => by
    have hx := h x (List.mem_cons_self ..)
    have ih := scan_join y fs (l ++ [x]) fun i hi => h i (List.mem_cons_of_mem _ hi)
    have e : Lib.join ((x :: y :: fs).map Lib.decDigits) [43] = Lib.decDigits x ++ 43 :: Lib.join ((y :: fs).map Lib.decDigits) [43] := by
      rw [List.map_cons, List.map_cons, Lib.join_cons, Lib.join_cons]; simp [Lib.joinTail]
    rw [e, scan_dec x _ l hx, scan, if_pos (by decide), if_neg (by simp; omega), ih, List.append_assoc]; rfl
theorem scan_text (b : Nat) (h0 : b ≠ 0) (hb : b < 18446744073709551616) : scan (textN b) 0 false [] = some (listTo b 64) := by
  unfold textN
  rw [if_neg h0]
  have hm := list_lt b 64
  obtain ⟨e, _⟩ := list_low b h0 hb
  cases hl : listTo b 64 with
  | nil => rw [hl] at e; cases e
  | cons x r =>
    rw [hl] at hm
    rw [scan_join x r [] hm]; rfl
theorem of_list (b : Nat) (hb : b < 18446744073709551616) : ofW ((listTo b 64).map fun i : Nat => (i : Int)) = b ∧ ofE ((listTo b 64).map fun i : Nat => (i : Int)) = 0 := by
  obtain ⟨h1, h2⟩ := of_good ((listTo b 64).map fun i : Nat => (i : Int)) fun k hk => by
    rw [List.length_map] at hk
    have := list_lt b 64 _ (List.getElem_mem hk)
    rw [List.getElem_map]; omega
  refine ⟨?_, h2⟩
  rw [h1]
  refine word_ext (wordOf_lt _) hb fun i hi => ?_
  rw [wordOf_bit _ i hi]
  unfold ofF
  rw [Bool.eq_iff_iff, List.contains_iff_mem, List.mem_map]
  constructor
  · rintro ⟨j, hj, e⟩
    have : j = i := by omega
    rw [← this]; exact ((mem_list b j).1 hj).2
  · intro h
    exact ⟨i, (mem_list b i).2 ⟨hi, h⟩, rfl⟩
theorem scan_none {s : List UInt8} (hs : s ≠ [45]) (h : scan s 0 false [] = none) : ReadAs s 0 4 := by
  refine .inr ⟨rfl, rfl, fun b hb e => ?_⟩
  by_cases h0 : b = 0
  · subst h0; exact hs e.symm
  · have := scan_text b h0 hb
    rw [e, h] at this; cases this
theorem scan_some {s : List UInt8} (hs : s ≠ [45]) {l : List Nat} (h : scan s 0 false [] = some l) (hn : ofE (l.map fun i : Nat => (i : Int)) ≠ 0 ∨ textN (ofW (l.map fun i : Nat => (i : Int))) ≠ s) : ReadAs s 0 4 := by
  refine .inr ⟨rfl, rfl, fun b hb e => ?_⟩
  by_cases h0 : b = 0
  · subst h0; exact hs e.symm
  · have h1 := scan_text b h0 hb
    rw [e, h] at h1
    have h2 := Option.some.inj h1
    obtain ⟨h3, h4⟩ := of_list b hb
    rw [h2, h3, h4] at hn
    rcases hn with hn | hn
    · exact hn rfl
    · exact hn e
theorem scan_long {s : List UInt8} (h : 200 < s.length) : ReadAs s 0 4 := by
  refine .inr ⟨rfl, rfl, fun b _ e => ?_⟩
  have := text_le b
  rw [e] at this; omega
end Go.Proofs.YtbcfmckhgjcakaaDoor
