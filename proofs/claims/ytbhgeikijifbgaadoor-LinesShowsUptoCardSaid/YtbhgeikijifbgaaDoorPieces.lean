/- Plain facts about texts cut at 0A: no program. -/
import Derived.Test.YtbhgeikijifbgaaDoorPlain
import Derived.Lib.Split
import Derived.Lib.IndexBytes
namespace Go.Proofs.YtbhgeikijifbgaaDoor
open Go

/-- What stands between the bytes 0A. -/
def piecesL : List UInt8 → List (List UInt8)
  | [] => [[]]
  | c :: t => if c = 10 then [] :: piecesL t else match piecesL t with
    | [] => [[c]]
    | x :: xs => (c :: x) :: xs
theorem pieces_no : ∀ (l : List UInt8), (∀ c ∈ l, c ≠ 10) → piecesL l = [l]
  | [], _ => rfl
  | c :: t, h => by
    have h1 := pieces_no t (fun x hx => h x (List.mem_cons_of_mem _ hx))
    unfold piecesL
    rw [if_neg (h c (List.mem_cons_self ..)), h1]
theorem pieces_app : ∀ (a r : List UInt8), (∀ c ∈ a, c ≠ 10) → piecesL (a ++ 10 :: r) = a :: piecesL r
  | [], r, _ => by rw [List.nil_append, piecesL, if_pos rfl]
  | c :: t, r, h => by
    have h1 := pieces_app t r (fun x hx => h x (List.mem_cons_of_mem _ hx))
    rw [List.cons_append, piecesL, if_neg (h c (List.mem_cons_self ..)), h1]
theorem pieces_ne (l : List UInt8) : piecesL l ≠ [] := by
  cases l with
  | nil => simp [piecesL]
  | cons c t =>
    unfold piecesL
    split
    · simp
    · split <;> simp

/-- The texts that stand ahead of each 0A. -/
def cutOk (l : List UInt8) : Bool := l.isEmpty || l.getLast? == some 10
def cutL (l : List UInt8) : List (List UInt8) := if l.isEmpty then [] else if l.getLast? == some 10 then piecesL l.dropLast else []
def cutE (l : List UInt8) : Int := if cutOk l then 0 else 4

def nl : ByteArray := ⟨#[10]⟩
theorem nl_list : nl.data.toList = [10] := rfl
theorem occ_one (l : List UInt8) (j : Nat) : Lib.occAt l [10] j = true ↔ ∃ h : j < l.length, l[j] = 10 := by
  unfold Lib.occAt
  by_cases h : j < l.length
  · rw [List.drop_eq_getElem_cons h]
    simp only [List.isPrefixOf, Bool.and_true, beq_iff_eq]
    exact ⟨fun e => ⟨h, e.symm⟩, fun ⟨_, e⟩ => e.symm⟩
  · rw [List.drop_eq_nil_of_le (by omega)]
    simp only [List.isPrefixOf]
    exact ⟨fun e => (by cases e), fun ⟨h', _⟩ => absurd h' h⟩
theorem split_pieces : ∀ (n : Nat) (s : ByteArray), s.size ≤ n →
    (Lib.splitB nl 0 (Lib.countB s nl) s).map (·.data.toList) = piecesL s.data.toList ∧ (Lib.splitB nl 0 (Lib.countB s nl) s).length = Lib.countB s nl + 1
  | 0, s, h => by
    have hl : s.data.toList = [] := List.eq_nil_of_length_eq_zero (by rw [len_size]; omega)
    have hi : Lib.indexB s nl = -1 := by
      show Lib.index s.data.toList nl.data.toList = -1
      rw [hl]; rfl
    rw [Lib.splitB_miss nl 0 _ s hi, Lib.countB_miss s nl hi]
    exact ⟨by simp [hl, piecesL], rfl⟩
  | n + 1, s, h => by
    rcases Lib.index_spec s.data.toList nl.data.toList with ⟨hi, hno⟩ | ⟨i, hi, hle, hocc, hno⟩
    · rw [Lib.splitB_miss nl 0 _ s hi, Lib.countB_miss s nl hi]
      refine ⟨?_, rfl⟩
      rw [List.map_singleton, pieces_no]
      intro c hc e
      obtain ⟨j, hj, hjc⟩ := List.getElem_of_mem hc
      have h1 := hno j (by omega)
      have h2 : Lib.occAt s.data.toList nl.data.toList j = true := (occ_one _ j).2 ⟨hj, hjc.trans e⟩
      rw [h1] at h2; cases h2
    · rw [nl_list] at hocc
      obtain ⟨hlt, h10⟩ := (occ_one _ i).1 hocc
      rw [len_size] at hlt
      have hsz : nl.size = 1 := rfl
      have hc := Lib.countB_hit s nl i (by rw [hsz]; omega) hi
      rw [hc, Nat.add_comm 1, Lib.splitB_hit nl 0 _ s i hi, hsz]
      have hx : (s.extract (i + 1) s.size).size ≤ n := by
        rw [← len_size, Lib.extract_to_end, List.length_drop, len_size]; omega
      obtain ⟨h1, h2⟩ := split_pieces n (s.extract (i + 1) s.size) hx
      refine ⟨?_, by rw [List.length_cons, h2]⟩
      rw [List.map_cons, h1, Lib.extract_to_end, Nat.add_zero, Lib.extract_from_zero]
      have e : s.data.toList = s.data.toList.take i ++ 10 :: s.data.toList.drop (i + 1) := by
        conv => lhs; rw [← List.take_append_drop i s.data.toList]
        rw [drop_cons s i hlt]
        congr 2
      conv => rhs; rw [e]
      rw [pieces_app]
      intro c hc' e'
      obtain ⟨j, hj, hjc⟩ := List.getElem_of_mem hc'
      rw [List.length_take] at hj
      rw [List.getElem_take] at hjc
      have h3 := hno j (by omega)
      have h4 : Lib.occAt s.data.toList nl.data.toList j = true := (occ_one _ j).2 ⟨by rw [len_size]; omega, hjc.trans e'⟩
      rw [h3] at h4; cases h4
/-- The pieces as texts. -/
def asTexts (ls : List (List UInt8)) : List ByteArray := ls.map fun l => ⟨l.toArray⟩
theorem split_texts (s : ByteArray) : Lib.splitB nl 0 (Lib.countB s nl) s = asTexts (piecesL s.data.toList) ∧ Lib.countB s nl + 1 = (piecesL s.data.toList).length := by
  obtain ⟨h1, h2⟩ := split_pieces s.size s (Nat.le_refl _)
  constructor
  · unfold asTexts
    rw [← h1, List.map_map]
    conv => lhs; rw [← List.map_id (Lib.splitB nl 0 (Lib.countB s nl) s)]
    rfl
  · rw [← h2, ← h1, List.length_map]
theorem suffix_last (l : List UInt8) : Lib.hasSuffix l [10] = (l.getLast? == some 10) := by
  unfold Lib.hasSuffix
  rw [Bool.eq_iff_iff, List.isSuffixOf_iff_suffix, beq_iff_eq]
  constructor
  · rintro ⟨t, rfl⟩; simp
  · intro h
    obtain ⟨t, ht⟩ := List.getLast?_eq_some_iff.1 h
    exact ⟨t, ht.symm⟩
theorem trim_last (l : List UInt8) (h : (l.getLast? == some 10) = true) : Lib.trimSuffix l [10] = l.dropLast := by
  unfold Lib.trimSuffix
  rw [suffix_last, h, if_pos rfl, List.dropLast_eq_take]; rfl
end Go.Proofs.YtbhgeikijifbgaaDoor
