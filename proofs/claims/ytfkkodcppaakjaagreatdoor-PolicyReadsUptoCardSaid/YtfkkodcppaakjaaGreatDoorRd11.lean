/- Texts of the proof, merged: StrRow, Read, Pieces. -/
import Derived.Test.YtfkkodcppaakjaaGreatDoorRd1
import Derived.Test.YtfkkodcppaakjaaGreatDoorRd6
import Derived.Test.YtfkkodcppaakjaaGreatDoorRd10
import Derived.SliceStrings
import Derived.ProofKit
import Derived.Lib.Split
import Derived.Lib.IndexBytes
/- A slice of texts that came in: what it holds, and how much. -/
namespace Go.Proofs.YtfkkodcppaakjaaGreatDoor
open Go.RowKit

/-- The slice at p holds these texts. -/
def StrRow (w : World) (p : Option Addr) (ss : List ByteArray) : Prop := ∀ i (h : i < ss.length), ∃ b off, p = some ⟨b, off, none⟩ ∧ b < w.heap.size ∧ w.cell? ⟨b, off + i, none⟩ = some (.string ss[i])
theorem StrRow.below {w W : World} {p : Option Addr} {ss : List ByteArray} (h : StrRow w p ss) (hb : Below w.heap.size w W) : ∀ i (hi : i < ss.length), ∃ b off, p = some ⟨b, off, none⟩ ∧ W.cell? ⟨b, off + i, none⟩ = some (.string ss[i]) := fun i hi => by
  obtain ⟨b, off, e, hlt, hc⟩ := h i hi
  exact ⟨b, off, e, (hb.cell (p := ⟨b, off + i, none⟩) hlt).trans hc⟩
theorem StrRow.at {w : World} {p : Option Addr} {ss : List ByteArray} (h : StrRow w p ss) (i : Nat) (hi : i < ss.length) : ∃ b off, p = some ⟨b, off, none⟩ ∧ ∀ W, Below w.heap.size w W → W.cell? ⟨b, off + i, none⟩ = some (.string ss[i]) := by
  obtain ⟨b, off, e, hlt, hc⟩ := h i hi
  exact ⟨b, off, e, fun W hb => (hb.cell (p := ⟨b, off + i, none⟩) hlt).trans hc⟩
def listsOf (ss : List ByteArray) : List (List UInt8) := ss.map (·.data.toList)
def sizeOf' (ss : List ByteArray) : Nat := ((listsOf ss).map (fun l => l.length + 1)).sum
theorem size_mem (ss : List ByteArray) (k : Nat) (h : k < ss.length) : ss[k].size + 1 ≤ sizeOf' ss := by
  have := sum_mem (listsOf ss) ss[k].data.toList (by unfold listsOf; exact List.mem_map_of_mem (List.getElem_mem h))
  rw [len_size] at this
  exact this


section
open Go.ChangeShapes Go.WideShapes
theorem addr_add (b off i : Nat) : (⟨b, off, none⟩ : Addr).add i = ⟨b, off + i, none⟩ := by
  unfold Addr.add
  by_cases h : i = 0
  · subst h; rfl
  · simp [h]
set_option maxRecDepth 100000 in
/-- A slice of texts that came in, opened. -/
theorem open_row {H : Type} {enc : TypeId × Value → H} {W : World} {base : Nat} {v : Value} {d : DataW H} {ps : List MemPlace} (hv : Value.okWide Tryz.prog W .any base 75 v)
    (h : DataW.Trod enc Tryz.prog W 0 (fun _ => true) true 75 v d ps) :
    ∃ (p : Option Addr) (c : Nat) (xs : List ByteArray), v = .slice p xs.length c ∧ StrRow W p xs ∧ ((d = .nil ∧ xs = [] ∧ p = none ∧ c = 0) ∨ ∃ spare, d = .slice (strs xs) spare) := by
  obtain ⟨a0, n0, c0, rfl⟩ := okWide_slice Tryz.underlying75 hv
  obtain ⟨fuel, hf⟩ := h
  rcases open_strings Tryz.underlying75 Tryz.underlying9 (by kernel_rfl) hf with ⟨hcs, hx⟩ | ⟨a, len, cap, ss, hcs, _, hl, hm, hz, hx, hcell, hws⟩
  · simp [Value.cells] at hcs
    obtain ⟨rfl, rfl, rfl⟩ := hcs
    simp only [Prod.mk.injEq] at hx
    exact ⟨none, 0, [], rfl, fun i hi => absurd hi (Nat.not_lt_zero _), .inl ⟨hx.1, rfl, rfl, rfl⟩⟩
  · simp [Value.cells] at hcs
    obtain ⟨rfl, rfl, rfl⟩ := hcs
    simp only [Prod.mk.injEq] at hx
    simp only [if_true] at hz
    have hlen : (ss.take n0).length = n0 := by rw [List.length_take]; omega
    refine ⟨some a, c0, ss.take n0, by rw [hlen], fun i hi => ?_, .inr ⟨_, hx.1⟩⟩
    rw [hlen] at hi
    have hc := hcell i (by omega)
    have hc0 := hcell 0 (by omega)
    obtain ⟨b, off, spot⟩ := a
    have hspot : spot = none := by simpa [Addr.add] using World.cell?_spot hc0
    subst hspot
    rw [addr_add] at hc
    refine ⟨b, off, rfl, World.block_lt_of_cell? W _ hc, ?_⟩
    rw [List.getElem_take]
    have : ss.getD i ByteArray.empty = ss[i]'(by omega) := by rw [List.getD, List.getElem?_eq_getElem (by omega : i < ss.length)]; rfl
    rw [← this]
    exact hc

/-- A nil slice that came in reads as none, and has no room. -/
theorem nil_row {H : Type} {enc : TypeId × Value → H} {W : World} {d : DataW H} {ps : List MemPlace} {p : Option Addr} {c : Nat} {xs : List ByteArray}
    (h : DataW.Trod enc Tryz.prog W 0 (fun _ => true) true 75 (.slice p xs.length c) d ps) (hd : (d = .nil ∧ xs = [] ∧ p = none ∧ c = 0) ∨ ∃ spare, d = .slice (strs xs) spare) : p = none → xs = [] ∧ c = 0 := by
  intro hp
  rcases hd with ⟨_, h1, _, h2⟩ | ⟨spare, rfl⟩
  · exact ⟨h1, h2⟩
  · subst hp
    obtain ⟨fuel, hf⟩ := h
    rcases open_strings Tryz.underlying75 Tryz.underlying9 (by kernel_rfl) hf with ⟨_, hx⟩ | ⟨a, len, cap, ss, hcs, _⟩
    · simp at hx
    · simp [Value.cells] at hcs

theorem bulk_strs {H : Type} : ∀ xs : List ByteArray, Rows.uptoBulkAll (strs (H := H) xs) = sizeOf' xs
  | [] => by simp [strs, Rows.uptoBulkAll, sizeOf', listsOf]
  | x :: xs => by
    have ih := bulk_strs (H := H) xs
    unfold strs sizeOf' listsOf at ih ⊢
    simp only [List.map_cons, Rows.uptoBulkAll, Rows.uptoBulk, List.sum_cons]
    rw [ih]
theorem len_le_size (xs : List ByteArray) : xs.length ≤ sizeOf' xs := by
  induction xs with
  | nil => simp
  | cons x xs ih =>
    unfold sizeOf' listsOf at ih ⊢
    simp only [List.map_cons, List.sum_cons, List.length_cons]
    omega
/-- What the bound gives of such a slice. -/
theorem bulk_row {H : Type} {d : DataW H} {xs : List ByteArray} {p : Option Addr} {c : Nat} (h : (d = .nil ∧ xs = [] ∧ p = none ∧ c = 0) ∨ ∃ spare, d = .slice (strs xs) spare) {N : Nat} (hN : Rows.uptoBulk d ≤ N) : sizeOf' xs ≤ N ∧ xs.length ≤ N := by
  have hs : sizeOf' xs ≤ N := by
    rcases h with ⟨_, rfl, _, _⟩ | ⟨spare, rfl⟩
    · simp [sizeOf', listsOf]
    · simp only [Rows.uptoBulk, bulk_strs] at hN; omega
  exact ⟨hs, Nat.le_trans (len_le_size xs) hs⟩
end
end Go.Proofs.YtfkkodcppaakjaaGreatDoor
/- lines.Read, by its contract. -/
namespace Go.Proofs.YtfkkodcppaakjaaGreatDoor
open Go.RowKit

/-! Read -/
def readOk (l : List UInt8) : Bool := takeOk l && (restL l).isEmpty
def readN (l : List UInt8) : Int := if readOk l then valL l else 0
def readE (l : List UInt8) : Int := if readOk l then 0 else 4
theorem two_ret {n m e f : Int} (h1 : n = m) (h3 : e = f) : Ending.returned (.tuple #[.int .i64 n, .int .i64 e]) = .returned (.tuple #[.int .i64 m, .int .i64 f]) := by rw [h1, h3]
theorem read_bad1 (l : List UInt8) (h : takeOk l = false) : takeE l = 4 ∧ takeN l = 0 ∧ 0 = readN l ∧ 4 = readE l := by
  unfold readN readE readOk takeE takeN; rw [h]; exact ⟨rfl, rfl, rfl, rfl⟩
theorem read_bad2 (l : List UInt8) (h : takeOk l = true) (hr : (restL l).isEmpty = false) : takeE l = 0 ∧ takeT l = restL l ∧ 0 = readN l ∧ 4 = readE l := by
  unfold readN readE readOk takeE takeT; rw [h, hr]; exact ⟨rfl, rfl, rfl, rfl⟩
theorem read_good (l : List UInt8) (h : takeOk l = true) (hr : (restL l).isEmpty = true) : takeE l = 0 ∧ takeT l = [] ∧ takeN l = readN l ∧ 0 = readE l := by
  unfold readN readE readOk takeE takeT takeN; rw [h, hr]; exact ⟨rfl, List.isEmpty_iff.1 hr, rfl, rfl⟩

end Go.Proofs.YtfkkodcppaakjaaGreatDoor
/- Plain facts about texts cut at 0A: no program. -/
namespace Go.Proofs.YtfkkodcppaakjaaGreatDoor
open Go

/-- What stands between the bytes 0A. -/
def piecesL : List UInt8 → List (List UInt8)
  | [] => [[]]
  | c :: t => if c = 10 then [] :: piecesL t else match piecesL t with
    | [] => [[c]]
    | x :: xs => (c :: x) :: xs
theorem pieces_no : ∀ (l : List UInt8), (∀ c ∈ l, c ≠ 10) → piecesL l = [l]
  | [], _ => rfl
  | c :: t, h => by
    have h1 := pieces_no t (fun x hx => h x (List.mem_cons_of_mem _ hx))
    unfold piecesL
    rw [if_neg (h c (List.mem_cons_self ..)), h1]
theorem pieces_app : ∀ (a r : List UInt8), (∀ c ∈ a, c ≠ 10) → piecesL (a ++ 10 :: r) = a :: piecesL r
  | [], r, _ => by rw [List.nil_append, piecesL, if_pos rfl]
  | c :: t, r, h => by
    have h1 := pieces_app t r (fun x hx => h x (List.mem_cons_of_mem _ hx))
    rw [List.cons_append, piecesL, if_neg (h c (List.mem_cons_self ..)), h1]
theorem pieces_ne (l : List UInt8) : piecesL l ≠ [] := by
  cases l with
  | nil => simp [piecesL]
  | cons c t =>
    unfold piecesL
    split
    · simp
    · split <;> simp

/-- The texts that stand ahead of each 0A. -/
def cutOk (l : List UInt8) : Bool := l.isEmpty || l.getLast? == some 10
def cutL (l : List UInt8) : List (List UInt8) := if l.isEmpty then [] else if l.getLast? == some 10 then piecesL l.dropLast else []
def cutE (l : List UInt8) : Int := if cutOk l then 0 else 4

def nl : ByteArray := ⟨#[10]⟩
theorem nl_list : nl.data.toList = [10] := rfl
theorem occ_one (l : List UInt8) (j : Nat) : Lib.occAt l [10] j = true ↔ ∃ h : j < l.length, l[j] = 10 := by
  unfold Lib.occAt
  by_cases h : j < l.length
  · rw [List.drop_eq_getElem_cons h]
    simp only [List.isPrefixOf, Bool.and_true, beq_iff_eq]
    exact ⟨fun e => ⟨h, e.symm⟩, fun ⟨_, e⟩ => e.symm⟩
  · rw [List.drop_eq_nil_of_le (by omega)]
    simp only [List.isPrefixOf]
    exact ⟨fun e => (by cases e), fun ⟨h', _⟩ => absurd h' h⟩
theorem split_pieces : ∀ (n : Nat) (s : ByteArray), s.size ≤ n →
    (Lib.splitB nl 0 (Lib.countB s nl) s).map (·.data.toList) = piecesL s.data.toList ∧ (Lib.splitB nl 0 (Lib.countB s nl) s).length = Lib.countB s nl + 1
  | 0, s, h => by
    have hl : s.data.toList = [] := List.eq_nil_of_length_eq_zero (by rw [len_size]; omega)
    have hi : Lib.indexB s nl = -1 := by
      show Lib.index s.data.toList nl.data.toList = -1
      rw [hl]; rfl
    rw [Lib.splitB_miss nl 0 _ s hi, Lib.countB_miss s nl hi]
    exact ⟨by simp [hl, piecesL], rfl⟩
  | n + 1, s, h => by
    rcases Lib.index_spec s.data.toList nl.data.toList with ⟨hi, hno⟩ | ⟨i, hi, hle, hocc, hno⟩
    · rw [Lib.splitB_miss nl 0 _ s hi, Lib.countB_miss s nl hi]
      refine ⟨?_, rfl⟩
      rw [List.map_singleton, pieces_no]
      intro c hc e
      obtain ⟨j, hj, hjc⟩ := List.getElem_of_mem hc
      have h1 := hno j (by omega)
      have h2 : Lib.occAt s.data.toList nl.data.toList j = true := (occ_one _ j).2 ⟨hj, hjc.trans e⟩
      rw [h1] at h2; cases h2
    · rw [nl_list] at hocc
      obtain ⟨hlt, h10⟩ := (occ_one _ i).1 hocc
      rw [len_size] at hlt
      have hsz : nl.size = 1 := rfl
      have hc := Lib.countB_hit s nl i (by rw [hsz]; omega) hi
      rw [hc, Nat.add_comm 1, Lib.splitB_hit nl 0 _ s i hi, hsz]
      have hx : (s.extract (i + 1) s.size).size ≤ n := by
        rw [← len_size, Lib.extract_to_end, List.length_drop, len_size]; omega
      obtain ⟨h1, h2⟩ := split_pieces n (s.extract (i + 1) s.size) hx
      refine ⟨?_, by rw [List.length_cons, h2]⟩
      rw [List.map_cons, h1, Lib.extract_to_end, Nat.add_zero, Lib.extract_from_zero]
      have e : s.data.toList = s.data.toList.take i ++ 10 :: s.data.toList.drop (i + 1) := by
        conv => lhs; rw [← List.take_append_drop i s.data.toList]
        rw [drop_cons s i hlt]
        congr 2
      conv => rhs; rw [e]
      rw [pieces_app]
      intro c hc' e'
      obtain ⟨j, hj, hjc⟩ := List.getElem_of_mem hc'
      rw [List.length_take] at hj
      rw [List.getElem_take] at hjc
      have h3 := hno j (by omega)
      have h4 : Lib.occAt s.data.toList nl.data.toList j = true := (occ_one _ j).2 ⟨by rw [len_size]; omega, hjc.trans e'⟩
      rw [h3] at h4; cases h4
/-- The pieces as texts. -/
def asTexts (ls : List (List UInt8)) : List ByteArray := ls.map fun l => ⟨l.toArray⟩
theorem split_texts (s : ByteArray) : Lib.splitB nl 0 (Lib.countB s nl) s = asTexts (piecesL s.data.toList) ∧ Lib.countB s nl + 1 = (piecesL s.data.toList).length := by
  obtain ⟨h1, h2⟩ := split_pieces s.size s (Nat.le_refl _)
  constructor
  · unfold asTexts
    rw [← h1, List.map_map]
    conv => lhs; rw [← List.map_id (Lib.splitB nl 0 (Lib.countB s nl) s)]
    rfl
  · rw [← h2, ← h1, List.length_map]
theorem suffix_last (l : List UInt8) : Lib.hasSuffix l [10] = (l.getLast? == some 10) := by
  unfold Lib.hasSuffix
  rw [Bool.eq_iff_iff, List.isSuffixOf_iff_suffix, beq_iff_eq]
  constructor
  · rintro ⟨t, rfl⟩; simp
  · intro h
    obtain ⟨t, ht⟩ := List.getLast?_eq_some_iff.1 h
    exact ⟨t, ht.symm⟩
theorem trim_last (l : List UInt8) (h : (l.getLast? == some 10) = true) : Lib.trimSuffix l [10] = l.dropLast := by
  unfold Lib.trimSuffix
  rw [suffix_last, h, if_pos rfl, List.dropLast_eq_take]; rfl
end Go.Proofs.YtfkkodcppaakjaaGreatDoor
