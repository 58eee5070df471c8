/- Texts of the proof, merged: StrRow, Read, Pieces, Cut, Text, Name, Works, Builder, Joined, BackPlain, TextRows, PoTextP, PoReadP, StrInfo, ShelfC. -/
import Derived.Test.YtfibbjnkicjbpaaGreatDoorNm1
import Derived.Test.YtfibbjnkicjbpaaGreatDoorNm2
import Derived.SliceStrings
import Derived.ProofKit
import Derived.Lib.Split
import Derived.Lib.IndexBytes
import Derived.Lib.Builder
import Derived.Lib.AppendStr
import Derived.Lib.UnsafeStr
import Derived.Lib.Walk
import Derived.Lib.IndexMore
import Derived.Shelf.Strings.Builder1
import Derived.Shelf.Strings.Builder2
import Derived.Shelf.Strings.OnBuilder
import Derived.Shelf.Small.Bits
import Derived.Shelf.Small.Wraps
import Derived.Shelf.Strings.BuilderF
import Derived.Shelf.Strings.BuilderK
import Derived.Shelf.Strings.Builder2Cap
import Derived.Shelf.Strconv.Atoi
import Derived.Shelf.Strconv.Itoa0
import Derived.Shelf.Strconv.Itoa1
import Derived.Shelf.LaysM
import Derived.Shelf.Strconv.Itoa2
import Derived.Shelf.Strconv.Itoa3
import Derived.Shelf.Strconv.AtoiErrFast
import Derived.Shelf.Strconv.ParseIntEmpty
import Derived.Shelf.Strconv.AtoiFail
import Derived.Shelf.Strconv.Clone
import Derived.Shelf.Strconv.SyntaxError
import Derived.Shelf.LaysC
import Derived.Shelf.Strconv.ToError
import Derived.Shelf.Strconv.Lower
import Derived.Shelf.Strconv.ParseUint10
import Derived.Shelf.Strconv.ParseUint10Empty
import Derived.Shelf.Strconv.ParseUint10Any
import Derived.Shelf.Strconv.ParseInt10
import Derived.Shelf.Strconv.AtoiLong
import Derived.Shelf.Strconv.AtoiInnerAll
import Derived.Shelf.Strconv.RangeError
import Derived.Shelf.Strconv.ToErrorRange
import Derived.Shelf.Strconv.AtoiAll
import Derived.Shelf.Strconv.ErrVarAll
import Derived.Shelf.Strings.Search1
import Derived.Shelf.Strings.Search2
import Derived.Shelf.Strings.Search3
import Derived.Shelf.Strings.Cut
import Derived.Shelf.Strings.Count
import Derived.Shelf.Strings.Shaped
import Derived.Shelf.Sort.Plain
import Derived.Shelf.GgClosure.StringsIndexFunc
import Derived.Ground.GgwProg
import Derived.Shelf.GgClosure.StringsIndexFuncTop
import Derived.Shelf.GgClosure.StringsRunes
import Derived.Shelf.Strings.Prefix
import Derived.Shelf.Strings.Split
import Derived.Shelf.Strings.SplitShaped
import Derived.Shelf.Unicode.DecodeSlow
import Derived.Shelf.Unicode.DecodeAny
import Derived.Shelf.Slices.In.SortNone
import Derived.Test.YtfibbjnkicjbpaaGreatDoorProg
/- A slice of texts that came in: what it holds, and how much. -/
namespace Go.Proofs.YtfibbjnkicjbpaaGreatDoor
open Go.RowKit

/-- The slice at p holds these texts. -/
def StrRow (w : World) (p : Option Addr) (ss : List ByteArray) : Prop := ∀ i (h : i < ss.length), ∃ b off, p = some ⟨b, off, none⟩ ∧ b < w.heap.size ∧ w.cell? ⟨b, off + i, none⟩ = some (.string ss[i])
theorem StrRow.below {w W : World} {p : Option Addr} {ss : List ByteArray} (h : StrRow w p ss) (hb : Below w.heap.size w W) : ∀ i (hi : i < ss.length), ∃ b off, p = some ⟨b, off, none⟩ ∧ W.cell? ⟨b, off + i, none⟩ = some (.string ss[i]) := fun i hi => by
  obtain ⟨b, off, e, hlt, hc⟩ := h i hi
  exact ⟨b, off, e, (hb.cell (p := ⟨b, off + i, none⟩) hlt).trans hc⟩
theorem StrRow.at {w : World} {p : Option Addr} {ss : List ByteArray} (h : StrRow w p ss) (i : Nat) (hi : i < ss.length) : ∃ b off, p = some ⟨b, off, none⟩ ∧ ∀ W, Below w.heap.size w W → W.cell? ⟨b, off + i, none⟩ = some (.string ss[i]) := by
  obtain ⟨b, off, e, hlt, hc⟩ := h i hi
  exact ⟨b, off, e, fun W hb => (hb.cell (p := ⟨b, off + i, none⟩) hlt).trans hc⟩
def listsOf (ss : List ByteArray) : List (List UInt8) := ss.map (·.data.toList)
def sizeOf' (ss : List ByteArray) : Nat := ((listsOf ss).map (fun l => l.length + 1)).sum
theorem size_mem (ss : List ByteArray) (k : Nat) (h : k < ss.length) : ss[k].size + 1 ≤ sizeOf' ss := by
  have := sum_mem (listsOf ss) ss[k].data.toList (by unfold listsOf; exact List.mem_map_of_mem (List.getElem_mem h))
  rw [len_size] at this
  exact this


section
open Go.ChangeShapes Go.WideShapes
theorem addr_add (b off i : Nat) : (⟨b, off, none⟩ : Addr).add i = ⟨b, off + i, none⟩ := by
  unfold Addr.add
  by_cases h : i = 0
  · subst h; rfl
  · simp [h]
set_option maxRecDepth 100000 in
/-- A slice of texts that came in, opened. -/
theorem open_row {H : Type} {enc : TypeId × Value → H} {W : World} {base : Nat} {v : Value} {d : DataW H} {ps : List MemPlace} (hv : Value.okWide Tryz.prog W .any base 33 v)
    (h : DataW.Trod enc Tryz.prog W 0 (fun _ => true) true 33 v d ps) :
    ∃ (p : Option Addr) (c : Nat) (xs : List ByteArray), v = .slice p xs.length c ∧ StrRow W p xs ∧ ((d = .nil ∧ xs = [] ∧ p = none ∧ c = 0) ∨ ∃ spare, d = .slice (strs xs) spare) := by
  obtain ⟨a0, n0, c0, rfl⟩ := okWide_slice Tryz.underlying33 hv
  obtain ⟨fuel, hf⟩ := h
  rcases open_strings Tryz.underlying33 Tryz.underlying9 (by kernel_rfl) hf with ⟨hcs, hx⟩ | ⟨a, len, cap, ss, hcs, _, hl, hm, hz, hx, hcell, hws⟩
  · simp [Value.cells] at hcs
    obtain ⟨rfl, rfl, rfl⟩ := hcs
    simp only [Prod.mk.injEq] at hx
    exact ⟨none, 0, [], rfl, fun i hi => absurd hi (Nat.not_lt_zero _), .inl ⟨hx.1, rfl, rfl, rfl⟩⟩
  · simp [Value.cells] at hcs
    obtain ⟨rfl, rfl, rfl⟩ := hcs
    simp only [Prod.mk.injEq] at hx
    simp only [if_true] at hz
    have hlen : (ss.take n0).length = n0 := by rw [List.length_take]; omega
    refine ⟨some a, c0, ss.take n0, by rw [hlen], fun i hi => ?_, .inr ⟨_, hx.1⟩⟩
    rw [hlen] at hi
    have hc := hcell i (by omega)
    have hc0 := hcell 0 (by omega)
    obtain ⟨b, off, spot⟩ := a
    have hspot : spot = none := by simpa [Addr.add] using World.cell?_spot hc0
    subst hspot
    rw [addr_add] at hc
    refine ⟨b, off, rfl, World.block_lt_of_cell? W _ hc, ?_⟩
    rw [List.getElem_take]
    have : ss.getD i ByteArray.empty = ss[i]'(by omega) := by rw [List.getD, List.getElem?_eq_getElem (by omega : i < ss.length)]; rfl
    rw [← this]
    exact hc

/-- A nil slice that came in reads as none, and has no room. -/
theorem nil_row {H : Type} {enc : TypeId × Value → H} {W : World} {d : DataW H} {ps : List MemPlace} {p : Option Addr} {c : Nat} {xs : List ByteArray}
    (h : DataW.Trod enc Tryz.prog W 0 (fun _ => true) true 33 (.slice p xs.length c) d ps) (hd : (d = .nil ∧ xs = [] ∧ p = none ∧ c = 0) ∨ ∃ spare, d = .slice (strs xs) spare) : p = none → xs = [] ∧ c = 0 := by
  intro hp
  rcases hd with ⟨_, h1, _, h2⟩ | ⟨spare, rfl⟩
  · exact ⟨h1, h2⟩
  · subst hp
    obtain ⟨fuel, hf⟩ := h
    rcases open_strings Tryz.underlying33 Tryz.underlying9 (by kernel_rfl) hf with ⟨_, hx⟩ | ⟨a, len, cap, ss, hcs, _⟩
    · simp at hx
    · simp [Value.cells] at hcs

theorem bulk_strs {H : Type} : ∀ xs : List ByteArray, Rows.uptoBulkAll (strs (H := H) xs) = sizeOf' xs
  | [] => by simp [strs, Rows.uptoBulkAll, sizeOf', listsOf]
  | x :: xs => by
    have ih := bulk_strs (H := H) xs
    unfold strs sizeOf' listsOf at ih ⊢
    simp only [List.map_cons, Rows.uptoBulkAll, Rows.uptoBulk, List.sum_cons]
    rw [ih]
theorem len_le_size (xs : List ByteArray) : xs.length ≤ sizeOf' xs := by
  induction xs with
  | nil => simp
  | cons x xs ih =>
    unfold sizeOf' listsOf at ih ⊢
    simp only [List.map_cons, List.sum_cons, List.length_cons]
    omega
/-- What the bound gives of such a slice. -/
theorem bulk_row {H : Type} {d : DataW H} {xs : List ByteArray} {p : Option Addr} {c : Nat} (h : (d = .nil ∧ xs = [] ∧ p = none ∧ c = 0) ∨ ∃ spare, d = .slice (strs xs) spare) {N : Nat} (hN : Rows.uptoBulk d ≤ N) : sizeOf' xs ≤ N ∧ xs.length ≤ N := by
  have hs : sizeOf' xs ≤ N := by
    rcases h with ⟨_, rfl, _, _⟩ | ⟨spare, rfl⟩
    · simp [sizeOf', listsOf]
    · simp only [Rows.uptoBulk, bulk_strs] at hN; omega
  exact ⟨hs, Nat.le_trans (len_le_size xs) hs⟩
end
end Go.Proofs.YtfibbjnkicjbpaaGreatDoor
/- lines.Read, by its contract. -/
namespace Go.Proofs.YtfibbjnkicjbpaaGreatDoor
open Go.RowKit

/-! Read -/
def readOk (l : List UInt8) : Bool := takeOk l && (restL l).isEmpty
def readN (l : List UInt8) : Int := if readOk l then valL l else 0
def readE (l : List UInt8) : Int := if readOk l then 0 else 4
theorem two_ret {n m e f : Int} (h1 : n = m) (h3 : e = f) : Ending.returned (.tuple #[.int .i64 n, .int .i64 e]) = .returned (.tuple #[.int .i64 m, .int .i64 f]) := by rw [h1, h3]
theorem read_bad1 (l : List UInt8) (h : takeOk l = false) : takeE l = 4 ∧ takeN l = 0 ∧ 0 = readN l ∧ 4 = readE l := by
  unfold readN readE readOk takeE takeN; rw [h]; exact ⟨rfl, rfl, rfl, rfl⟩
theorem read_bad2 (l : List UInt8) (h : takeOk l = true) (hr : (restL l).isEmpty = false) : takeE l = 0 ∧ takeT l = restL l ∧ 0 = readN l ∧ 4 = readE l := by
  unfold readN readE readOk takeE takeT; rw [h, hr]; exact ⟨rfl, rfl, rfl, rfl⟩
theorem read_good (l : List UInt8) (h : takeOk l = true) (hr : (restL l).isEmpty = true) : takeE l = 0 ∧ takeT l = [] ∧ takeN l = readN l ∧ 0 = readE l := by
  unfold readN readE readOk takeE takeT takeN; rw [h, hr]; exact ⟨rfl, List.isEmpty_iff.1 hr, rfl, rfl⟩

end Go.Proofs.YtfibbjnkicjbpaaGreatDoor
/- Plain facts about texts cut at 0A: no program. -/
namespace Go.Proofs.YtfibbjnkicjbpaaGreatDoor
open Go

/-- What stands between the bytes 0A. -/
def piecesL : List UInt8 → List (List UInt8)
  | [] => [[]]
  | c :: t => if c = 10 then [] :: piecesL t else match piecesL t with
    | [] => [[c]]
    | x :: xs => (c :: x) :: xs
theorem pieces_no : ∀ (l : List UInt8), (∀ c ∈ l, c ≠ 10) → piecesL l = [l]
  | [], _ => rfl
  | c :: t, h => by
    have h1 := pieces_no t (fun x hx => h x (List.mem_cons_of_mem _ hx))
    unfold piecesL
    rw [if_neg (h c (List.mem_cons_self ..)), h1]
theorem pieces_app : ∀ (a r : List UInt8), (∀ c ∈ a, c ≠ 10) → piecesL (a ++ 10 :: r) = a :: piecesL r
  | [], r, _ => by rw [List.nil_append, piecesL, if_pos rfl]
  | c :: t, r, h => by
    have h1 := pieces_app t r (fun x hx => h x (List.mem_cons_of_mem _ hx))
    rw [List.cons_append, piecesL, if_neg (h c (List.mem_cons_self ..)), h1]
theorem pieces_ne (l : List UInt8) : piecesL l ≠ [] := by
  cases l with
  | nil => simp [piecesL]
  | cons c t =>
    unfold piecesL
    split
    · simp
    · split <;> simp

/-- The texts that stand ahead of each 0A. -/
def cutOk (l : List UInt8) : Bool := l.isEmpty || l.getLast? == some 10
def cutL (l : List UInt8) : List (List UInt8) := if l.isEmpty then [] else if l.getLast? == some 10 then piecesL l.dropLast else []
def cutE (l : List UInt8) : Int := if cutOk l then 0 else 4

def nl : ByteArray := ⟨#[10]⟩
theorem nl_list : nl.data.toList = [10] := rfl
theorem occ_one (l : List UInt8) (j : Nat) : Lib.occAt l [10] j = true ↔ ∃ h : j < l.length, l[j] = 10 := by
  unfold Lib.occAt
  by_cases h : j < l.length
  · rw [List.drop_eq_getElem_cons h]
    simp only [List.isPrefixOf, Bool.and_true, beq_iff_eq]
    exact ⟨fun e => ⟨h, e.symm⟩, fun ⟨_, e⟩ => e.symm⟩
  · rw [List.drop_eq_nil_of_le (by omega)]
    simp only [List.isPrefixOf]
    exact ⟨fun e => (by cases e), fun ⟨h', _⟩ => absurd h' h⟩
theorem split_pieces : ∀ (n : Nat) (s : ByteArray), s.size ≤ n →
    (Lib.splitB nl 0 (Lib.countB s nl) s).map (·.data.toList) = piecesL s.data.toList ∧ (Lib.splitB nl 0 (Lib.countB s nl) s).length = Lib.countB s nl + 1
  | 0, s, h => by
    have hl : s.data.toList = [] := List.eq_nil_of_length_eq_zero (by rw [len_size]; omega)
    have hi : Lib.indexB s nl = -1 := by
      show Lib.index s.data.toList nl.data.toList = -1
      rw [hl]; rfl
    rw [Lib.splitB_miss nl 0 _ s hi, Lib.countB_miss s nl hi]
    exact ⟨by simp [hl, piecesL], rfl⟩
  | n + 1, s, h => by
    rcases Lib.index_spec s.data.toList nl.data.toList with ⟨hi, hno⟩ | ⟨i, hi, hle, hocc, hno⟩
    · rw [Lib.splitB_miss nl 0 _ s hi, Lib.countB_miss s nl hi]
      refine ⟨?_, rfl⟩
      rw [List.map_singleton, pieces_no]
      intro c hc e
      obtain ⟨j, hj, hjc⟩ := List.getElem_of_mem hc
      have h1 := hno j (by omega)
      have h2 : Lib.occAt s.data.toList nl.data.toList j = true := (occ_one _ j).2 ⟨hj, hjc.trans e⟩
      rw [h1] at h2; cases h2
    · rw [nl_list] at hocc
      obtain ⟨hlt, h10⟩ := (occ_one _ i).1 hocc
      rw [len_size] at hlt
      have hsz : nl.size = 1 := rfl
      have hc := Lib.countB_hit s nl i (by rw [hsz]; omega) hi
      rw [hc, Nat.add_comm 1, Lib.splitB_hit nl 0 _ s i hi, hsz]
      have hx : (s.extract (i + 1) s.size).size ≤ n := by
        rw [← len_size, Lib.extract_to_end, List.length_drop, len_size]; omega
      obtain ⟨h1, h2⟩ := split_pieces n (s.extract (i + 1) s.size) hx
      refine ⟨?_, by rw [List.length_cons, h2]⟩
      rw [List.map_cons, h1, Lib.extract_to_end, Nat.add_zero, Lib.extract_from_zero]
      have e : s.data.toList = s.data.toList.take i ++ 10 :: s.data.toList.drop (i + 1) := by
        conv => lhs; rw [← List.take_append_drop i s.data.toList]
        rw [drop_cons s i hlt]
        congr 2
      conv => rhs; rw [e]
      rw [pieces_app]
      intro c hc' e'
      obtain ⟨j, hj, hjc⟩ := List.getElem_of_mem hc'
      rw [List.length_take] at hj
      rw [List.getElem_take] at hjc
      have h3 := hno j (by omega)
      have h4 : Lib.occAt s.data.toList nl.data.toList j = true := (occ_one _ j).2 ⟨by rw [len_size]; omega, hjc.trans e'⟩
      rw [h3] at h4; cases h4
/-- The pieces as texts. -/
def asTexts (ls : List (List UInt8)) : List ByteArray := ls.map fun l => ⟨l.toArray⟩
theorem split_texts (s : ByteArray) : Lib.splitB nl 0 (Lib.countB s nl) s = asTexts (piecesL s.data.toList) ∧ Lib.countB s nl + 1 = (piecesL s.data.toList).length := by
  obtain ⟨h1, h2⟩ := split_pieces s.size s (Nat.le_refl _)
  constructor
  · unfold asTexts
    rw [← h1, List.map_map]
    conv => lhs; rw [← List.map_id (Lib.splitB nl 0 (Lib.countB s nl) s)]
    rfl
  · rw [← h2, ← h1, List.length_map]
theorem suffix_last (l : List UInt8) : Lib.hasSuffix l [10] = (l.getLast? == some 10) := by
  unfold Lib.hasSuffix
  rw [Bool.eq_iff_iff, List.isSuffixOf_iff_suffix, beq_iff_eq]
  constructor
  · rintro ⟨t, rfl⟩; simp
  · intro h
    obtain ⟨t, ht⟩ := List.getLast?_eq_some_iff.1 h
    exact ⟨t, ht.symm⟩
theorem trim_last (l : List UInt8) (h : (l.getLast? == some 10) = true) : Lib.trimSuffix l [10] = l.dropLast := by
  unfold Lib.trimSuffix
  rw [suffix_last, h, if_pos rfl, List.dropLast_eq_take]; rfl
end Go.Proofs.YtfibbjnkicjbpaaGreatDoor
/- lines.Cut, by its contracts: no bytes; a text that does not end with 0A; one that does. -/
namespace Go.Proofs.YtfibbjnkicjbpaaGreatDoor
open Go.RowKit

/-- The library's variable holds some number. -/
def MaxS (w : World) : Prop := ∃ m : Int, w.cell? ⟨1, 0, none⟩ = some (.int .i64 m)
theorem MaxS.below {w w' : World} (h : MaxS w) (hb : Below w.heap.size w w') : MaxS w' := by
  obtain ⟨m, hm⟩ := h
  have hlt := World.block_lt_of_cell? w _ hm
  exact ⟨m, (hb.cell (p := ⟨1, 0, none⟩) hlt).trans hm⟩
theorem MaxS.of_shaped {w : World} (h : w.ShapedOpen Tryz.prog) : MaxS w := Tryz.laysM146.s1_3 w h

set_option maxHeartbeats 400000 in
theorem cut_empty (s : ByteArray) (w : World) (h0 : ¬ 1 ≤ s.size) :
    Calls Tryz.prog 61 #[.string s] w fun e w' => e = .returned (.tuple #[.slice none 0 0, .int .i64 0]) ∧ w = w' := by
  obtain ⟨hne, hne2⟩ := bytes_none s h0
  clear h0
  go_enter Tryz.func61, Tryz.ntmps61
  go_wp2
  go_ret2
  exact ⟨rfl, rfl⟩

set_option maxHeartbeats 400000 in
theorem cut_bad (s : ByteArray) (w : World) (hs : s.size ≤ maxLen) (h0 : 1 ≤ s.size) (hl : (s.data.toList.getLast? == some 10) = false) :
    Calls Tryz.prog 61 #[.string s] w fun e w' => e = .returned (.tuple #[.slice none 0 0, .int .i64 4]) ∧ w = w' := by
  obtain ⟨hne, hne2⟩ := bytes_some s h0
  have hC := flipW (Tryz.strings_CutSuffix s ⟨#[10]⟩ w hs)
  rw [show (⟨#[10]⟩ : ByteArray).data.toList = [10] from rfl, suffix_last, hl] at hC
  generalize (⟨(Lib.trimSuffix s.data.toList [10]).toArray⟩ : ByteArray) = B at *
  clear h0 hl hs
  go_enter Tryz.func61, Tryz.ntmps61
  go_wp2_with (go_at_call 90; refine hC.mono ?_; rintro e w' ⟨rfl, rfl⟩)
  go_ret2
  exact ⟨rfl, rfl⟩

/-- The block that the pieces lie in. -/
def rowOf (ls : List (List UInt8)) : Obj := .cells ((asTexts ls).map Value.string).toArray 9

set_option maxHeartbeats 1000000 in
theorem cut_good (s : ByteArray) (w : World) (hs : s.size < 4294967281) (hm : MaxS w) (h0 : 1 ≤ s.size) (hl : (s.data.toList.getLast? == some 10) = true) :
    Calls Tryz.prog 61 #[.string s] w fun e w' => e = .returned (.tuple #[.slice (some ⟨w.heap.size, 0, none⟩) (piecesL s.data.toList.dropLast).length (piecesL s.data.toList.dropLast).length, .int .i64 0]) ∧ w' = w.alloc (rowOf (piecesL s.data.toList.dropLast)) := by
  obtain ⟨hne, hne2⟩ := bytes_some s h0
  have hC := flipW (Tryz.strings_CutSuffix s ⟨#[10]⟩ w (by omega))
  rw [show (⟨#[10]⟩ : ByteArray).data.toList = [10] from rfl, suffix_last, hl, trim_last _ hl] at hC
  obtain ⟨B, hB⟩ : ∃ B : ByteArray, (⟨s.data.toList.dropLast.toArray⟩ : ByteArray) = B := ⟨_, rfl⟩
  have hBl : B.data.toList = s.data.toList.dropLast := by rw [← hB]
  have hBs : B.size < 4294967281 := by
    rw [← len_size B, hBl, List.length_dropLast, len_size]; omega
  obtain ⟨m, hm⟩ := hm
  have hS := Tryz.strings_Split B nl m w hBs hm (by decide)
  obtain ⟨e1, e2⟩ := split_texts B
  rw [e1, e2, hBl] at hS
  rw [hB] at hC
  change Calls Tryz.prog 91 #[.string B, .string ⟨#[10]⟩] w fun e w' => _ ∧ w' = w.alloc (rowOf (piecesL s.data.toList.dropLast)) at hS
  generalize (piecesL s.data.toList.dropLast).length = n at *
  generalize rowOf (piecesL s.data.toList.dropLast) = o at *
  clear e1 e2 hB hBl hBs hs h0 hl hm
  go_enter Tryz.func61, Tryz.ntmps61
  go_wp2_with (first
    | (go_at_call 90; refine hC.mono ?_; rintro e w' ⟨rfl, rfl⟩)
    | (go_at_call 91; refine hS.mono ?_; rintro e w' ⟨rfl, rfl⟩))
  go_ret2
  exact ⟨rfl, rfl⟩
end Go.Proofs.YtfibbjnkicjbpaaGreatDoor
/- lines.Text, by its contract. -/
namespace Go.Proofs.YtfibbjnkicjbpaaGreatDoor
open Go.RowKit

end Go.Proofs.YtfibbjnkicjbpaaGreatDoor
/- lines.Name, by its contract. -/
namespace Go.Proofs.YtfibbjnkicjbpaaGreatDoor
open Go.RowKit

/-- 'foreign', as ContainsFunc asks it. -/
theorem foreign_at (w : World) : Go.Proofs.PredAt Tryz.prog 59 #[] Go.Proofs.encR foreignR w := fun W r _ => by
  unfold FnGives
  rcases (by omega : r < 45 ∨ r = 45 ∨ (45 < r ∧ r < 48) ∨ (48 ≤ r ∧ r ≤ 57) ∨ (57 < r ∧ r < 95) ∨ r = 95 ∨ r = 96 ∨ (97 ≤ r ∧ r ≤ 122) ∨ 122 < r) with h | h | ⟨h, g⟩ | ⟨h, g⟩ | ⟨h, g⟩ | h | h | ⟨h, g⟩ | h
  all_goals
    obtain ⟨b, hb⟩ : ∃ b, foreignR r = b := ⟨_, rfl⟩
    have he := Lib.hid hb
    rw [hb]; clear hb
    go_enter Tryz.func59, Tryz.ntmps59
    go_wp2
    go_ret
    have hf := he.out
    unfold foreignR at hf
    exact ⟨ret_bool (by rw [← hf, Bool.eq_iff_iff]; simp; omega), 0, rfl⟩

set_option maxHeartbeats 400000 in
theorem name_any (s : ByteArray) (w : World) (hs : s.size ≤ maxLen) :
    Calls Tryz.prog 31 #[.string s] w fun e w' => e = .returned (.bool (nameL s.data.toList)) ∧ Below w.heap.size w w' := by
  unfold maxLen at hs
  have hC := fun W => Tryz.strings_ContainsFunc 59 #[] (enters_of Tryz.func59 (by kernel_rfl) rfl) foreignR s W (foreign_at W)
  by_cases h0 : 1 ≤ s.size
  · obtain ⟨hne, hne2⟩ := bytes_some s h0
    by_cases h : s.size ≤ 32
    · have he := Lib.hid (name_short s h0 h)
      obtain ⟨b, hb⟩ : ∃ b, Lib.idxFunc foreignR true s = b := ⟨_, rfl⟩
      rw [hb] at hC he
      clear hb
      go_enter Tryz.func31, Tryz.ntmps31
      go_wp2_with (go_at_call 58; refine (hC _).mono ?_; rintro e w' ⟨rfl, hb⟩)
      go_ret
      exact ⟨ret_bool he.out.symm, hb⟩
    · have he := Lib.hid (name_long s h)
      clear hC
      go_enter Tryz.func31, Tryz.ntmps31
      go_wp2
      go_ret
      exact ⟨ret_bool he.out.symm, Below.refl _ _⟩
  · have he := Lib.hid (name_empty s h0)
    clear hC
    obtain ⟨hne, hne2⟩ := bytes_none s h0
    go_enter Tryz.func31, Tryz.ntmps31
    go_wp2
    go_ret
    exact ⟨ret_bool he.out.symm, Below.refl _ _⟩
end Go.Proofs.YtfibbjnkicjbpaaGreatDoor
/- 'works', what each outright statement asks first: it returns true. -/
namespace Go.Proofs.YtfibbjnkicjbpaaGreatDoor
open Go.RowKit

/-- W has grown out of w, and the library's variables hold what they held. -/
def Wd (w W : World) : Prop := Tabs W ∧ MaxS W ∧ Below w.heap.size w W
theorem Wd.drew {w W : World} (h : Wd w W) : Wd w W.drew := ⟨h.1, h.2.1, h.2.2.drew⟩
theorem Wd.next {w W W' : World} (hb : Below W.heap.size W W') (h : Wd w W) : Wd w W' := ⟨h.1.below hb, h.2.1.below hb, h.2.2.trans (hb.mono h.2.2.size)⟩
/-- A contract at every world that has grown out of w. -/
def Tells (w : World) (f : Nat) (args : Array Value) (v : Value) : Prop := ∀ W, Wd w W → Calls Tryz.prog f args W fun e w' => e = .returned v ∧ Wd w w'
theorem tells_of {w : World} {f : Nat} {args : Array Value} {v : Value} (h : ∀ W, Wd w W → Calls Tryz.prog f args W fun e w' => e = .returned v ∧ Below W.heap.size W w') : Tells w f args v :=
  fun W hW => (h W hW).mono fun _ _ ⟨h1, h2⟩ => ⟨h1, Wd.next h2 hW⟩
theorem tells_same {w : World} {f : Nat} {args : Array Value} {v : Value} (h : ∀ W, Calls Tryz.prog f args W fun e w' => e = .returned v ∧ W = w') : Tells w f args v :=
  fun W hW => (h W).mono fun _ _ ⟨h1, h2⟩ => ⟨h1, h2 ▸ hW⟩

theorem tell_name (w : World) (l : List UInt8) (b : Bool) (hl : l.length ≤ 1000) (hb : nameL l = b) : Tells w 31 #[.string ⟨l.toArray⟩] (.bool b) :=
  tells_of fun W _ => by
    have := name_any ⟨l.toArray⟩ W (by rw [← len_size]; unfold maxLen; show l.length ≤ _; omega)
    rw [show (⟨l.toArray⟩ : ByteArray).data.toList = l from rfl, hb] at this
    exact this
theorem itoa_small (u : Nat) (h : u < 10) : Lib.itoa (u : Int) = [UInt8.ofNat (48 + u)] := by rw [Lib.itoa_nonneg, dec_small h]

theorem works_cut (w W : World) (hW : Wd w W) : Calls Tryz.prog 61 #[.string ⟨#[97, 10, 10]⟩] W fun e w' => ∃ b, e = .returned (.tuple #[.slice (some ⟨b, 0, none⟩) 2 2, .int .i64 0]) ∧
    w'.cell? ⟨b, 0, none⟩ = some (.string ⟨#[97]⟩) ∧ w'.cell? ⟨b, 1, none⟩ = some (.string ⟨#[]⟩) ∧ Wd w w' := by
  refine (cut_good ⟨#[97, 10, 10]⟩ W (by decide) hW.2.1 (by decide) (by decide)).mono fun e w' ⟨he, hw⟩ => ⟨W.heap.size, he, ?_, ?_, ?_⟩
  · rw [hw]; show (W.alloc (.cells #[.string ⟨#[97]⟩, .string ⟨#[]⟩] _)).cell? _ = _; simp
  · rw [hw]; show (W.alloc (.cells #[.string ⟨#[97]⟩, .string ⟨#[]⟩] _)).cell? _ = _; simp
  · rw [hw]; exact Wd.next ((Below.refl _ _).alloc (Nat.le_refl _) _) hW

end Go.Proofs.YtfibbjnkicjbpaaGreatDoor
/- strings.Builder's writers at a builder that has grown already, and lines.Joined, each by its contract. (The shelf's own contracts of the writers are not laid over this copyCheck.) -/
namespace Go.Proofs.YtfibbjnkicjbpaaGreatDoor
open Go.RowKit

theorem builderSize : (Tryz.prog.info? 88).map (·.size) = some 2 := by kernel_rfl
theorem byteInfo : (Tryz.prog.info? 5).map (fun i => (i.zero, i.size, i.bytes)) = some (some (.int .u8 0), 1, 1) := by kernel_rfl
/-- A builder at block b that has been used, of what the call itself has made from B on. -/
def Bld (B b : Nat) (l : List UInt8) (w : World) : Prop := Lib.BuilderAt 88 5 B b (.pointer (some ⟨b, 0, none⟩)) (Lib.byteCells l) w

set_option maxHeartbeats 1000000 in
set_option maxRecDepth 100000 in
theorem copyCheck_used (b : Nat) (w : World) (h0 : w.cell? ⟨b, 0, none⟩ = some (.pointer (some ⟨b, 0, none⟩))) :
    Calls Tryz.prog 84 #[.pointer (some ⟨b, 0, none⟩)] w fun e w' => e = .returned (.tuple #[]) ∧ w = w' := by
  obtain ⟨j, hj, _⟩ := Option.map_eq_some_iff.1 builderSize
  go_enter Tryz.func84, Tryz.ntmps84
  go_wp2
  rw [Lib.run_neq_ptr_same w _ Tryz.underlying86 hj]
  go_wp2
  go_end0
  exact ⟨rfl, rfl⟩

set_option maxHeartbeats 2000000 in
set_option maxRecDepth 100000 in
theorem writeString_any (B b : Nat) (l : List UInt8) (s : ByteArray) (w : World) (h : Bld B b l w) (hlen : l.length + s.size ≤ 140737488355328) (hBw : B ≤ w.heap.size) :
    Calls Tryz.prog 55 #[.pointer (some ⟨b, 0, none⟩), .string s] w fun e w' => e = .returned (.tuple #[.int .i64 s.size, .nilIface]) ∧ Bld B b (l ++ s.data.toList) w' ∧ Below B w w' := by
  obtain ⟨i0, hi, hz0, hz1, hz2⟩ := info_parts byteInfo
  obtain ⟨hB, v, hbk, hown, hne⟩ := h
  rw [Lib.byteCells_length] at hown
  have c0 : w.cell? ⟨b, 0, none⟩ = some (.pointer (some ⟨b, 0, none⟩)) := by rw [Lib.cell_of_heap hbk]; rfl
  have c1 : w.cell? ⟨b, 1, none⟩ = some v := by rw [Lib.cell_of_heap hbk]; rfl
  go_enter Tryz.func55, Tryz.ntmps55
  go_wp2_with (go_at_call 84; refine (copyCheck_used b _ c0).mono ?_)
  rintro e w' ⟨rfl, rfl⟩
  go_wp2_with (at_builtin; refine Lib.wpList_append_own_string _ rfl _ _ 64 9 rfl B 5 i0 Tryz.underlying64 Tryz.underlying9 hi hz0 hz1 hz2 _ _ _ rfl hown s rfl ?c3 ?c4 ?c5 ?_)
  case c3 => unfold maxLen; omega
  case c4 => omega
  case c5 => omega
  intro v' w2 hown' hgrow _
  have hlt : b < w.heap.size := by
    rcases Nat.lt_or_ge b w.heap.size with h' | h'
    · exact h'
    · simp [Array.getElem?_eq_none h'] at hbk
  have hb2 : w2.heap[b]? = some (.cells #[.pointer (some ⟨b, 0, none⟩), v] 88 (0, 0)) := by
    rw [hgrow.block b hlt (fun e => hne e.symm)]
    exact hbk
  have d0 : w2.cell? ⟨b, 0, none⟩ = some (.pointer (some ⟨b, 0, none⟩)) := by rw [Lib.cell_of_heap hb2]; rfl
  have d1 : w2.cell? ⟨b, 1, none⟩ = some v := by rw [Lib.cell_of_heap hb2]; rfl
  have f1 : w2.frozen? ⟨b, 1, none⟩ = false := Lib.frozen_of_heap hb2 1
  obtain ⟨ao, n', cap, rfl⟩ : ∃ ao n' cap, v' = .slice ao n' cap := by
    rcases hown'.2 with ⟨hv, _⟩ | ⟨g, cap, cur, hv, _⟩
    · exact ⟨_, _, _, hv⟩
    · exact ⟨_, _, _, hv⟩
  go_wp2
  go_ret2
  refine ⟨rfl, ?_, ?_⟩
  · refine Lib.BuilderAt.put (T := 88) (e := 5) hB hb2 (bs' := Lib.byteCells (l ++ s.data.toList)) ?_ (by decide)
    rw [Lib.byteCells_length, List.length_append, len_size, Lib.byteCells_append, ← Lib.strCells_eq]
    exact hown'
  · exact ((Below.refl B w).grown hgrow (by omega) (fun k hk => (hown.lt k hk).1)).setCell (p := ⟨b, 1, none⟩) hB _

set_option maxHeartbeats 2000000 in
set_option maxRecDepth 100000 in
theorem writeByte_any (B b : Nat) (l : List UInt8) (c : UInt8) (w : World) (h : Bld B b l w) (hlen : l.length + 1 ≤ 140737488355328) (hBw : B ≤ w.heap.size) :
    Calls Tryz.prog 56 #[.pointer (some ⟨b, 0, none⟩), .int .u8 c.toNat] w fun e w' => e = .returned .nilIface ∧ Bld B b (l ++ [c]) w' ∧ Below B w w' := by
  obtain ⟨i0, hi, hz0, hz1, hz2⟩ := info_parts byteInfo
  obtain ⟨hB, v, hbk, hown, hne⟩ := h
  rw [Lib.byteCells_length] at hown
  have c0 : w.cell? ⟨b, 0, none⟩ = some (.pointer (some ⟨b, 0, none⟩)) := by rw [Lib.cell_of_heap hbk]; rfl
  have c1 : w.cell? ⟨b, 1, none⟩ = some v := by rw [Lib.cell_of_heap hbk]; rfl
  go_enter Tryz.func56, Tryz.ntmps56
  go_wp2_with (go_at_call 84; refine (copyCheck_used b _ c0).mono ?_)
  rintro e w' ⟨rfl, rfl⟩
  go_wp2_with (at_builtin; refine wpList_append_own _ rfl _ _ 64 rfl B 5 i0 (.int .u8 0) 1 1 Tryz.underlying64 hi hz0 hz1 hz2 rfl (by decide) _ _ _ rfl (hown.alloc _) ⟨w.heap.size, 0, none⟩ 1 1 [.int .u8 (c.toNat : Int)] rfl rfl ?c1 ?c2 ?c3 ?c4 ?c5 ?_)
  case c1 =>
    intro j u hj
    match j, hj with
    | 0, hj => simp at hj; subst hj; simp [Addr.add]
  case c2 => intro u hu; simp at hu; subst hu; rfl
  case c3 => unfold maxLen; omega
  case c4 => omega
  case c5 => simp; omega
  intro v' w2 hown' hgrow _
  have hlt : b < w.heap.size := by
    rcases Nat.lt_or_ge b w.heap.size with h' | h'
    · exact h'
    · simp [Array.getElem?_eq_none h'] at hbk
  have hb2 : w2.heap[b]? = some (.cells #[.pointer (some ⟨b, 0, none⟩), v] 88 (0, 0)) := by
    rw [hgrow.block b (by simp; omega) (fun e => hne e.symm), Lib.alloc_old w _ b hlt]
    exact hbk
  have d0 : w2.cell? ⟨b, 0, none⟩ = some (.pointer (some ⟨b, 0, none⟩)) := by rw [Lib.cell_of_heap hb2]; rfl
  have d1 : w2.cell? ⟨b, 1, none⟩ = some v := by rw [Lib.cell_of_heap hb2]; rfl
  have f1 : w2.frozen? ⟨b, 1, none⟩ = false := Lib.frozen_of_heap hb2 1
  obtain ⟨g, cap, rfl⟩ : ∃ g cap, v' = .slice (some ⟨g, 0, none⟩) (l.length + 1) cap := by
    rcases hown'.2 with ⟨_, h0⟩ | ⟨g, cap, cur, hv, _⟩
    · omega
    · exact ⟨g, cap, hv⟩
  go_wp2
  go_ret
  refine ⟨rfl, ?_, ?_⟩
  · refine Lib.BuilderAt.put (T := 88) (e := 5) hB hb2 (bs' := Lib.byteCells (l ++ [c])) ?_ (by decide)
    rw [Lib.byteCells_length, List.length_append, List.length_singleton, Lib.byteCells_append]
    exact hown'
  · exact (((Below.refl B w).alloc hBw _).grown hgrow (by simp; omega) (fun k hk => (hown.lt k hk).1)).setCell (p := ⟨b, 1, none⟩) hB _
end Go.Proofs.YtfibbjnkicjbpaaGreatDoor
/- lines.Joined, by its contract. -/
namespace Go.Proofs.YtfibbjnkicjbpaaGreatDoor
open Go.RowKit

/-- Each text, with 0A behind it. -/
def joinL (ls : List (List UInt8)) : List UInt8 := (ls.map (· ++ [10])).flatten
theorem join_snoc (ls : List (List UInt8)) (l : List UInt8) : joinL (ls ++ [l]) = joinL ls ++ (l ++ [10]) := by simp [joinL]
theorem join_len : ∀ ls : List (List UInt8), (joinL ls).length = (ls.map (fun l => l.length + 1)).sum
  | [] => rfl
  | l :: ls => by
    have ih := join_len ls
    unfold joinL at ih ⊢
    simp only [List.map_cons, List.flatten_cons, List.length_append, List.sum_cons, List.length_singleton, ih]
/-- What is written when k texts are. -/
def joinTo (ss : List ByteArray) (k : Nat) : List UInt8 := joinL ((listsOf ss).take k)
theorem joinTo_step (ss : List ByteArray) (k : Nat) (h : k < ss.length) : joinTo ss k ++ ss[k].data.toList ++ [10] = joinTo ss (k + 1) := by
  unfold joinTo
  rw [List.take_succ_eq_append_getElem (by unfold listsOf; simpa using h), join_snoc]
  simp [listsOf]
theorem joinTo_len (ss : List ByteArray) (k : Nat) : (joinTo ss k).length ≤ sizeOf' ss := by
  unfold joinTo
  rw [join_len]
  exact sum_take _ _
theorem joinTo_all (ss : List ByteArray) : joinTo ss ss.length = joinL (listsOf ss) := by
  unfold joinTo; rw [List.take_of_length_le (by unfold listsOf; simp)]
/-- How many bytes k texts have. -/
def bytesTo (ss : List ByteArray) (k : Nat) : Nat := ((ss.take k).map (·.size)).sum
theorem bytesTo_step (ss : List ByteArray) (k : Nat) (h : k < ss.length) : bytesTo ss (k + 1) = bytesTo ss k + ss[k].size := by
  unfold bytesTo
  rw [List.take_succ_eq_append_getElem h, List.map_append, List.sum_append]; simp
theorem bytes_le : ∀ (ss : List ByteArray), ss.length + (ss.map (·.size)).sum = sizeOf' ss
  | [] => rfl
  | s :: ss => by
    have ih := bytes_le ss
    unfold sizeOf' listsOf at ih ⊢
    simp only [List.map_cons, List.sum_cons, List.length_cons, len_size]
    omega
theorem bytesTo_le (ss : List ByteArray) (k : Nat) : ss.length + bytesTo ss k ≤ sizeOf' ss := by
  rw [← bytes_le]
  unfold bytesTo
  have : (ss.map (·.size)).sum = ((ss.take k).map (·.size)).sum + ((ss.drop k).map (·.size)).sum := by
    conv => lhs; rw [← List.take_append_drop k ss]
    rw [List.map_append, List.sum_append]
  omega

set_option maxRecDepth 100000 in
set_option maxHeartbeats 4000000 in
theorem joined_any (w : World) (p : Option Addr) (c : Nat) (ss : List ByteArray) (hr : StrRow w p ss) (hz : sizeOf' ss ≤ 1048576) :
    Calls Tryz.prog 30 #[.slice p ss.length c] w fun e w' => e = .returned (.string ⟨(joinL (listsOf ss)).toArray⟩) ∧ Below w.heap.size w w' := by
  have hlen := bytesTo_le ss 0
  obtain ⟨n, hn⟩ : ∃ n, ss.length = n := ⟨_, rfl⟩
  rw [hn]
  have HN := Lib.hid hn
  have hn1 : n ≤ 1048576 := by omega
  have hfin : Hid (joinL (listsOf ss) = joinTo ss n) := by rw [← hn, joinTo_all]; exact (rfl : _ = _)
  generalize joinL (listsOf ss) = fin at *
  clear hn hlen
  go_enter Tryz.func30, Tryz.ntmps30
  go_wp2_with fail
  go_loop [3, 13] (fun sz i => ∃ k : Nat, k ≤ n ∧ i = .int .i64 k ∧ sz = .int .i64 ((n + bytesTo ss k : Nat) : Int)) (fun _ i => n - (intOf i).toNat)
  case atStart => exact ⟨0, by omega, rfl, by simp [bytesTo]⟩
  case round =>
    obtain ⟨k, hk, rfl, rfl⟩ := hrel
    by_cases hlt : k < n
    · have hlt' : k < ss.length := by rw [HN.out]; exact hlt
      obtain ⟨b, off, rfl, hcell⟩ := hr.at k hlt'
      have hc := hcell w (Below.refl _ _)
      have hb1 := bytesTo_le ss (k + 1)
      rw [bytesTo_step ss k hlt', HN.out] at hb1
      have hst := Lib.hid (bytesTo_step ss k hlt')
      generalize ss[k] = s at *
      generalize bytesTo ss k = m at *
      clear hcell
      go_wp2_with fail
      go_round
      case rel => exact ⟨k + 1, by omega, by go_num, by rw [hst.out]; go_num⟩
      case measure => simp [intOf]; omega
    · obtain rfl : n = k := by omega
      have hb1 := bytesTo_le ss n
      rw [HN.out] at hb1
      generalize bytesTo ss n = m at *
      have hG := Tryz.Builder_Grow_fresh w.heap.size w.heap.size (n + m) (w.alloc (.cells #[.pointer none, .slice none 0 0] 88)) (Nat.le_refl _) (heap_alloc_new w _) (by simp) (by omega)
      go_wp2_with fail
      refine hG.mono ?_
      rintro e w1 ⟨rfl, hB1, hb1'⟩
      have hbw : Below w.heap.size w w1 := ((Below.refl _ w).alloc (Nat.le_refl _) _).trans hb1'
      have hB : Bld w.heap.size w.heap.size [] w1 := hB1
      clear hB1 hb1' hG
      have HB := Lib.hid hB
      clear hB
      generalize hbs : w.heap.size = B at *
      go_wp2_with fail
      go_loopw [26] (fun i wr => ∃ k : Nat, k ≤ n ∧ i = .int .i64 k ∧ Bld B B (joinTo ss k) wr ∧ Below B w wr) (fun i _ => n - (intOf i).toNat)
      case atStart => exact ⟨0, by omega, rfl, HB.out, hbw⟩
      case round =>
        clear HB hbw
        obtain ⟨k, hk, rfl, hBk, hbk⟩ := hrel
        by_cases hlt : k < n
        · have hlt' : k < ss.length := by rw [HN.out]; exact hlt
          obtain ⟨b, off, rfl, hcell⟩ := hr.at k hlt'
          have hc := hcell wr (by rw [hbs]; exact hbk)
          have hs1 := size_mem ss k hlt'
          have hj := joinTo_len ss k
          have hst := Lib.hid (joinTo_step ss k hlt')
          have hsz : B ≤ wr.heap.size := by rw [← hbs]; have := hbk.size; omega
          generalize ss[k] = s at *
          generalize joinTo ss k = l at *
          have cS := writeString_any B B l s wr hBk (by omega) hsz
          clear hcell hBk
          go_wp2_with fail
          refine cS.mono ?_
          rintro e w2 ⟨rfl, hB2, hb2⟩
          have hsz2 : B ≤ w2.heap.size := Nat.le_trans hsz hb2.size
          have hl2 : (l ++ s.data.toList).length + 1 ≤ 140737488355328 := by rw [List.length_append, len_size]; omega
          have cB := writeByte_any B B (l ++ s.data.toList) 10 w2 hB2 hl2 hsz2
          rw [hst.out] at cB
          clear cS hB2
          go_wp2_with fail
          refine cB.mono ?_
          rintro e w3 ⟨rfl, hB3, hb3⟩
          have HB3 := Lib.hid hB3
          have hb4 := (hbk.trans hb2).trans hb3
          clear cB hB3
          go_wp2_with fail
          go_roundw
          case rel => exact ⟨k + 1, by omega, by go_num, HB3.out, hb4⟩
          case measure => simp [intOf]; omega
        · obtain rfl : n = k := by omega
          have hsz : B ≤ wr.heap.size := by rw [← hbs]; have := hbk.size; omega
          have cS := Tryz.Builder_String_any B B (joinTo ss n) wr (.inr hBk) hsz
          rw [← hfin.out] at cS
          clear hBk
          go_wp2_with fail
          refine cS.mono ?_
          rintro e w2 ⟨rfl, hb2⟩
          have hb4 := hbk.trans hb2
          go_wp2_with fail
          go_ret
          exact ⟨rfl, by rw [hbs]; exact hb4⟩
end Go.Proofs.YtfibbjnkicjbpaaGreatDoor
/- Plain facts of what is written and read back: no program. -/
namespace Go.Proofs.YtfibbjnkicjbpaaGreatDoor
open Go

theorem dig_itoa (n : Int) : digsL (Lib.itoa n) = Lib.decDigits n.natAbs ∧ restL (Lib.itoa n) = [] ∧ formL (Lib.itoa n) = Lib.itoa n := by
  have hall : ∀ u, (Lib.decDigits u).takeWhile isDig = Lib.decDigits u ∧ (Lib.decDigits u).dropWhile isDig = [] := fun u => by
    have h : ∀ c ∈ Lib.decDigits u, isDig c = true := List.all_eq_true.1 (dec_digs u)
    have h1 := List.takeWhile_append_of_pos (l₂ := []) h
    have h2 := List.dropWhile_append_of_pos (l₂ := []) h
    rw [List.append_nil, List.takeWhile_nil, List.append_nil] at h1
    rw [List.append_nil, List.dropWhile_nil] at h2
    exact ⟨h1, h2⟩
  by_cases hn : n < 0
  · rw [itoa_neg' n hn]
    have hneg : negB (45 :: Lib.decDigits n.natAbs) = true := rfl
    have hb : bodyL (45 :: Lib.decDigits n.natAbs) = Lib.decDigits n.natAbs := rfl
    unfold digsL restL formL digsL
    rw [hneg, hb, (hall _).1, (hall _).2]
    exact ⟨rfl, rfl, rfl⟩
  · rw [itoa_pos' n hn]
    have hneg : negB (Lib.decDigits n.toNat) = false := by
      obtain ⟨c, t, hd, hc⟩ := dig_head n.toNat
      rw [hd]
      unfold negB
      rw [List.head?_cons]
      simpa using dig_not_sign c hc
    have hb : bodyL (Lib.decDigits n.toNat) = Lib.decDigits n.toNat := by unfold bodyL; rw [hneg]; rfl
    unfold digsL restL formL digsL
    rw [hneg, hb, (hall _).1, (hall _).2, show n.natAbs = n.toNat from by omega]
    exact ⟨rfl, rfl, rfl⟩
theorem read_itoa (n : Int) (h0 : -9223372036854775808 ≤ n) (h1 : n ≤ 9223372036854775807) : readN (Lib.itoa n) = n ∧ readE (Lib.itoa n) = 0 := by
  obtain ⟨_, hr, hf⟩ := dig_itoa n
  obtain ⟨hok, hv⟩ := ok_of_form (Lib.itoa n) n h0 h1 hf.symm
  unfold readN readE readOk
  rw [hok, hr, hv]
  exact ⟨rfl, rfl⟩
theorem itoa_read (l : List UInt8) (h : readOk l = true) : Lib.itoa (readN l) = l ∧ -9223372036854775808 ≤ readN l ∧ readN l ≤ 9223372036854775807 ∧ readE l = 0 := by
  have h' := h
  unfold readOk at h'
  simp only [Bool.and_eq_true] at h'
  have hr := List.isEmpty_iff.1 h'.2
  have hf := form_rest l
  rw [hr, List.append_nil] at hf
  obtain ⟨a, b⟩ := ok_range l h'.1
  unfold readN readE
  rw [h, form_of_ok l h'.1 |> fun e => (show Lib.itoa (if true = true then valL l else 0) = formL l from e), hf]
  exact ⟨rfl, a, b, rfl⟩
theorem read_not (l : List UInt8) (h : readOk l = false) : readE l = 4 := by unfold readE; rw [h]; rfl
theorem itoa_take (l : List UInt8) (h : takeOk l = true) : Lib.itoa (takeN l) ++ takeT l = l ∧ -9223372036854775808 ≤ takeN l ∧ takeN l ≤ 9223372036854775807 ∧ takeE l = 0 := by
  obtain ⟨e1, e2, e3⟩ := take_is l h
  obtain ⟨a, b⟩ := ok_range l h
  rw [e1, e2, e3, form_of_ok l h]
  exact ⟨form_rest l, a, b, rfl⟩
theorem show_shown (l : List UInt8) (h : shownOk l = true) : showL (shownT l) ++ shownR l = l ∧ shownE l = 0 ∧ (shownT l).length ≤ l.length := by
  have h' := h
  unfold shownOk at h'
  simp only [Bool.and_eq_true, decide_eq_true_eq, beq_iff_eq] at h'
  obtain ⟨⟨⟨hk, hh⟩, hv0⟩, hv1⟩ := h'
  obtain ⟨n, hn⟩ : ∃ n : Nat, valL l = n := ⟨(valL l).toNat, by omega⟩
  obtain ⟨t, ht⟩ : ∃ t, restL l = 58 :: t := by
    cases hr : restL l with
    | nil => rw [hr] at hh; cases hh
    | cons a t => rw [hr, List.head?_cons, Option.some.injEq] at hh; exact ⟨t, by rw [hh]⟩
  unfold shownT shownR shownE
  rw [h, hn, ht, Int.toNat_natCast]
  simp only [if_true, List.tail_cons]
  rw [ht, List.tail_cons, hn] at hv1
  have hlen : (t.take n).length = n := by rw [List.length_take]; omega
  refine ⟨?_, trivial, ?_⟩
  · unfold showL
    rw [hlen, ← hn, form_of_ok l hk, List.append_assoc, List.cons_append, List.take_append_drop, ← ht]
    exact form_rest l
  · have := rest_len l
    rw [ht, List.length_cons] at this
    rw [hlen]; omega
theorem shown_not (l : List UInt8) (h : shownOk l = false) : shownE l = 4 := by unfold shownE; rw [h]; rfl

theorem join_cons (l : List UInt8) (ls : List (List UInt8)) : joinL (l :: ls) = l ++ 10 :: joinL ls := by simp [joinL]
theorem join_pieces : ∀ m : List UInt8, joinL (piecesL m) = m ++ [10]
  | [] => rfl
  | c :: t => by
    have ih := join_pieces t
    unfold piecesL
    by_cases hc : c = 10
    · rw [if_pos hc, join_cons, ih, hc]; rfl
    · rw [if_neg hc]
      cases hp : piecesL t with
      | nil => exact absurd hp (pieces_ne t)
      | cons x xs =>
        rw [hp, join_cons] at ih
        simp only
        rw [join_cons, List.cons_append, ih]; rfl
theorem join_cut (l : List UInt8) (h : (l.getLast? == some 10) = true) : joinL (piecesL l.dropLast) = l := by
  rw [join_pieces]
  obtain ⟨t, ht⟩ := List.getLast?_eq_some_iff.1 (beq_iff_eq.1 h)
  rw [ht]; simp
theorem join_last : ∀ ls : List (List UInt8), ls ≠ [] → (joinL ls).getLast? = some 10
  | [], h => absurd rfl h
  | [l], _ => by rw [join_cons]; simp [joinL]
  | l :: m :: ls, _ => by
    have ih := join_last (m :: ls) (by simp)
    rw [join_cons, List.getLast?_append]
    have : (10 :: joinL (m :: ls)).getLast? = some 10 := by
      cases hj : joinL (m :: ls) with
      | nil => rfl
      | cons a t => rw [hj] at ih; rw [List.getLast?_cons_cons]; exact ih
    rw [this]; rfl
theorem cut_join : ∀ ls : List (List UInt8), (∀ l ∈ ls, l.contains 10 = false) → ls ≠ [] → piecesL (joinL ls).dropLast = ls
  | [], _, h => absurd rfl h
  | [l], ha, _ => by
    rw [join_cons]
    have h1 := ha l (List.mem_cons_self ..)
    rw [show joinL [] = [] from rfl, List.dropLast_concat]
    exact pieces_no l (fun c hc e => by
      rw [← e] at h1
      have : l.contains c = true := List.contains_iff_mem.2 hc
      rw [h1] at this; cases this)
  | l :: m :: ls, ha, _ => by
    have ih := cut_join (m :: ls) (fun x hx => ha x (List.mem_cons_of_mem _ hx)) (by simp)
    have h1 := ha l (List.mem_cons_self ..)
    have hne : joinL (m :: ls) ≠ [] := by rw [join_cons]; simp
    rw [join_cons, List.dropLast_append_of_ne_nil (by simp), List.dropLast_cons_of_ne_nil hne, pieces_app, ih]
    intro c hc e
    rw [← e] at h1
    have : l.contains c = true := List.contains_iff_mem.2 hc
    rw [h1] at this; cases this
end Go.Proofs.YtfibbjnkicjbpaaGreatDoor
/- Rows of texts that the call itself has made. -/
namespace Go.Proofs.YtfibbjnkicjbpaaGreatDoor
open Go.RowKit

theorem texts_lists (ls : List (List UInt8)) : listsOf (asTexts ls) = ls := by
  unfold listsOf asTexts
  rw [List.map_map]
  conv => rhs; rw [← List.map_id ls]
  rfl
theorem row_made (W : World) (ls : List (List UInt8)) : StrRow (W.alloc (rowOf ls)) (some ⟨W.heap.size, 0, none⟩) (asTexts ls) := fun i hi => by
  refine ⟨W.heap.size, 0, rfl, by simp, ?_⟩
  unfold rowOf
  rw [Nat.zero_add, World.cell?_alloc_mark]
  simp only [List.getElem?_toArray, List.getElem?_map]
  rw [List.getElem?_eq_getElem hi]; rfl
theorem size_join (ss : List ByteArray) : sizeOf' ss = (joinL (listsOf ss)).length := (join_len _).symm
theorem wd_of {w W : World} (hT : Tabs w) (hM : MaxS w) (hb : Below w.heap.size w W) : Wd w W := ⟨hT.below hb, hM.below hb, hb⟩
theorem strInfo : (Tryz.prog.info? 9).map (fun i => (i.zero, i.size, i.bytes)) = some (some (.string ⟨#[]⟩), 1, 16) := by kernel_rfl
/-- A row of texts that the call itself owns, as a slice that holds them. -/
theorem row_owned {W : World} {B : Nat} {e : TypeId} {v : Value} {ks : List ByteArray} (h : W.ownsRow B e 1 v ks.length (ks.map Value.string)) : ∃ p c, v = .slice p ks.length c ∧ StrRow W p ks := by
  rcases h.2 with ⟨hv, h0⟩ | ⟨g, cap, cur, hv, _⟩
  · refine ⟨none, 0, by rw [hv, h0], fun i hi => ?_⟩
    omega
  · refine ⟨some ⟨g, 0, none⟩, cap, hv, fun i hi => ?_⟩
    subst hv
    have hc := h.cellAt i (by omega)
    rw [List.getElem?_map, List.getElem?_eq_getElem hi] at hc
    have hlt := World.block_lt_of_cell? W _ (show W.cell? ⟨g, i, none⟩ = some (.string ks[i]) from hc)
    exact ⟨g, 0, rfl, hlt, by rw [Nat.zero_add]; exact hc⟩
theorem StrRow.later {w W : World} {p : Option Addr} {ss : List ByteArray} (h : StrRow w p ss) (hb : Below w.heap.size w W) : StrRow W p ss := fun i hi => by
  obtain ⟨b, off, e, hlt, hc⟩ := h i hi
  exact ⟨b, off, e, Nat.lt_of_lt_of_le hlt hb.size, (hb.cell (p := ⟨b, off + i, none⟩) hlt).trans hc⟩
/-- Its own row, untouched by what only adds. -/
theorem owns_later {w W : World} {B : Nat} {e : TypeId} {v : Value} {n : Nat} {cs : List Value} (h : w.ownsRow B e 1 v n cs) (hb : Below w.heap.size w W) : W.ownsRow B e 1 v n cs := by
  refine ⟨h.1, ?_⟩
  rcases h.2 with h' | ⟨g, cap, cur, hv, hB, hg, rest⟩
  · exact .inl h'
  · have hlt : g < w.heap.size := (Array.getElem?_eq_some_iff.1 hg).1
    exact .inr ⟨g, cap, cur, hv, hB, by rw [hb.block g hlt]; exact hg, rest⟩
/-- What Cut leaves, at any text: the texts in a row of its own. -/
def CutRow (W : World) (s : ByteArray) (e : Ending) (w' : World) : Prop := ∃ p c, e = .returned (.tuple #[.slice p (cutL s.data.toList).length c, .int .i64 (cutE s.data.toList)]) ∧ Below W.heap.size W w' ∧
  w'.ownsRow W.heap.size 9 1 (.slice p (cutL s.data.toList).length c) (cutL s.data.toList).length ((asTexts (cutL s.data.toList)).map Value.string)
theorem cut_row (s : ByteArray) (W : World) (hs : s.size < 4294967281) (hM : MaxS W) : Calls Tryz.prog 61 #[.string s] W (CutRow W s) := by
  by_cases h0 : 1 ≤ s.size
  · have hne : s.data.toList.isEmpty = false := by
      have := (bytes_some s h0).2
      rw [ByteArray.toList_eq] at this; exact this
    cases hl : (s.data.toList.getLast? == some 10)
    · have e1 : cutL s.data.toList = [] := by unfold cutL; rw [hne, hl]; rfl
      have e2 : cutE s.data.toList = 4 := by unfold cutE cutOk; rw [hne, hl]; rfl
      refine (cut_bad s W (by unfold maxLen; omega) h0 hl).mono fun e w' ⟨he, hw⟩ => ⟨none, 0, ?_, hw ▸ Below.refl _ _, ?_⟩
      · rw [e1, e2]; exact he
      · rw [e1]; exact World.ownsRow_nil _ _ _ _
    · have e1 : cutL s.data.toList = piecesL s.data.toList.dropLast := by unfold cutL; rw [hne, hl]; rfl
      have e2 : cutE s.data.toList = 0 := by unfold cutE cutOk; rw [hne, hl]; rfl
      refine (cut_good s W hs hM h0 hl).mono fun e w' ⟨he, hw⟩ => ⟨some ⟨W.heap.size, 0, none⟩, (piecesL s.data.toList.dropLast).length, ?_, ?_, ?_⟩
      · rw [e1, e2]; exact he
      · rw [hw]; exact (Below.refl _ _).alloc (Nat.le_refl _) _
      · rw [e1, hw]
        have hlen : (piecesL s.data.toList.dropLast).length ≤ maxLen := by
          have h1 := join_len (piecesL s.data.toList.dropLast)
          rw [join_cut _ hl, len_size] at h1
          have h2 : (piecesL s.data.toList.dropLast).length ≤ ((piecesL s.data.toList.dropLast).map (fun l => l.length + 1)).sum := by
            generalize piecesL s.data.toList.dropLast = ls
            induction ls with
            | nil => simp
            | cons x xs ih => simp only [List.map_cons, List.sum_cons, List.length_cons]; omega
          unfold maxLen; omega
        have := World.ownsRow_lit (base := W.heap.size) (e := 9) (size := 1) W ((asTexts (piecesL s.data.toList.dropLast)).map Value.string).toArray (piecesL s.data.toList.dropLast).length (Nat.le_refl _) hlen (by simp [asTexts])
        simpa [rowOf] using this
  · have hl : s.data.toList = [] := List.eq_nil_of_length_eq_zero (by rw [len_size]; omega)
    have e1 : cutL s.data.toList = [] := by rw [hl]; rfl
    have e2 : cutE s.data.toList = 0 := by rw [hl]; rfl
    refine (cut_empty s W h0).mono fun e w' ⟨he, hw⟩ => ⟨none, 0, ?_, hw ▸ Below.refl _ _, ?_⟩
    · rw [e1, e2]; exact he
    · rw [e1]; exact World.ownsRow_nil _ _ _ _
end Go.Proofs.YtfibbjnkicjbpaaGreatDoor
/- A policy's text, plainly: what is written is read back, and nothing else is read. -/
namespace Go.Proofs.YtfibbjnkicjbpaaGreatDoor
open Go

def lineOf (x : Vw) : List UInt8 := x.s ++ 32 :: textN x.c
def printL (l : List Vw) : List UInt8 := joinL (l.map lineOf)
/-- Is s the text of the policy of these viewers? -/
def Spells (s : List UInt8) (l : List Vw) : Prop := okL l ∧ Rising l ∧ Lo64 l ∧ printL l = s
theorem nameCh_not (c : UInt8) (h : nameCh c = true) : c ≠ 10 ∧ c ≠ 32 := by
  rw [nameCh_iff] at h
  constructor
  · rintro rfl; revert h; decide
  · rintro rfl; revert h; decide
theorem name_no {s : List UInt8} (h : nameL s = true) : ∀ c ∈ s, c ≠ 10 ∧ c ≠ 32 := by
  unfold nameL at h
  simp only [Bool.and_eq_true] at h
  exact fun c hc => nameCh_not c (List.all_eq_true.1 h.2 c hc)
theorem digs_no (u : Nat) : ∀ c ∈ Lib.decDigits u, c ≠ 10 ∧ c ≠ 32 := fun c hc => by
  have h := List.all_eq_true.1 (dec_digs u) c hc
  unfold isDig at h
  constructor
  · rintro rfl; revert h; decide
  · rintro rfl; revert h; decide
theorem join_mem : ∀ (ls : List (List UInt8)) (sep : List UInt8) (c : UInt8), c ∈ Lib.join ls sep → c ∈ sep ∨ ∃ l ∈ ls, c ∈ l
  | [], sep, c, h => by rw [Lib.join_nil] at h; simp at h
  | [x], sep, c, h => by rw [Lib.join_one] at h; exact .inr ⟨x, by simp, h⟩
  | x :: y :: ls, sep, c, h => by
    have e : Lib.join (x :: y :: ls) sep = x ++ (sep ++ Lib.join (y :: ls) sep) := by
      rw [Lib.join_cons, Lib.join_cons]; simp [Lib.joinTail]
    rw [e, List.mem_append, List.mem_append] at h
    rcases h with h | h | h
    · exact .inr ⟨x, by simp, h⟩
    · exact .inl h
    · rcases join_mem (y :: ls) sep c h with h | ⟨l, hl, hc⟩
      · exact .inl h
      · exact .inr ⟨l, by simp at hl ⊢; exact .inr hl, hc⟩
theorem text_no (a : Nat) : ∀ c ∈ textN a, c ≠ 10 ∧ c ≠ 32 := fun c hc => by
  unfold textN at hc
  split at hc
  · rw [List.mem_singleton.1 hc]; decide
  · rcases join_mem _ _ c hc with h | ⟨l, hl, h⟩
    · rw [List.mem_singleton.1 h]; decide
    · obtain ⟨u, _, rfl⟩ := List.mem_map.1 hl
      exact digs_no u c h
theorem line_no {x : Vw} (h : nameL x.s = true) : (lineOf x).contains 10 = false := by
  rw [← Bool.not_eq_true, List.contains_iff_mem]
  intro hm
  unfold lineOf at hm
  rw [List.mem_append, List.mem_cons] at hm
  rcases hm with hm | hm | hm
  · exact (name_no h 10 hm).1 rfl
  · cases hm
  · exact (text_no x.c 10 hm).1 rfl
/-- What stands ahead of the first blank, and behind it. -/
def nameOf (t : List UInt8) : List UInt8 := t.takeWhile (· != 32)
def wordAt (t : List UInt8) : List UInt8 := (t.dropWhile (· != 32)).drop 1
theorem name_line {x : Vw} (h : nameL x.s = true) : nameOf (lineOf x) = x.s ∧ wordAt (lineOf x) = textN x.c := by
  have hp : ∀ c ∈ x.s, (c != 32) = true := fun c hc => by simpa using (name_no h c hc).2
  unfold nameOf wordAt lineOf
  rw [List.takeWhile_append_of_pos hp, List.dropWhile_append_of_pos hp]
  simp
/-- The lines that a text is read as. -/
inductive Reads : List (List UInt8) → List Vw → Prop
  | nil : Reads [] []
  | snoc {ts : List (List UInt8)} {l : List Vw} {t : List UInt8} {a : Nat} (h : Reads ts l) (ha : a < 18446744073709551616) (e : textN a = wordAt t) : Reads (ts ++ [t]) (l ++ [⟨nameOf t, a⟩])
theorem Reads.lo {ts : List (List UInt8)} {l : List Vw} (h : Reads ts l) : Lo64 l := by
  induction h with
  | nil => exact fun x hx => by simp at hx
  | snoc _ ha _ ih =>
    intro x hx
    rw [List.mem_append, List.mem_singleton] at hx
    rcases hx with hx | rfl
    · exact ih x hx
    · exact ha
theorem Reads.len {ts : List (List UInt8)} {l : List Vw} (h : Reads ts l) : ts.length = l.length := by
  induction h with
  | nil => rfl
  | snoc _ _ _ ih => simp [ih]
/-- The lines of a policy's text are read as its viewers. -/
theorem reads_lines {ts : List (List UInt8)} {l : List Vw} (h : Reads ts l) : ∀ (l' : List Vw) (k : Nat), (∀ x ∈ l', nameL x.s = true) → Lo64 l' → ts = (l'.map lineOf).take k → k ≤ l'.length → l = l'.take k := by
  induction h with
  | nil =>
    intro l' k _ _ e hk
    have : k = 0 := by
      have := congrArg List.length e
      simp at this
      omega
    subst this; rfl
  | @snoc ts l t a h ha e ih =>
    intro l' k hn hl he hk
    have hlen := congrArg List.length he
    rw [List.length_append, List.length_take, List.length_map] at hlen
    simp only [List.length_singleton] at hlen
    obtain ⟨m, rfl⟩ : ∃ m, k = m + 1 := ⟨k - 1, by omega⟩
    have hm : m < l'.length := by omega
    rw [List.take_succ_eq_append_getElem (by rw [List.length_map]; exact hm)] at he
    obtain ⟨h1, h2⟩ := List.append_inj' he rfl
    rw [List.take_succ_eq_append_getElem hm, ← ih l' m hn hl h1 (by omega)]
    congr 1
    injection h2 with h2 _
    rw [List.getElem_map] at h2
    have hx := List.getElem_mem hm
    obtain ⟨n1, n2⟩ := name_line (hn _ hx)
    rw [h2, n2] at e
    have := text_inj a l'[m].c ha (hl _ hx) e
    rw [h2, n1, this]
theorem cut_print {l : List Vw} (hn : ∀ x ∈ l, nameL x.s = true) : cutL (printL l) = l.map lineOf ∧ cutE (printL l) = 0 := by
  cases l with
  | nil => exact ⟨rfl, rfl⟩
  | cons x r =>
    have hne : (x :: r).map lineOf ≠ [] := by simp
    have hlast := join_last _ hne
    have hnn : (printL (x :: r)).isEmpty = false := by
      unfold printL
      cases e : joinL ((x :: r).map lineOf) with
      | nil => rw [e] at hlast; cases hlast
      | cons a t => rfl
    have hcj := cut_join ((x :: r).map lineOf) (fun l hl => by
      obtain ⟨y, hy, rfl⟩ := List.mem_map.1 hl
      exact line_no (hn y hy)) hne
    unfold cutL cutE cutOk
    rw [hnn, show ((printL (x :: r)).getLast? == some 10) = true by unfold printL; rw [hlast]; rfl]
    exact ⟨hcj, rfl⟩
/-- A text that no policy has. -/
theorem none_of_cut {s : List UInt8} (h : cutE s ≠ 0) : ¬ ∃ l, Spells s l := by
  rintro ⟨l, ho, hr, hl, rfl⟩
  exact h (cut_print ho.2.2).2
theorem none_of_piece {s : List UInt8} {k : Nat} (hk : k < (cutL s).length) (h : ∀ b, b < 18446744073709551616 → textN b ≠ wordAt (cutL s)[k]) : ¬ ∃ l, Spells s l := by
  rintro ⟨l, ho, hr, hl, rfl⟩
  have e := (cut_print ho.2.2).1
  rw [List.getElem_of_eq e hk, List.getElem_map] at h
  rw [e, List.length_map] at hk
  have hx := List.getElem_mem hk
  exact h l[k].c (hl _ hx) (name_line (ho.2.2 _ hx)).2.symm
/-- All lines are read: it is these viewers' text or nobody's. -/
theorem one_of_reads {s : List UInt8} {l l' : List Vw} (h : Reads (cutL s) l) (hs : Spells s l') : l' = l := by
  obtain ⟨ho, hr, hl, rfl⟩ := hs
  have e := (cut_print ho.2.2).1
  have := reads_lines h l' l'.length ho.2.2 hl (by rw [e, ← List.length_map (f := lineOf), List.take_length]) (Nat.le_refl _)
  rw [this, List.take_length]
theorem spells_of {s : List UInt8} {l : List Vw} (h : Reads (cutL s) l) : (okL l ∧ printL (sortV l) = s → Spells s (sortV l)) ∧ (¬ okL l → ¬ ∃ l', Spells s l') ∧ (printL (sortV l) ≠ s → ¬ ∃ l', Spells s l') := by
  refine ⟨fun ⟨ho, hp⟩ => ⟨okL_perm (sortV_perm l).symm ho, sortV_rising ho.2.1, fun x hx => h.lo x ((sortV_perm l).mem_iff.1 hx), hp⟩, ?_, ?_⟩
  · rintro hno ⟨l', hs⟩
    have := one_of_reads h hs
    subst this
    exact hno hs.1
  · rintro hp ⟨l', hs⟩
    have := one_of_reads h hs
    subst this
    rw [sortV_self hs.2.1] at hp
    exact hp hs.2.2.2
theorem count_join : ∀ ls : List (List UInt8), (∀ l ∈ ls, l.contains 10 = false) → (joinL ls).count 10 = ls.length
  | [], _ => rfl
  | x :: ls, h => by
    have ih := count_join ls (fun l hl => h l (List.mem_cons_of_mem _ hl))
    have hx := h x (List.mem_cons_self ..)
    have h0 : x.count 10 = 0 := List.count_eq_zero.2 (fun hm => by rw [List.contains_iff_mem.2 hm] at hx; cases hx)
    rw [join_cons, List.count_append, List.count_cons, ih, h0]
    simp
theorem none_of_many {s : List UInt8} (h : 64 < s.count 10) : ¬ ∃ l, Spells s l := by
  rintro ⟨l, ho, hr, hl, rfl⟩
  unfold printL at h
  rw [count_join] at h
  · rw [List.length_map] at h
    have := ho.1
    omega
  · intro y hy
    obtain ⟨x, hx, rfl⟩ := List.mem_map.1 hy
    exact line_no (ho.2.2 x hx)
/-- One text, one policy. -/
theorem spells_one {s : List UInt8} {l l' : List Vw} (h : Spells s l) (h' : Spells s l') : l = l' := by
  have hlen : l.length = l'.length := by
    have e1 := (cut_print h.1.2.2).1
    have e2 := (cut_print h'.1.2.2).1
    rw [h.2.2.2] at e1
    rw [h'.2.2.2] at e2
    have := congrArg List.length (e1.symm.trans e2)
    simpa using this
  have e1 := (cut_print h.1.2.2).1
  have e2 := (cut_print h'.1.2.2).1
  rw [h.2.2.2] at e1
  rw [h'.2.2.2] at e2
  have e := e1.symm.trans e2
  apply List.ext_getElem hlen
  intro i hi hi'
  have hh : (l.map lineOf)[i]'(by simpa using hi) = (l'.map lineOf)[i]'(by simpa using hi') := List.getElem_of_eq e _
  rw [List.getElem_map, List.getElem_map] at hh
  obtain ⟨a1, a2⟩ := name_line (h.1.2.2 _ (List.getElem_mem hi))
  obtain ⟨b1, b2⟩ := name_line (h'.1.2.2 _ (List.getElem_mem hi'))
  have c1 : l[i].s = l'[i].s := by rw [← a1, ← b1, hh]
  have c2 : l[i].c = l'[i].c := text_inj _ _ (h.2.2.1 _ (List.getElem_mem hi)) (h'.2.2.1 _ (List.getElem_mem hi')) (by rw [← a2, ← b2, hh])
  cases hx : l[i]; cases hy : l'[i]
  rw [hx, hy] at c1 c2
  simp_all
end Go.Proofs.YtfibbjnkicjbpaaGreatDoor
/- A line parted at its first blank; how many lines a text has: plainly. -/
namespace Go.Proofs.YtfibbjnkicjbpaaGreatDoor
open Go

theorem cut_blank : ∀ l : List UInt8, (Lib.cut l [32]).1 = nameOf l ∧ (Lib.cut l [32]).2.1 = wordAt l
  | [] => by decide
  | b :: l => by
    obtain ⟨h1, h2⟩ := cut_blank l
    by_cases hb : b = 32
    · subst hb
      have e : Lib.index (32 :: l) [32] = 0 := by simp [Lib.index]
      unfold Lib.cut nameOf wordAt
      rw [e]; simp
    · have hp : List.isPrefixOf [32] (b :: l) = false := by simp [List.isPrefixOf, Ne.symm hb]
      have hn : nameOf (b :: l) = b :: nameOf l := by unfold nameOf; rw [List.takeWhile_cons_of_pos (by simpa using hb)]
      have hw : wordAt (b :: l) = wordAt l := by unfold wordAt; rw [List.dropWhile_cons_of_pos (by simpa using hb)]
      rw [hn, hw, ← h1, ← h2]
      have hge := Lib.index_ge l [32]
      by_cases hi : Lib.index l [32] = -1
      · have e : Lib.index (b :: l) [32] = -1 := by rw [Lib.index, hp, hi]; rfl
        unfold Lib.cut
        rw [e, hi]; simp
      · obtain ⟨i, hi'⟩ : ∃ i : Nat, Lib.index l [32] = i := ⟨(Lib.index l [32]).toNat, by omega⟩
        have e : Lib.index (b :: l) [32] = ((i + 1 : Nat) : Int) := by
          rw [Lib.index, hp, hi']
          have : ((i : Int) == -1) = false := beq_false_of_ne (by omega)
          rw [this]; simp
        unfold Lib.cut
        rw [e, hi', if_pos (by omega), if_pos (by omega)]
        simp
theorem nameOf_le (l : List UInt8) : (nameOf l).length ≤ l.length := (List.takeWhile_sublist _).length_le
theorem wordAt_le (l : List UInt8) : (wordAt l).length ≤ l.length := by
  unfold wordAt
  have := (List.dropWhile_sublist (p := (· != 32)) (l := l)).length_le
  rw [List.length_drop]; omega
theorem sum_len : ∀ ls : List (List UInt8), ls.length ≤ (ls.map (fun l => l.length + 1)).sum ∧ ∀ l ∈ ls, l.length ≤ (ls.map (fun l => l.length + 1)).sum
  | [] => by simp
  | x :: xs => by
    obtain ⟨h1, h2⟩ := sum_len xs
    simp only [List.map_cons, List.sum_cons, List.length_cons]
    refine ⟨by omega, fun l hl => ?_⟩
    rcases List.mem_cons.1 hl with rfl | hl
    · omega
    · have := h2 l hl; omega
theorem cut_len (l : List UInt8) : (cutL l).length ≤ l.length ∧ ∀ t ∈ cutL l, t.length ≤ l.length := by
  unfold cutL
  split
  · simp
  · split
    · rename_i _ h
      have e := join_cut l h
      have hj := join_len (piecesL l.dropLast)
      rw [e] at hj
      have := sum_len (piecesL l.dropLast)
      rw [← hj] at this
      exact this
    · simp
end Go.Proofs.YtfibbjnkicjbpaaGreatDoor
/- A string's element facts. -/
namespace Go.Proofs.YtfibbjnkicjbpaaGreatDoor
open Go Go.RowKit
end Go.Proofs.YtfibbjnkicjbpaaGreatDoor
/- The library's contracts that the walks call, laid at this program by the shelf's own tool (plain mode), without its remarks. -/
namespace Go.Proofs
open Go.Shelf
def Tryz.lays190_ren : Go.Shelf.Ren := ⟨fun | 190 => 67 | 125 => 47 | 258 => 98 | 128 => 78 | 129 => 79 | 302 => 116 | 303 => 117 | 304 => 118 | 305 => 119 | 306 => 120 | 307 => 121 | 308 => 122 | 309 => 123 | 310 => 124 | 333 => 143 | 329 => 100 | 330 => 101 | 334 => 144 | 335 => 145 | 336 => 146 | 344 => 157 | n => n, fun | 31 => 33 | 9 => 9 | 3 => 3 | 46 => 81 | 0 => 0 | 51 => 112 | 53 => 24 | 4 => 4 | 183 => 105 | 182 => 104 | 131 => 109 | 5 => 5 | 218 => 127 | 222 => 131 | 228 => 148 | 229 => 149 | n => n, fun | n => n⟩
theorem Tryz.lays190 : Go.Proofs.Lays.n190 Tryz.prog Tryz.lays190_ren := {
  mixed := by kernel_rfl
  f125 := Tryz.func47.trans (congrArg some (by kernel_rfl))
  f128 := Tryz.func78.trans (congrArg some (by kernel_rfl))
  f129 := Tryz.func79.trans (congrArg some (by kernel_rfl))
  f190 := Tryz.func67.trans (congrArg some (by kernel_rfl))
  f258 := Tryz.func98.trans (congrArg some (by kernel_rfl))
  f302 := Tryz.func116.trans (congrArg some (by kernel_rfl))
  f303 := Tryz.func117.trans (congrArg some (by kernel_rfl))
  f304 := Tryz.func118.trans (congrArg some (by kernel_rfl))
  f305 := Tryz.func119.trans (congrArg some (by kernel_rfl))
  f306 := Tryz.func120.trans (congrArg some (by kernel_rfl))
  f307 := Tryz.func121.trans (congrArg some (by kernel_rfl))
  f308 := Tryz.func122.trans (congrArg some (by kernel_rfl))
  f309 := Tryz.func123.trans (congrArg some (by kernel_rfl))
  f310 := Tryz.func124.trans (congrArg some (by kernel_rfl))
  f329 := Tryz.func100.trans (congrArg some (by kernel_rfl))
  f330 := Tryz.func101.trans (congrArg some (by kernel_rfl))
  f333 := Tryz.func143.trans (congrArg some (by kernel_rfl))
  f334 := Tryz.func144.trans (congrArg some (by kernel_rfl))
  f335 := Tryz.func145.trans (congrArg some (by kernel_rfl))
  f336 := Tryz.func146.trans (congrArg some (by kernel_rfl))
  f344 := Tryz.func157.trans (congrArg some (by kernel_rfl))
  t0 := Tryz.underlying0
  a0 := Tryz.isAgg0
  z0 := Tryz.sizeOf0
  v0 := Tryz.zeroValue0
  t3 := Tryz.underlying3
  a3 := Tryz.isAgg3
  z3 := Tryz.sizeOf3
  v3 := Tryz.zeroValue3
  t4 := Tryz.underlying4
  a4 := Tryz.isAgg4
  z4 := Tryz.sizeOf4
  v4 := Tryz.zeroValue4
  t5 := Tryz.underlying5
  a5 := Tryz.isAgg5
  z5 := Tryz.sizeOf5
  v5 := Tryz.zeroValue5
  t9 := Tryz.underlying9
  a9 := Tryz.isAgg9
  z9 := Tryz.sizeOf9
  v9 := Tryz.zeroValue9
  t31 := Tryz.underlying33
  a31 := Tryz.isAgg33
  z31 := Tryz.sizeOf33
  v31 := Tryz.zeroValue33
  t46 := Tryz.underlying81
  a46 := Tryz.isAgg81
  z46 := Tryz.sizeOf81
  v46 := Tryz.zeroValue81
  t51 := Tryz.underlying112
  a51 := Tryz.isAgg112
  z51 := Tryz.sizeOf112
  v51 := Tryz.zeroValue112
  t53 := Tryz.underlying24
  a53 := Tryz.isAgg24
  z53 := Tryz.sizeOf24
  v53 := Tryz.zeroValue24
  t131 := Tryz.underlying109
  a131 := Tryz.isAgg109
  z131 := Tryz.sizeOf109
  v131 := Tryz.zeroValue109
  t182 := Tryz.underlying104
  a182 := Tryz.isAgg104
  z182 := Tryz.sizeOf104
  v182 := Tryz.zeroValue104
  t183 := Tryz.underlying105
  a183 := Tryz.isAgg105
  z183 := Tryz.sizeOf105
  v183 := Tryz.zeroValue105
  t218 := Tryz.underlying127
  a218 := Tryz.isAgg127
  z218 := Tryz.sizeOf127
  v218 := Tryz.zeroValue127
  t222 := Tryz.underlying131
  a222 := Tryz.isAgg131
  z222 := Tryz.sizeOf131
  v222 := Tryz.zeroValue131
  t228 := Tryz.underlying148
  a228 := Tryz.isAgg148
  z228 := Tryz.sizeOf148
  v228 := Tryz.zeroValue148
  t229 := Tryz.underlying149
  a229 := Tryz.isAgg149
  z229 := Tryz.sizeOf149
  v229 := Tryz.zeroValue149 }
open Go.Sort Go.RowKit in
theorem Tryz.slices_Sort_string (blk off cap : Nat) (ss : List (List UInt8)) (w : World) (hH : Holds encStr w blk off ss.toArray) (hblk : blk < w.heap.size) (hsz : ss.length < 4611686018427387904) :
    Calls Tryz.prog 67 #[.slice (some ⟨blk, off, none⟩) ss.length cap] w fun e w' =>
      e = .returned (.tuple #[]) ∧ ∃ n os, w' = grow (putRow encStr (Sort.ahead w n) blk off (ss.mergeSort fun x y => decide (x ≤ y)).toArray) os := Any.slices_Sort_string Tryz.lays190 blk off cap ss w hH hblk hsz
open Go.RowKit Go.Sort in
theorem Tryz.slices_Sort_string_none (p : Option Addr) (cap : Nat) (w : World) :
    Calls Tryz.prog 67 #[.slice p 0 cap] w fun e w' => e = .returned (.tuple #[]) ∧ w' = w := Any.slices_Sort_string_none Tryz.lays190 p cap w
end Go.Proofs
