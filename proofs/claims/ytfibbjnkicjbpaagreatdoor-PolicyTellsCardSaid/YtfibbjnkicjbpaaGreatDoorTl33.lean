/- Texts of the proof, merged: Pieces, Cut, Text, Works. -/
import Derived.Test.YtfibbjnkicjbpaaGreatDoorTl1
import Derived.Test.YtfibbjnkicjbpaaGreatDoorTl3
import Derived.Test.YtfibbjnkicjbpaaGreatDoorTl6
import Derived.Test.YtfibbjnkicjbpaaGreatDoorTl31
import Derived.Test.YtfibbjnkicjbpaaGreatDoorTl32
import Derived.Lib.Split
import Derived.Lib.IndexBytes
/- Plain facts about texts cut at 0A: no program. -/
namespace Go.Proofs.YtfibbjnkicjbpaaGreatDoor
open Go

/-- What stands between the bytes 0A. -/
def piecesL : List UInt8 → List (List UInt8)
  | [] => [[]]
  | c :: t => if c = 10 then [] :: piecesL t else match piecesL t with
    | [] => [[c]]
    | x :: xs => (c :: x) :: xs
theorem pieces_no : ∀ (l : List UInt8), (∀ c ∈ l, c ≠ 10) → piecesL l = [l]
  | [], _ => rfl
  | c :: t, h => by
    have h1 := pieces_no t (fun x hx => h x (List.mem_cons_of_mem _ hx))
    unfold piecesL
    rw [if_neg (h c (List.mem_cons_self ..)), h1]
theorem pieces_app : ∀ (a r : List UInt8), (∀ c ∈ a, c ≠ 10) → piecesL (a ++ 10 :: r) = a :: piecesL r
  | [], r, _ => by rw [List.nil_append, piecesL, if_pos rfl]
  | c :: t, r, h => by
    have h1 := pieces_app t r (fun x hx => h x (List.mem_cons_of_mem _ hx))
    rw [List.cons_append, piecesL, if_neg (h c (List.mem_cons_self ..)), h1]
theorem pieces_ne (l : List UInt8) : piecesL l ≠ [] := by
  cases l with
  | nil => simp [piecesL]
  | cons c t =>
    unfold piecesL
    split
    · simp
    · split <;> simp

/-- The texts that stand ahead of each 0A. -/
def cutOk (l : List UInt8) : Bool := l.isEmpty || l.getLast? == some 10
def cutL (l : List UInt8) : List (List UInt8) := if l.isEmpty then [] else if l.getLast? == some 10 then piecesL l.dropLast else []
def cutE (l : List UInt8) : Int := if cutOk l then 0 else 4

def nl : ByteArray := ⟨#[10]⟩
theorem nl_list : nl.data.toList = [10] := rfl
theorem occ_one (l : List UInt8) (j : Nat) : Lib.occAt l [10] j = true ↔ ∃ h : j < l.length, l[j] = 10 := by
  unfold Lib.occAt
  by_cases h : j < l.length
  · rw [List.drop_eq_getElem_cons h]
    simp only [List.isPrefixOf, Bool.and_true, beq_iff_eq]
    exact ⟨fun e => ⟨h, e.symm⟩, fun ⟨_, e⟩ => e.symm⟩
  · rw [List.drop_eq_nil_of_le (by omega)]
    simp only [List.isPrefixOf]
    exact ⟨fun e => (by cases e), fun ⟨h', _⟩ => absurd h' h⟩
theorem split_pieces : ∀ (n : Nat) (s : ByteArray), s.size ≤ n →
    (Lib.splitB nl 0 (Lib.countB s nl) s).map (·.data.toList) = piecesL s.data.toList ∧ (Lib.splitB nl 0 (Lib.countB s nl) s).length = Lib.countB s nl + 1
  | 0, s, h => by
    have hl : s.data.toList = [] := List.eq_nil_of_length_eq_zero (by rw [len_size]; omega)
    have hi : Lib.indexB s nl = -1 := by
      show Lib.index s.data.toList nl.data.toList = -1
      rw [hl]; rfl
    rw [Lib.splitB_miss nl 0 _ s hi, Lib.countB_miss s nl hi]
    exact ⟨by simp [hl, piecesL], rfl⟩
  | n + 1, s, h => by
    rcases Lib.index_spec s.data.toList nl.data.toList with ⟨hi, hno⟩ | ⟨i, hi, hle, hocc, hno⟩
    · rw [Lib.splitB_miss nl 0 _ s hi, Lib.countB_miss s nl hi]
      refine ⟨?_, rfl⟩
      rw [List.map_singleton, pieces_no]
      intro c hc e
      obtain ⟨j, hj, hjc⟩ := List.getElem_of_mem hc
      have h1 := hno j (by omega)
      have h2 : Lib.occAt s.data.toList nl.data.toList j = true := (occ_one _ j).2 ⟨hj, hjc.trans e⟩
      rw [h1] at h2; cases h2
    · rw [nl_list] at hocc
      obtain ⟨hlt, h10⟩ := (occ_one _ i).1 hocc
      rw [len_size] at hlt
      have hsz : nl.size = 1 := rfl
      have hc := Lib.countB_hit s nl i (by rw [hsz]; omega) hi
      rw [hc, Nat.add_comm 1, Lib.splitB_hit nl 0 _ s i hi, hsz]
      have hx : (s.extract (i + 1) s.size).size ≤ n := by
        rw [← len_size, Lib.extract_to_end, List.length_drop, len_size]; omega
      obtain ⟨h1, h2⟩ := split_pieces n (s.extract (i + 1) s.size) hx
      refine ⟨?_, by rw [List.length_cons, h2]⟩
      rw [List.map_cons, h1, Lib.extract_to_end, Nat.add_zero, Lib.extract_from_zero]
      have e : s.data.toList = s.data.toList.take i ++ 10 :: s.data.toList.drop (i + 1) := by
        conv => lhs; rw [← List.take_append_drop i s.data.toList]
        rw [drop_cons s i hlt]
        congr 2
      conv => rhs; rw [e]
      rw [pieces_app]
      intro c hc' e'
      obtain ⟨j, hj, hjc⟩ := List.getElem_of_mem hc'
      rw [List.length_take] at hj
      rw [List.getElem_take] at hjc
      have h3 := hno j (by omega)
      have h4 : Lib.occAt s.data.toList nl.data.toList j = true := (occ_one _ j).2 ⟨by rw [len_size]; omega, hjc.trans e'⟩
      rw [h3] at h4; cases h4
/-- The pieces as texts. -/
def asTexts (ls : List (List UInt8)) : List ByteArray := ls.map fun l => ⟨l.toArray⟩
theorem split_texts (s : ByteArray) : Lib.splitB nl 0 (Lib.countB s nl) s = asTexts (piecesL s.data.toList) ∧ Lib.countB s nl + 1 = (piecesL s.data.toList).length := by
  obtain ⟨h1, h2⟩ := split_pieces s.size s (Nat.le_refl _)
  constructor
  · unfold asTexts
    rw [← h1, List.map_map]
    conv => lhs; rw [← List.map_id (Lib.splitB nl 0 (Lib.countB s nl) s)]
    rfl
  · rw [← h2, ← h1, List.length_map]
theorem suffix_last (l : List UInt8) : Lib.hasSuffix l [10] = (l.getLast? == some 10) := by
  unfold Lib.hasSuffix
  rw [Bool.eq_iff_iff, List.isSuffixOf_iff_suffix, beq_iff_eq]
  constructor
  · rintro ⟨t, rfl⟩; simp
  · intro h
    obtain ⟨t, ht⟩ := List.getLast?_eq_some_iff.1 h
    exact ⟨t, ht.symm⟩
theorem trim_last (l : List UInt8) (h : (l.getLast? == some 10) = true) : Lib.trimSuffix l [10] = l.dropLast := by
  unfold Lib.trimSuffix
  rw [suffix_last, h, if_pos rfl, List.dropLast_eq_take]; rfl
end Go.Proofs.YtfibbjnkicjbpaaGreatDoor
/- lines.Cut, by its contracts: no bytes; a text that does not end with 0A; one that does. -/
namespace Go.Proofs.YtfibbjnkicjbpaaGreatDoor
open Go.RowKit

/-- The library's variable holds some number. -/
def MaxS (w : World) : Prop := ∃ m : Int, w.cell? ⟨1, 0, none⟩ = some (.int .i64 m)
theorem MaxS.below {w w' : World} (h : MaxS w) (hb : Below w.heap.size w w') : MaxS w' := by
  obtain ⟨m, hm⟩ := h
  have hlt := World.block_lt_of_cell? w _ hm
  exact ⟨m, (hb.cell (p := ⟨1, 0, none⟩) hlt).trans hm⟩
theorem MaxS.of_shaped {w : World} (h : w.ShapedOpen Tryz.prog) : MaxS w := Tryz.laysM146.s1_3 w h

set_option maxHeartbeats 400000 in
theorem cut_empty (s : ByteArray) (w : World) (h0 : ¬ 1 ≤ s.size) :
    Calls Tryz.prog 61 #[.string s] w fun e w' => e = .returned (.tuple #[.slice none 0 0, .int .i64 0]) ∧ w = w' := by
  obtain ⟨hne, hne2⟩ := bytes_none s h0
  clear h0
  go_enter Tryz.func61, Tryz.ntmps61
  go_wp2
  go_ret2
  exact ⟨rfl, rfl⟩

set_option maxHeartbeats 400000 in
theorem cut_bad (s : ByteArray) (w : World) (hs : s.size ≤ maxLen) (h0 : 1 ≤ s.size) (hl : (s.data.toList.getLast? == some 10) = false) :
    Calls Tryz.prog 61 #[.string s] w fun e w' => e = .returned (.tuple #[.slice none 0 0, .int .i64 4]) ∧ w = w' := by
  obtain ⟨hne, hne2⟩ := bytes_some s h0
  have hC := flipW (Tryz.strings_CutSuffix s ⟨#[10]⟩ w hs)
  rw [show (⟨#[10]⟩ : ByteArray).data.toList = [10] from rfl, suffix_last, hl] at hC
  generalize (⟨(Lib.trimSuffix s.data.toList [10]).toArray⟩ : ByteArray) = B at *
  clear h0 hl hs
  go_enter Tryz.func61, Tryz.ntmps61
  go_wp2_with (go_at_call 90; refine hC.mono ?_; rintro e w' ⟨rfl, rfl⟩)
  go_ret2
  exact ⟨rfl, rfl⟩

/-- The block that the pieces lie in. -/
def rowOf (ls : List (List UInt8)) : Obj := .cells ((asTexts ls).map Value.string).toArray 9

set_option maxHeartbeats 1000000 in
theorem cut_good (s : ByteArray) (w : World) (hs : s.size < 4294967281) (hm : MaxS w) (h0 : 1 ≤ s.size) (hl : (s.data.toList.getLast? == some 10) = true) :
    Calls Tryz.prog 61 #[.string s] w fun e w' => e = .returned (.tuple #[.slice (some ⟨w.heap.size, 0, none⟩) (piecesL s.data.toList.dropLast).length (piecesL s.data.toList.dropLast).length, .int .i64 0]) ∧ w' = w.alloc (rowOf (piecesL s.data.toList.dropLast)) := by
  obtain ⟨hne, hne2⟩ := bytes_some s h0
  have hC := flipW (Tryz.strings_CutSuffix s ⟨#[10]⟩ w (by omega))
  rw [show (⟨#[10]⟩ : ByteArray).data.toList = [10] from rfl, suffix_last, hl, trim_last _ hl] at hC
  obtain ⟨B, hB⟩ : ∃ B : ByteArray, (⟨s.data.toList.dropLast.toArray⟩ : ByteArray) = B := ⟨_, rfl⟩
  have hBl : B.data.toList = s.data.toList.dropLast := by rw [← hB]
  have hBs : B.size < 4294967281 := by
    rw [← len_size B, hBl, List.length_dropLast, len_size]; omega
  obtain ⟨m, hm⟩ := hm
  have hS := Tryz.strings_Split B nl m w hBs hm (by decide)
  obtain ⟨e1, e2⟩ := split_texts B
  rw [e1, e2, hBl] at hS
  rw [hB] at hC
  change Calls Tryz.prog 91 #[.string B, .string ⟨#[10]⟩] w fun e w' => _ ∧ w' = w.alloc (rowOf (piecesL s.data.toList.dropLast)) at hS
  generalize (piecesL s.data.toList.dropLast).length = n at *
  generalize rowOf (piecesL s.data.toList.dropLast) = o at *
  clear e1 e2 hB hBl hBs hs h0 hl hm
  go_enter Tryz.func61, Tryz.ntmps61
  go_wp2_with (first
    | (go_at_call 90; refine hC.mono ?_; rintro e w' ⟨rfl, rfl⟩)
    | (go_at_call 91; refine hS.mono ?_; rintro e w' ⟨rfl, rfl⟩))
  go_ret2
  exact ⟨rfl, rfl⟩
end Go.Proofs.YtfibbjnkicjbpaaGreatDoor
/- lines.Text, by its contract. -/
namespace Go.Proofs.YtfibbjnkicjbpaaGreatDoor
open Go.RowKit

end Go.Proofs.YtfibbjnkicjbpaaGreatDoor
/- 'works', what each outright statement asks first: it returns true. -/
namespace Go.Proofs.YtfibbjnkicjbpaaGreatDoor
open Go.RowKit

/-- W has grown out of w, and the library's variables hold what they held. -/
def Wd (w W : World) : Prop := Tabs W ∧ MaxS W ∧ Below w.heap.size w W
theorem Wd.drew {w W : World} (h : Wd w W) : Wd w W.drew := ⟨h.1, h.2.1, h.2.2.drew⟩
theorem Wd.next {w W W' : World} (hb : Below W.heap.size W W') (h : Wd w W) : Wd w W' := ⟨h.1.below hb, h.2.1.below hb, h.2.2.trans (hb.mono h.2.2.size)⟩
/-- A contract at every world that has grown out of w. -/
def Tells (w : World) (f : Nat) (args : Array Value) (v : Value) : Prop := ∀ W, Wd w W → Calls Tryz.prog f args W fun e w' => e = .returned v ∧ Wd w w'
theorem tells_of {w : World} {f : Nat} {args : Array Value} {v : Value} (h : ∀ W, Wd w W → Calls Tryz.prog f args W fun e w' => e = .returned v ∧ Below W.heap.size W w') : Tells w f args v :=
  fun W hW => (h W hW).mono fun _ _ ⟨h1, h2⟩ => ⟨h1, Wd.next h2 hW⟩
theorem tells_same {w : World} {f : Nat} {args : Array Value} {v : Value} (h : ∀ W, Calls Tryz.prog f args W fun e w' => e = .returned v ∧ W = w') : Tells w f args v :=
  fun W hW => (h W).mono fun _ _ ⟨h1, h2⟩ => ⟨h1, h2 ▸ hW⟩

theorem tell_name (w : World) (l : List UInt8) (b : Bool) (hl : l.length ≤ 1000) (hb : nameL l = b) : Tells w 31 #[.string ⟨l.toArray⟩] (.bool b) :=
  tells_of fun W _ => by
    have := name_any ⟨l.toArray⟩ W (by rw [← len_size]; unfold maxLen; show l.length ≤ _; omega)
    rw [show (⟨l.toArray⟩ : ByteArray).data.toList = l from rfl, hb] at this
    exact this
theorem itoa_small (u : Nat) (h : u < 10) : Lib.itoa (u : Int) = [UInt8.ofNat (48 + u)] := by rw [Lib.itoa_nonneg, dec_small h]

theorem works_cut (w W : World) (hW : Wd w W) : Calls Tryz.prog 61 #[.string ⟨#[97, 10, 10]⟩] W fun e w' => ∃ b, e = .returned (.tuple #[.slice (some ⟨b, 0, none⟩) 2 2, .int .i64 0]) ∧
    w'.cell? ⟨b, 0, none⟩ = some (.string ⟨#[97]⟩) ∧ w'.cell? ⟨b, 1, none⟩ = some (.string ⟨#[]⟩) ∧ Wd w w' := by
  refine (cut_good ⟨#[97, 10, 10]⟩ W (by decide) hW.2.1 (by decide) (by decide)).mono fun e w' ⟨he, hw⟩ => ⟨W.heap.size, he, ?_, ?_, ?_⟩
  · rw [hw]; show (W.alloc (.cells #[.string ⟨#[97]⟩, .string ⟨#[]⟩] _)).cell? _ = _; simp
  · rw [hw]; show (W.alloc (.cells #[.string ⟨#[97]⟩, .string ⟨#[]⟩] _)).cell? _ = _; simp
  · rw [hw]; exact Wd.next ((Below.refl _ _).alloc (Nat.le_refl _) _) hW

end Go.Proofs.YtfibbjnkicjbpaaGreatDoor
