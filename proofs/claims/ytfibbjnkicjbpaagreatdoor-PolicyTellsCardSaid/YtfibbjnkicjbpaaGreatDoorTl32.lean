/- Texts of the proof, merged: Concat, StrRow, Read. -/
import Derived.Test.YtfibbjnkicjbpaaGreatDoorTl3
import Derived.Test.YtfibbjnkicjbpaaGreatDoorTl31
import Derived.SliceStrings
import Derived.ProofKit
/- Plain facts about counted texts, one behind the other: no program. -/
namespace Go.Proofs.YtfibbjnkicjbpaaGreatDoor
open Go

theorem dig_head (u : Nat) : ∃ c t, Lib.decDigits u = c :: t ∧ isDig c = true := by
  have h := dec_digs u
  cases hd : Lib.decDigits u with
  | nil => exact absurd hd (dec_ne u)
  | cons c t =>
    rw [hd] at h
    simp only [List.all_cons, Bool.and_eq_true] at h
    exact ⟨c, t, rfl, h.1⟩
/-- A counted text, with whatever behind it, is read as that text and what is behind it. -/
theorem shown_show (s t : List UInt8) (hs : s.length ≤ 9223372036854775807) :
    shownOk (showL s ++ t) = true ∧ shownT (showL s ++ t) = s ∧ shownR (showL s ++ t) = t ∧ shownE (showL s ++ t) = 0 := by
  have hl : showL s ++ t = Lib.decDigits s.length ++ 58 :: (s ++ t) := by
    unfold showL; rw [Lib.itoa_nonneg]; simp
  have hneg : negB (showL s ++ t) = false := by
    obtain ⟨c, r, hd, hc⟩ := dig_head s.length
    rw [hl, hd]
    unfold negB
    rw [List.cons_append, List.head?_cons]
    simpa using dig_not_sign c hc
  have hbody : bodyL (showL s ++ t) = Lib.decDigits s.length ++ 58 :: (s ++ t) := by unfold bodyL; rw [hneg, hl]; rfl
  have hall : ∀ c ∈ Lib.decDigits s.length, isDig c = true := List.all_eq_true.1 (dec_digs _)
  have h58 : isDig 58 = false := by decide
  have hdigs : digsL (showL s ++ t) = Lib.decDigits s.length := by
    unfold digsL; rw [hbody, List.takeWhile_append_of_pos hall, List.takeWhile_cons, h58]; simp
  have hrest : restL (showL s ++ t) = 58 :: (s ++ t) := by
    unfold restL; rw [hbody, List.dropWhile_append_of_pos hall, List.dropWhile_cons, h58]; simp
  have hval : valL (showL s ++ t) = s.length := by unfold valL; rw [hneg, hdigs, dv_dec]; rfl
  have hok : takeOk (showL s ++ t) = true := by
    refine (ok_of_form _ (s.length : Int) (by omega) (by omega) ?_).1
    unfold formL; rw [hneg, hdigs, Lib.itoa_nonneg]; rfl
  have hshown : shownOk (showL s ++ t) = true := by
    unfold shownOk
    rw [hok, hrest, hval]
    simp only [List.head?_cons, List.tail_cons, List.length_append]
    rw [decide_eq_true (by omega : (0 : Int) ≤ (s.length : Int)), decide_eq_true (by omega : (s.length : Int) ≤ ((s.length + t.length : Nat) : Int))]
    rfl
  refine ⟨hshown, ?_, ?_, ?_⟩
  · unfold shownT; rw [hshown, hrest, hval, Int.toNat_natCast]; simp
  · unfold shownR; rw [hshown, hrest, hval, Int.toNat_natCast]; simp
  · unfold shownE; rw [hshown]; rfl

/-- Counted texts, one behind the other. -/
def concatL (ls : List (List UInt8)) : List UInt8 := (ls.map showL).flatten
theorem concat_nil : concatL [] = [] := rfl
theorem concat_cons (l : List UInt8) (ls : List (List UInt8)) : concatL (l :: ls) = showL l ++ concatL ls := by simp [concatL]
theorem concat_snoc (ls : List (List UInt8)) (l : List UInt8) : concatL (ls ++ [l]) = concatL ls ++ showL l := by simp [concatL]
theorem show_ne (l : List UInt8) (t : List UInt8) : showL l ++ t ≠ [] := by
  unfold showL; simp
/-- From unlike lists of texts come unlike ones. -/
theorem concat_inj : ∀ (a b : List (List UInt8)), (∀ l ∈ a, l.length ≤ 9223372036854775807) → (∀ l ∈ b, l.length ≤ 9223372036854775807) → concatL a = concatL b → a = b
  | [], [], _, _, _ => rfl
  | [], y :: b, _, _, h => by rw [concat_cons] at h; exact absurd h.symm (show_ne y _)
  | x :: a, [], _, _, h => by rw [concat_cons] at h; exact absurd h (show_ne x _)
  | x :: a, y :: b, ha, hb, h => by
    rw [concat_cons, concat_cons] at h
    have hx := shown_show x (concatL a) (ha x (List.mem_cons_self ..))
    have hy := shown_show y (concatL b) (hb y (List.mem_cons_self ..))
    rw [h] at hx
    have e1 : x = y := hx.2.1.symm.trans hy.2.1
    have e2 : concatL a = concatL b := hx.2.2.1.symm.trans hy.2.2.1
    rw [e1, concat_inj a b (fun l hl => ha l (List.mem_cons_of_mem _ hl)) (fun l hl => hb l (List.mem_cons_of_mem _ hl)) e2]
/-- How long they get. -/
theorem show_len (l : List UInt8) : (showL l).length ≤ 2 * l.length + 2 := by
  unfold showL
  rw [Lib.itoa_nonneg, List.length_append, List.length_cons]
  have := dec_len l.length
  omega
theorem concat_len : ∀ (ls : List (List UInt8)), (concatL ls).length ≤ 2 * (ls.map (fun l => l.length + 1)).sum
  | [] => by simp [concatL]
  | l :: ls => by
    rw [concat_cons, List.length_append, List.map_cons, List.sum_cons]
    have h1 := show_len l
    have h2 := concat_len ls
    omega
theorem sum_take (ls : List (List UInt8)) (k : Nat) : ((ls.take k).map (fun l => l.length + 1)).sum ≤ (ls.map (fun l => l.length + 1)).sum := by
  conv => rhs; rw [← List.take_append_drop k ls]
  rw [List.map_append, List.sum_append]; omega
theorem sum_mem (ls : List (List UInt8)) (l : List UInt8) (h : l ∈ ls) : l.length + 1 ≤ (ls.map (fun l => l.length + 1)).sum := by
  induction ls with
  | nil => cases h
  | cons x ls ih =>
    rw [List.map_cons, List.sum_cons]
    cases h with
    | head => omega
    | tail _ h => have := ih h; omega
end Go.Proofs.YtfibbjnkicjbpaaGreatDoor
/- A slice of texts that came in: what it holds, and how much. -/
namespace Go.Proofs.YtfibbjnkicjbpaaGreatDoor
open Go.RowKit

/-- The slice at p holds these texts. -/
def StrRow (w : World) (p : Option Addr) (ss : List ByteArray) : Prop := ∀ i (h : i < ss.length), ∃ b off, p = some ⟨b, off, none⟩ ∧ b < w.heap.size ∧ w.cell? ⟨b, off + i, none⟩ = some (.string ss[i])
theorem StrRow.below {w W : World} {p : Option Addr} {ss : List ByteArray} (h : StrRow w p ss) (hb : Below w.heap.size w W) : ∀ i (hi : i < ss.length), ∃ b off, p = some ⟨b, off, none⟩ ∧ W.cell? ⟨b, off + i, none⟩ = some (.string ss[i]) := fun i hi => by
  obtain ⟨b, off, e, hlt, hc⟩ := h i hi
  exact ⟨b, off, e, (hb.cell (p := ⟨b, off + i, none⟩) hlt).trans hc⟩
theorem StrRow.at {w : World} {p : Option Addr} {ss : List ByteArray} (h : StrRow w p ss) (i : Nat) (hi : i < ss.length) : ∃ b off, p = some ⟨b, off, none⟩ ∧ ∀ W, Below w.heap.size w W → W.cell? ⟨b, off + i, none⟩ = some (.string ss[i]) := by
  obtain ⟨b, off, e, hlt, hc⟩ := h i hi
  exact ⟨b, off, e, fun W hb => (hb.cell (p := ⟨b, off + i, none⟩) hlt).trans hc⟩
def listsOf (ss : List ByteArray) : List (List UInt8) := ss.map (·.data.toList)
def sizeOf' (ss : List ByteArray) : Nat := ((listsOf ss).map (fun l => l.length + 1)).sum
theorem size_mem (ss : List ByteArray) (k : Nat) (h : k < ss.length) : ss[k].size + 1 ≤ sizeOf' ss := by
  have := sum_mem (listsOf ss) ss[k].data.toList (by unfold listsOf; exact List.mem_map_of_mem (List.getElem_mem h))
  rw [len_size] at this
  exact this


section
open Go.ChangeShapes Go.WideShapes
theorem addr_add (b off i : Nat) : (⟨b, off, none⟩ : Addr).add i = ⟨b, off + i, none⟩ := by
  unfold Addr.add
  by_cases h : i = 0
  · subst h; rfl
  · simp [h]
set_option maxRecDepth 100000 in
/-- A slice of texts that came in, opened. -/
theorem open_row {H : Type} {enc : TypeId × Value → H} {W : World} {base : Nat} {v : Value} {d : DataW H} {ps : List MemPlace} (hv : Value.okWide Tryz.prog W .any base 33 v)
    (h : DataW.Trod enc Tryz.prog W 0 (fun _ => true) true 33 v d ps) :
    ∃ (p : Option Addr) (c : Nat) (xs : List ByteArray), v = .slice p xs.length c ∧ StrRow W p xs ∧ ((d = .nil ∧ xs = [] ∧ p = none ∧ c = 0) ∨ ∃ spare, d = .slice (strs xs) spare) := by
  obtain ⟨a0, n0, c0, rfl⟩ := okWide_slice Tryz.underlying33 hv
  obtain ⟨fuel, hf⟩ := h
  rcases open_strings Tryz.underlying33 Tryz.underlying9 (by kernel_rfl) hf with ⟨hcs, hx⟩ | ⟨a, len, cap, ss, hcs, _, hl, hm, hz, hx, hcell, hws⟩
  · simp [Value.cells] at hcs
    obtain ⟨rfl, rfl, rfl⟩ := hcs
    simp only [Prod.mk.injEq] at hx
    exact ⟨none, 0, [], rfl, fun i hi => absurd hi (Nat.not_lt_zero _), .inl ⟨hx.1, rfl, rfl, rfl⟩⟩
  · simp [Value.cells] at hcs
    obtain ⟨rfl, rfl, rfl⟩ := hcs
    simp only [Prod.mk.injEq] at hx
    simp only [if_true] at hz
    have hlen : (ss.take n0).length = n0 := by rw [List.length_take]; omega
    refine ⟨some a, c0, ss.take n0, by rw [hlen], fun i hi => ?_, .inr ⟨_, hx.1⟩⟩
    rw [hlen] at hi
    have hc := hcell i (by omega)
    have hc0 := hcell 0 (by omega)
    obtain ⟨b, off, spot⟩ := a
    have hspot : spot = none := by simpa [Addr.add] using World.cell?_spot hc0
    subst hspot
    rw [addr_add] at hc
    refine ⟨b, off, rfl, World.block_lt_of_cell? W _ hc, ?_⟩
    rw [List.getElem_take]
    have : ss.getD i ByteArray.empty = ss[i]'(by omega) := by rw [List.getD, List.getElem?_eq_getElem (by omega : i < ss.length)]; rfl
    rw [← this]
    exact hc

/-- A nil slice that came in reads as none, and has no room. -/
theorem nil_row {H : Type} {enc : TypeId × Value → H} {W : World} {d : DataW H} {ps : List MemPlace} {p : Option Addr} {c : Nat} {xs : List ByteArray}
    (h : DataW.Trod enc Tryz.prog W 0 (fun _ => true) true 33 (.slice p xs.length c) d ps) (hd : (d = .nil ∧ xs = [] ∧ p = none ∧ c = 0) ∨ ∃ spare, d = .slice (strs xs) spare) : p = none → xs = [] ∧ c = 0 := by
  intro hp
  rcases hd with ⟨_, h1, _, h2⟩ | ⟨spare, rfl⟩
  · exact ⟨h1, h2⟩
  · subst hp
    obtain ⟨fuel, hf⟩ := h
    rcases open_strings Tryz.underlying33 Tryz.underlying9 (by kernel_rfl) hf with ⟨_, hx⟩ | ⟨a, len, cap, ss, hcs, _⟩
    · simp at hx
    · simp [Value.cells] at hcs

theorem bulk_strs {H : Type} : ∀ xs : List ByteArray, Rows.uptoBulkAll (strs (H := H) xs) = sizeOf' xs
  | [] => by simp [strs, Rows.uptoBulkAll, sizeOf', listsOf]
  | x :: xs => by
    have ih := bulk_strs (H := H) xs
    unfold strs sizeOf' listsOf at ih ⊢
    simp only [List.map_cons, Rows.uptoBulkAll, Rows.uptoBulk, List.sum_cons]
    rw [ih]
theorem len_le_size (xs : List ByteArray) : xs.length ≤ sizeOf' xs := by
  induction xs with
  | nil => simp
  | cons x xs ih =>
    unfold sizeOf' listsOf at ih ⊢
    simp only [List.map_cons, List.sum_cons, List.length_cons]
    omega
/-- What the bound gives of such a slice. -/
theorem bulk_row {H : Type} {d : DataW H} {xs : List ByteArray} {p : Option Addr} {c : Nat} (h : (d = .nil ∧ xs = [] ∧ p = none ∧ c = 0) ∨ ∃ spare, d = .slice (strs xs) spare) {N : Nat} (hN : Rows.uptoBulk d ≤ N) : sizeOf' xs ≤ N ∧ xs.length ≤ N := by
  have hs : sizeOf' xs ≤ N := by
    rcases h with ⟨_, rfl, _, _⟩ | ⟨spare, rfl⟩
    · simp [sizeOf', listsOf]
    · simp only [Rows.uptoBulk, bulk_strs] at hN; omega
  exact ⟨hs, Nat.le_trans (len_le_size xs) hs⟩
end
end Go.Proofs.YtfibbjnkicjbpaaGreatDoor
/- lines.Read, by its contract. -/
namespace Go.Proofs.YtfibbjnkicjbpaaGreatDoor
open Go.RowKit

/-! Read -/
def readOk (l : List UInt8) : Bool := takeOk l && (restL l).isEmpty
def readN (l : List UInt8) : Int := if readOk l then valL l else 0
def readE (l : List UInt8) : Int := if readOk l then 0 else 4
theorem two_ret {n m e f : Int} (h1 : n = m) (h3 : e = f) : Ending.returned (.tuple #[.int .i64 n, .int .i64 e]) = .returned (.tuple #[.int .i64 m, .int .i64 f]) := by rw [h1, h3]
theorem read_bad1 (l : List UInt8) (h : takeOk l = false) : takeE l = 4 ∧ takeN l = 0 ∧ 0 = readN l ∧ 4 = readE l := by
  unfold readN readE readOk takeE takeN; rw [h]; exact ⟨rfl, rfl, rfl, rfl⟩
theorem read_bad2 (l : List UInt8) (h : takeOk l = true) (hr : (restL l).isEmpty = false) : takeE l = 0 ∧ takeT l = restL l ∧ 0 = readN l ∧ 4 = readE l := by
  unfold readN readE readOk takeE takeT; rw [h, hr]; exact ⟨rfl, rfl, rfl, rfl⟩
theorem read_good (l : List UInt8) (h : takeOk l = true) (hr : (restL l).isEmpty = true) : takeE l = 0 ∧ takeT l = [] ∧ takeN l = readN l ∧ 0 = readE l := by
  unfold readN readE readOk takeE takeT takeN; rw [h, hr]; exact ⟨rfl, List.isEmpty_iff.1 hr, rfl, rfl⟩

end Go.Proofs.YtfibbjnkicjbpaaGreatDoor
