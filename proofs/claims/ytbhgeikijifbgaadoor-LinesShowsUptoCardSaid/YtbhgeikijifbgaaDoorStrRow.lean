/- A slice of texts that came in: what it holds, and how much. -/
import Derived.Test.YtbhgeikijifbgaaDoorBase
import Derived.Test.YtbhgeikijifbgaaDoorConcat
import Derived.SliceStrings
import Derived.ProofKit
namespace Go.Proofs.YtbhgeikijifbgaaDoor
open Go.RowKit

/-- The slice at p holds these texts. -/
def StrRow (w : World) (p : Option Addr) (ss : List ByteArray) : Prop := ∀ i (h : i < ss.length), ∃ b off, p = some ⟨b, off, none⟩ ∧ b < w.heap.size ∧ w.cell? ⟨b, off + i, none⟩ = some (.string ss[i])
theorem StrRow.below {w W : World} {p : Option Addr} {ss : List ByteArray} (h : StrRow w p ss) (hb : Below w.heap.size w W) : ∀ i (hi : i < ss.length), ∃ b off, p = some ⟨b, off, none⟩ ∧ W.cell? ⟨b, off + i, none⟩ = some (.string ss[i]) := fun i hi => by
  obtain ⟨b, off, e, hlt, hc⟩ := h i hi
  exact ⟨b, off, e, (hb.cell (p := ⟨b, off + i, none⟩) hlt).trans hc⟩
theorem StrRow.at {w : World} {p : Option Addr} {ss : List ByteArray} (h : StrRow w p ss) (i : Nat) (hi : i < ss.length) : ∃ b off, p = some ⟨b, off, none⟩ ∧ ∀ W, Below w.heap.size w W → W.cell? ⟨b, off + i, none⟩ = some (.string ss[i]) := by
  obtain ⟨b, off, e, hlt, hc⟩ := h i hi
  exact ⟨b, off, e, fun W hb => (hb.cell (p := ⟨b, off + i, none⟩) hlt).trans hc⟩
def listsOf (ss : List ByteArray) : List (List UInt8) := ss.map (·.data.toList)
def sizeOf' (ss : List ByteArray) : Nat := ((listsOf ss).map (fun l => l.length + 1)).sum
theorem size_mem (ss : List ByteArray) (k : Nat) (h : k < ss.length) : ss[k].size + 1 ≤ sizeOf' ss := by
  have := sum_mem (listsOf ss) ss[k].data.toList (by unfold listsOf; exact List.mem_map_of_mem (List.getElem_mem h))
  rw [len_size] at this
  exact this


section
open Go.ChangeShapes Go.WideShapes
theorem addr_add (b off i : Nat) : (⟨b, off, none⟩ : Addr).add i = ⟨b, off + i, none⟩ := by
  unfold Addr.add
  by_cases h : i = 0
  · subst h; rfl
  · simp [h]
/-- A slice of texts that came in, opened. -/
theorem open_row {H : Type} {enc : TypeId × Value → H} {W : World} {base : Nat} {v : Value} {d : DataW H} {ps : List MemPlace} (hv : Value.okWide Tryd.prog W .any base 31 v)
    (h : DataW.Trod enc Tryd.prog W 0 (fun _ => true) true 31 v d ps) :
    ∃ (p : Option Addr) (c : Nat) (xs : List ByteArray), v = .slice p xs.length c ∧ StrRow W p xs ∧ ((d = .nil ∧ xs = [] ∧ p = none ∧ c = 0) ∨ ∃ spare, d = .slice (strs xs) spare) := by
  obtain ⟨a0, n0, c0, rfl⟩ := okWide_slice Tryd.underlying31 hv
  obtain ⟨fuel, hf⟩ := h
  rcases open_strings Tryd.underlying31 Tryd.underlying9 (by kernel_rfl) hf with ⟨hcs, hx⟩ | ⟨a, len, cap, ss, hcs, _, hl, hm, hz, hx, hcell, hws⟩
  · simp [Value.cells] at hcs
    obtain ⟨rfl, rfl, rfl⟩ := hcs
    simp only [Prod.mk.injEq] at hx
    exact ⟨none, 0, [], rfl, fun i hi => absurd hi (Nat.not_lt_zero _), .inl ⟨hx.1, rfl, rfl, rfl⟩⟩
  · simp [Value.cells] at hcs
    obtain ⟨rfl, rfl, rfl⟩ := hcs
    simp only [Prod.mk.injEq] at hx
    simp only [if_true] at hz
    have hlen : (ss.take n0).length = n0 := by rw [List.length_take]; omega
    refine ⟨some a, c0, ss.take n0, by rw [hlen], fun i hi => ?_, .inr ⟨_, hx.1⟩⟩
    rw [hlen] at hi
    have hc := hcell i (by omega)
    have hc0 := hcell 0 (by omega)
    obtain ⟨b, off, spot⟩ := a
    have hspot : spot = none := by simpa [Addr.add] using World.cell?_spot hc0
    subst hspot
    rw [addr_add] at hc
    refine ⟨b, off, rfl, World.block_lt_of_cell? W _ hc, ?_⟩
    rw [List.getElem_take]
    have : ss.getD i ByteArray.empty = ss[i]'(by omega) := by rw [List.getD, List.getElem?_eq_getElem (by omega : i < ss.length)]; rfl
    rw [← this]
    exact hc

/-- A nil slice that came in reads as none, and has no room. -/
theorem nil_row {H : Type} {enc : TypeId × Value → H} {W : World} {d : DataW H} {ps : List MemPlace} {p : Option Addr} {c : Nat} {xs : List ByteArray}
    (h : DataW.Trod enc Tryd.prog W 0 (fun _ => true) true 31 (.slice p xs.length c) d ps) (hd : (d = .nil ∧ xs = [] ∧ p = none ∧ c = 0) ∨ ∃ spare, d = .slice (strs xs) spare) : p = none → xs = [] ∧ c = 0 := by
  intro hp
  rcases hd with ⟨_, h1, _, h2⟩ | ⟨spare, rfl⟩
  · exact ⟨h1, h2⟩
  · subst hp
    obtain ⟨fuel, hf⟩ := h
    rcases open_strings Tryd.underlying31 Tryd.underlying9 (by kernel_rfl) hf with ⟨_, hx⟩ | ⟨a, len, cap, ss, hcs, _⟩
    · simp at hx
    · simp [Value.cells] at hcs

theorem bulk_strs {H : Type} : ∀ xs : List ByteArray, Rows.uptoBulkAll (strs (H := H) xs) = sizeOf' xs
  | [] => by simp [strs, Rows.uptoBulkAll, sizeOf', listsOf]
  | x :: xs => by
    have ih := bulk_strs (H := H) xs
    unfold strs sizeOf' listsOf at ih ⊢
    simp only [List.map_cons, Rows.uptoBulkAll, Rows.uptoBulk, List.sum_cons]
    rw [ih]
theorem len_le_size (xs : List ByteArray) : xs.length ≤ sizeOf' xs := by
  induction xs with
  | nil => simp
  | cons x xs ih =>
    unfold sizeOf' listsOf at ih ⊢
    simp only [List.map_cons, List.sum_cons, List.length_cons]
    omega
/-- What the bound gives of such a slice. -/
theorem bulk_row {H : Type} {d : DataW H} {xs : List ByteArray} {p : Option Addr} {c : Nat} (h : (d = .nil ∧ xs = [] ∧ p = none ∧ c = 0) ∨ ∃ spare, d = .slice (strs xs) spare) {N : Nat} (hN : Rows.uptoBulk d ≤ N) : sizeOf' xs ≤ N ∧ xs.length ≤ N := by
  have hs : sizeOf' xs ≤ N := by
    rcases h with ⟨_, rfl, _, _⟩ | ⟨spare, rfl⟩
    · simp [sizeOf', listsOf]
    · simp only [Rows.uptoBulk, bulk_strs] at hN; omega
  exact ⟨hs, Nat.le_trans (len_le_size xs) hs⟩
end
end Go.Proofs.YtbhgeikijifbgaaDoor
