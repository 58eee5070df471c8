/- Rows of texts that the call itself has made. -/
import Derived.Test.YtbhgeikijifbgaaDoorJoined
import Derived.Test.YtbhgeikijifbgaaDoorCut
import Derived.Test.YtbhgeikijifbgaaDoorBackPlain
namespace Go.Proofs.YtbhgeikijifbgaaDoor
open Go.RowKit

theorem texts_lists (ls : List (List UInt8)) : listsOf (asTexts ls) = ls := by
  unfold listsOf asTexts
  rw [List.map_map]
  conv => rhs; rw [← List.map_id ls]
  rfl
theorem row_made (W : World) (ls : List (List UInt8)) : StrRow (W.alloc (rowOf ls)) (some ⟨W.heap.size, 0, none⟩) (asTexts ls) := fun i hi => by
  refine ⟨W.heap.size, 0, rfl, by simp, ?_⟩
  unfold rowOf
  rw [Nat.zero_add, World.cell?_alloc_mark]
  simp only [List.getElem?_toArray, List.getElem?_map]
  rw [List.getElem?_eq_getElem hi]; rfl
theorem size_join (ss : List ByteArray) : sizeOf' ss = (joinL (listsOf ss)).length := (join_len _).symm
theorem wd_of {w W : World} (hT : Tabs w) (hM : MaxS w) (hb : Below w.heap.size w W) : Wd w W := ⟨hT.below hb, hM.below hb, hb⟩
theorem strInfo : (Tryd.prog.info? 9).map (fun i => (i.zero, i.size, i.bytes)) = some (some (.string ⟨#[]⟩), 1, 16) := by kernel_rfl
/-- A row of texts that the call itself owns, as a slice that holds them. -/
theorem row_owned {W : World} {B : Nat} {e : TypeId} {v : Value} {ks : List ByteArray} (h : W.ownsRow B e 1 v ks.length (ks.map Value.string)) : ∃ p c, v = .slice p ks.length c ∧ StrRow W p ks := by
  rcases h.2 with ⟨hv, h0⟩ | ⟨g, cap, cur, hv, _⟩
  · refine ⟨none, 0, by rw [hv, h0], fun i hi => ?_⟩
    omega
  · refine ⟨some ⟨g, 0, none⟩, cap, hv, fun i hi => ?_⟩
    subst hv
    have hc := h.cellAt i (by omega)
    rw [List.getElem?_map, List.getElem?_eq_getElem hi] at hc
    have hlt := World.block_lt_of_cell? W _ (show W.cell? ⟨g, i, none⟩ = some (.string ks[i]) from hc)
    exact ⟨g, 0, rfl, hlt, by rw [Nat.zero_add]; exact hc⟩
theorem StrRow.later {w W : World} {p : Option Addr} {ss : List ByteArray} (h : StrRow w p ss) (hb : Below w.heap.size w W) : StrRow W p ss := fun i hi => by
  obtain ⟨b, off, e, hlt, hc⟩ := h i hi
  exact ⟨b, off, e, Nat.lt_of_lt_of_le hlt hb.size, (hb.cell (p := ⟨b, off + i, none⟩) hlt).trans hc⟩
/-- Its own row, untouched by what only adds. -/
theorem owns_later {w W : World} {B : Nat} {e : TypeId} {v : Value} {n : Nat} {cs : List Value} (h : w.ownsRow B e 1 v n cs) (hb : Below w.heap.size w W) : W.ownsRow B e 1 v n cs := by
  refine ⟨h.1, ?_⟩
  rcases h.2 with h' | ⟨g, cap, cur, hv, hB, hg, rest⟩
  · exact .inl h'
  · have hlt : g < w.heap.size := (Array.getElem?_eq_some_iff.1 hg).1
    exact .inr ⟨g, cap, cur, hv, hB, by rw [hb.block g hlt]; exact hg, rest⟩
/-- What Cut leaves, at any text: the texts in a row of its own. -/
def CutRow (W : World) (s : ByteArray) (e : Ending) (w' : World) : Prop := ∃ p c, e = .returned (.tuple #[.slice p (cutL s.data.toList).length c, .int .i64 (cutE s.data.toList)]) ∧ Below W.heap.size W w' ∧
  w'.ownsRow W.heap.size 9 1 (.slice p (cutL s.data.toList).length c) (cutL s.data.toList).length ((asTexts (cutL s.data.toList)).map Value.string)
theorem cut_row (s : ByteArray) (W : World) (hs : s.size < 4294967281) (hM : MaxS W) : Calls Tryd.prog 19 #[.string s] W (CutRow W s) := by
  by_cases h0 : 1 ≤ s.size
  · have hne : s.data.toList.isEmpty = false := by
      have := (bytes_some s h0).2
      rw [ByteArray.toList_eq] at this; exact this
    cases hl : (s.data.toList.getLast? == some 10)
    · have e1 : cutL s.data.toList = [] := by unfold cutL; rw [hne, hl]; rfl
      have e2 : cutE s.data.toList = 4 := by unfold cutE cutOk; rw [hne, hl]; rfl
      refine (cut_bad s W (by unfold maxLen; omega) h0 hl).mono fun e w' ⟨he, hw⟩ => ⟨none, 0, ?_, hw ▸ Below.refl _ _, ?_⟩
      · rw [e1, e2]; exact he
      · rw [e1]; exact World.ownsRow_nil _ _ _ _
    · have e1 : cutL s.data.toList = piecesL s.data.toList.dropLast := by unfold cutL; rw [hne, hl]; rfl
      have e2 : cutE s.data.toList = 0 := by unfold cutE cutOk; rw [hne, hl]; rfl
      refine (cut_good s W hs hM h0 hl).mono fun e w' ⟨he, hw⟩ => ⟨some ⟨W.heap.size, 0, none⟩, (piecesL s.data.toList.dropLast).length, ?_, ?_, ?_⟩
      · rw [e1, e2]; exact he
      · rw [hw]; exact (Below.refl _ _).alloc (Nat.le_refl _) _
      · rw [e1, hw]
        have hlen : (piecesL s.data.toList.dropLast).length ≤ maxLen := by
          have h1 := join_len (piecesL s.data.toList.dropLast)
          rw [join_cut _ hl, len_size] at h1
          have h2 : (piecesL s.data.toList.dropLast).length ≤ ((piecesL s.data.toList.dropLast).map (fun l => l.length + 1)).sum := by
            generalize piecesL s.data.toList.dropLast = ls
            induction ls with
            | nil => simp
            | cons x xs ih => simp only [List.map_cons, List.sum_cons, List.length_cons]; omega
          unfold maxLen; omega
        have := World.ownsRow_lit (base := W.heap.size) (e := 9) (size := 1) W ((asTexts (piecesL s.data.toList.dropLast)).map Value.string).toArray (piecesL s.data.toList.dropLast).length (Nat.le_refl _) hlen (by simp [asTexts])
        simpa [rowOf] using this
  · have hl : s.data.toList = [] := List.eq_nil_of_length_eq_zero (by rw [len_size]; omega)
    have e1 : cutL s.data.toList = [] := by rw [hl]; rfl
    have e2 : cutE s.data.toList = 0 := by rw [hl]; rfl
    refine (cut_empty s W h0).mono fun e w' ⟨he, hw⟩ => ⟨none, 0, ?_, hw ▸ Below.refl _ _, ?_⟩
    · rw [e1, e2]; exact he
    · rw [e1]; exact World.ownsRow_nil _ _ _ _
end Go.Proofs.YtbhgeikijifbgaaDoor
