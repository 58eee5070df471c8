/- Texts of the proof, merged: BackPlain, TextRows. -/
import Derived.Test.YtfkkodcppaakjaaGreatDoorRd10
import Derived.Test.YtfkkodcppaakjaaGreatDoorRd11
import Derived.Test.YtfkkodcppaakjaaGreatDoorRd12
import Derived.Test.YtfkkodcppaakjaaGreatDoorRd13
/- Plain facts of what is written and read back: no program. -/
namespace Go.Proofs.YtfkkodcppaakjaaGreatDoor
open Go

theorem dig_itoa (n : Int) : digsL (Lib.itoa n) = Lib.decDigits n.natAbs ∧ restL (Lib.itoa n) = [] ∧ formL (Lib.itoa n) = Lib.itoa n := by
  have hall : ∀ u, (Lib.decDigits u).takeWhile isDig = Lib.decDigits u ∧ (Lib.decDigits u).dropWhile isDig = [] := fun u => by
    have h : ∀ c ∈ Lib.decDigits u, isDig c = true := List.all_eq_true.1 (dec_digs u)
    have h1 := List.takeWhile_append_of_pos (l₂ := []) h
    have h2 := List.dropWhile_append_of_pos (l₂ := []) h
    rw [List.append_nil, List.takeWhile_nil, List.append_nil] at h1
    rw [List.append_nil, List.dropWhile_nil] at h2
    exact ⟨h1, h2⟩
  by_cases hn : n < 0
  · rw [itoa_neg' n hn]
    have hneg : negB (45 :: Lib.decDigits n.natAbs) = true := rfl
    have hb : bodyL (45 :: Lib.decDigits n.natAbs) = Lib.decDigits n.natAbs := rfl
    unfold digsL restL formL digsL
    rw [hneg, hb, (hall _).1, (hall _).2]
    exact ⟨rfl, rfl, rfl⟩
  · rw [itoa_pos' n hn]
    have hneg : negB (Lib.decDigits n.toNat) = false := by
      obtain ⟨c, t, hd, hc⟩ := dig_head n.toNat
      rw [hd]
      unfold negB
      rw [List.head?_cons]
      simpa using dig_not_sign c hc
    have hb : bodyL (Lib.decDigits n.toNat) = Lib.decDigits n.toNat := by unfold bodyL; rw [hneg]; rfl
    unfold digsL restL formL digsL
    rw [hneg, hb, (hall _).1, (hall _).2, show n.natAbs = n.toNat from by omega]
    exact ⟨rfl, rfl, rfl⟩
theorem read_itoa (n : Int) (h0 : -9223372036854775808 ≤ n) (h1 : n ≤ 9223372036854775807) : readN (Lib.itoa n) = n ∧ readE (Lib.itoa n) = 0 := by
  obtain ⟨_, hr, hf⟩ := dig_itoa n
  obtain ⟨hok, hv⟩ := ok_of_form (Lib.itoa n) n h0 h1 hf.symm
  unfold readN readE readOk
  rw [hok, hr, hv]
  exact ⟨rfl, rfl⟩
theorem itoa_read (l : List UInt8) (h : readOk l = true) : Lib.itoa (readN l) = l ∧ -9223372036854775808 ≤ readN l ∧ readN l ≤ 9223372036854775807 ∧ readE l = 0 := by
  have h' := h
  unfold readOk at h'
  simp only [Bool.and_eq_true] at h'
  have hr := List.isEmpty_iff.1 h'.2
  have hf := form_rest l
  rw [hr, List.append_nil] at hf
  obtain ⟨a, b⟩ := ok_range l h'.1
  unfold readN readE
  rw [h, form_of_ok l h'.1 |> fun e => (show Lib.itoa (if true = true then valL l else 0) = formL l from e), hf]
  exact ⟨rfl, a, b, rfl⟩
theorem read_not (l : List UInt8) (h : readOk l = false) : readE l = 4 := by unfold readE; rw [h]; rfl
theorem itoa_take (l : List UInt8) (h : takeOk l = true) : Lib.itoa (takeN l) ++ takeT l = l ∧ -9223372036854775808 ≤ takeN l ∧ takeN l ≤ 9223372036854775807 ∧ takeE l = 0 := by
  obtain ⟨e1, e2, e3⟩ := take_is l h
  obtain ⟨a, b⟩ := ok_range l h
  rw [e1, e2, e3, form_of_ok l h]
  exact ⟨form_rest l, a, b, rfl⟩
theorem show_shown (l : List UInt8) (h : shownOk l = true) : showL (shownT l) ++ shownR l = l ∧ shownE l = 0 ∧ (shownT l).length ≤ l.length := by
  have h' := h
  unfold shownOk at h'
  simp only [Bool.and_eq_true, decide_eq_true_eq, beq_iff_eq] at h'
  obtain ⟨⟨⟨hk, hh⟩, hv0⟩, hv1⟩ := h'
  obtain ⟨n, hn⟩ : ∃ n : Nat, valL l = n := ⟨(valL l).toNat, by omega⟩
  obtain ⟨t, ht⟩ : ∃ t, restL l = 58 :: t := by
    cases hr : restL l with
    | nil => rw [hr] at hh; cases hh
    | cons a t => rw [hr, List.head?_cons, Option.some.injEq] at hh; exact ⟨t, by rw [hh]⟩
  unfold shownT shownR shownE
  rw [h, hn, ht, Int.toNat_natCast]
  simp only [if_true, List.tail_cons]
  rw [ht, List.tail_cons, hn] at hv1
  have hlen : (t.take n).length = n := by rw [List.length_take]; omega
  refine ⟨?_, trivial, ?_⟩
  · unfold showL
    rw [hlen, ← hn, form_of_ok l hk, List.append_assoc, List.cons_append, List.take_append_drop, ← ht]
    exact form_rest l
  · have := rest_len l
    rw [ht, List.length_cons] at this
    rw [hlen]; omega
theorem shown_not (l : List UInt8) (h : shownOk l = false) : shownE l = 4 := by unfold shownE; rw [h]; rfl

theorem join_cons (l : List UInt8) (ls : List (List UInt8)) : joinL (l :: ls) = l ++ 10 :: joinL ls := by simp [joinL]
theorem join_pieces : ∀ m : List UInt8, joinL (piecesL m) = m ++ [10]
  | [] => rfl
  | c :: t => by
    have ih := join_pieces t
    unfold piecesL
    by_cases hc : c = 10
    · rw [if_pos hc, join_cons, ih, hc]; rfl
    · rw [if_neg hc]
      cases hp : piecesL t with
      | nil => exact absurd hp (pieces_ne t)
      | cons x xs =>
        rw [hp, join_cons] at ih
        simp only
        rw [join_cons, List.cons_append, ih]; rfl
theorem join_cut (l : List UInt8) (h : (l.getLast? == some 10) = true) : joinL (piecesL l.dropLast) = l := by
  rw [join_pieces]
  obtain ⟨t, ht⟩ := List.getLast?_eq_some_iff.1 (beq_iff_eq.1 h)
  rw [ht]; simp
theorem join_last : ∀ ls : List (List UInt8), ls ≠ [] → (joinL ls).getLast? = some 10
  | [], h => absurd rfl h
  | [l], _ => by rw [join_cons]; simp [joinL]
  | l :: m :: ls, _ => by
    have ih := join_last (m :: ls) (by simp)
    rw [join_cons, List.getLast?_append]
    have : (10 :: joinL (m :: ls)).getLast? = some 10 := by
      cases hj : joinL (m :: ls) with
      | nil => rfl
      | cons a t => rw [hj] at ih; rw [List.getLast?_cons_cons]; exact ih
    rw [this]; rfl
theorem cut_join : ∀ ls : List (List UInt8), (∀ l ∈ ls, l.contains 10 = false) → ls ≠ [] → piecesL (joinL ls).dropLast = ls
  | [], _, h => absurd rfl h
  | [l], ha, _ => by
    rw [join_cons]
    have h1 := ha l (List.mem_cons_self ..)
    rw [show joinL [] = [] from rfl, List.dropLast_concat]
    exact pieces_no l (fun c hc e => by
      rw [← e] at h1
      have : l.contains c = true := List.contains_iff_mem.2 hc
      rw [h1] at this; cases this)
  | l :: m :: ls, ha, _ => by
    have ih := cut_join (m :: ls) (fun x hx => ha x (List.mem_cons_of_mem _ hx)) (by simp)
    have h1 := ha l (List.mem_cons_self ..)
    have hne : joinL (m :: ls) ≠ [] := by rw [join_cons]; simp
    rw [join_cons, List.dropLast_append_of_ne_nil (by simp), List.dropLast_cons_of_ne_nil hne, pieces_app, ih]
    intro c hc e
    rw [← e] at h1
    have : l.contains c = true := List.contains_iff_mem.2 hc
    rw [h1] at this; cases this
end Go.Proofs.YtfkkodcppaakjaaGreatDoor
/- Rows of texts that the call itself has made. -/
namespace Go.Proofs.YtfkkodcppaakjaaGreatDoor
open Go.RowKit

theorem texts_lists (ls : List (List UInt8)) : listsOf (asTexts ls) = ls := by
  unfold listsOf asTexts
  rw [List.map_map]
  conv => rhs; rw [← List.map_id ls]
  rfl
theorem row_made (W : World) (ls : List (List UInt8)) : StrRow (W.alloc (rowOf ls)) (some ⟨W.heap.size, 0, none⟩) (asTexts ls) := fun i hi => by
  refine ⟨W.heap.size, 0, rfl, by simp, ?_⟩
  unfold rowOf
  rw [Nat.zero_add, World.cell?_alloc_mark]
  simp only [List.getElem?_toArray, List.getElem?_map]
  rw [List.getElem?_eq_getElem hi]; rfl
theorem size_join (ss : List ByteArray) : sizeOf' ss = (joinL (listsOf ss)).length := (join_len _).symm
theorem wd_of {w W : World} (hT : Tabs w) (hM : MaxS w) (hb : Below w.heap.size w W) : Wd w W := ⟨hT.below hb, hM.below hb, hb⟩
theorem strInfo : (Tryz.prog.info? 9).map (fun i => (i.zero, i.size, i.bytes)) = some (some (.string ⟨#[]⟩), 1, 16) := by kernel_rfl
/-- A row of texts that the call itself owns, as a slice that holds them. -/
theorem row_owned {W : World} {B : Nat} {e : TypeId} {v : Value} {ks : List ByteArray} (h : W.ownsRow B e 1 v ks.length (ks.map Value.string)) : ∃ p c, v = .slice p ks.length c ∧ StrRow W p ks := by
  rcases h.2 with ⟨hv, h0⟩ | ⟨g, cap, cur, hv, _⟩
  · refine ⟨none, 0, by rw [hv, h0], fun i hi => ?_⟩
    omega
  · refine ⟨some ⟨g, 0, none⟩, cap, hv, fun i hi => ?_⟩
    subst hv
    have hc := h.cellAt i (by omega)
    rw [List.getElem?_map, List.getElem?_eq_getElem hi] at hc
    have hlt := World.block_lt_of_cell? W _ (show W.cell? ⟨g, i, none⟩ = some (.string ks[i]) from hc)
    exact ⟨g, 0, rfl, hlt, by rw [Nat.zero_add]; exact hc⟩
theorem StrRow.later {w W : World} {p : Option Addr} {ss : List ByteArray} (h : StrRow w p ss) (hb : Below w.heap.size w W) : StrRow W p ss := fun i hi => by
  obtain ⟨b, off, e, hlt, hc⟩ := h i hi
  exact ⟨b, off, e, Nat.lt_of_lt_of_le hlt hb.size, (hb.cell (p := ⟨b, off + i, none⟩) hlt).trans hc⟩
/-- Its own row, untouched by what only adds. -/
theorem owns_later {w W : World} {B : Nat} {e : TypeId} {v : Value} {n : Nat} {cs : List Value} (h : w.ownsRow B e 1 v n cs) (hb : Below w.heap.size w W) : W.ownsRow B e 1 v n cs := by
  refine ⟨h.1, ?_⟩
  rcases h.2 with h' | ⟨g, cap, cur, hv, hB, hg, rest⟩
  · exact .inl h'
  · have hlt : g < w.heap.size := (Array.getElem?_eq_some_iff.1 hg).1
    exact .inr ⟨g, cap, cur, hv, hB, by rw [hb.block g hlt]; exact hg, rest⟩
/-- What Cut leaves, at any text: the texts in a row of its own. -/
def CutRow (W : World) (s : ByteArray) (e : Ending) (w' : World) : Prop := ∃ p c, e = .returned (.tuple #[.slice p (cutL s.data.toList).length c, .int .i64 (cutE s.data.toList)]) ∧ Below W.heap.size W w' ∧
  w'.ownsRow W.heap.size 9 1 (.slice p (cutL s.data.toList).length c) (cutL s.data.toList).length ((asTexts (cutL s.data.toList)).map Value.string)
theorem cut_row (s : ByteArray) (W : World) (hs : s.size < 4294967281) (hM : MaxS W) : Calls Tryz.prog 82 #[.string s] W (CutRow W s) := by
  by_cases h0 : 1 ≤ s.size
  · have hne : s.data.toList.isEmpty = false := by
      have := (bytes_some s h0).2
      rw [ByteArray.toList_eq] at this; exact this
    cases hl : (s.data.toList.getLast? == some 10)
    · have e1 : cutL s.data.toList = [] := by unfold cutL; rw [hne, hl]; rfl
      have e2 : cutE s.data.toList = 4 := by unfold cutE cutOk; rw [hne, hl]; rfl
      refine (cut_bad s W (by unfold maxLen; omega) h0 hl).mono fun e w' ⟨he, hw⟩ => ⟨none, 0, ?_, hw ▸ Below.refl _ _, ?_⟩
      · rw [e1, e2]; exact he
      · rw [e1]; exact World.ownsRow_nil _ _ _ _
    · have e1 : cutL s.data.toList = piecesL s.data.toList.dropLast := by unfold cutL; rw [hne, hl]; rfl
      have e2 : cutE s.data.toList = 0 := by unfold cutE cutOk; rw [hne, hl]; rfl
      refine (cut_good s W hs hM h0 hl).mono fun e w' ⟨he, hw⟩ => ⟨some ⟨W.heap.size, 0, none⟩, (piecesL s.data.toList.dropLast).length, ?_, ?_, ?_⟩
      · rw [e1, e2]; exact he
      · rw [hw]; exact (Below.refl _ _).alloc (Nat.le_refl _) _
      · rw [e1, hw]
        have hlen : (piecesL s.data.toList.dropLast).length ≤ maxLen := by
          have h1 := join_len (piecesL s.data.toList.dropLast)
          rw [join_cut _ hl, len_size] at h1
          have h2 : (piecesL s.data.toList.dropLast).length ≤ ((piecesL s.data.toList.dropLast).map (fun l => l.length + 1)).sum := by
            generalize piecesL s.data.toList.dropLast = ls
            induction ls with
            | nil => simp
            | cons x xs ih => simp only [List.map_cons, List.sum_cons, List.length_cons]; omega
          unfold maxLen; omega
        have := World.ownsRow_lit (base := W.heap.size) (e := 9) (size := 1) W ((asTexts (piecesL s.data.toList.dropLast)).map Value.string).toArray (piecesL s.data.toList.dropLast).length (Nat.le_refl _) hlen (by simp [asTexts])
        simpa [rowOf] using this
  · have hl : s.data.toList = [] := List.eq_nil_of_length_eq_zero (by rw [len_size]; omega)
    have e1 : cutL s.data.toList = [] := by rw [hl]; rfl
    have e2 : cutE s.data.toList = 0 := by rw [hl]; rfl
    refine (cut_empty s W h0).mono fun e w' ⟨he, hw⟩ => ⟨none, 0, ?_, hw ▸ Below.refl _ _, ?_⟩
    · rw [e1, e2]; exact he
    · rw [e1]; exact World.ownsRow_nil _ _ _ _
end Go.Proofs.YtfkkodcppaakjaaGreatDoor
