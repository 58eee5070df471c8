/- Texts of the proof, merged: TextRows, PoTextP, PoReadP, StrInfo, ShelfC, PoKeys, OwnAppend, VwRow. -/
import Derived.Test.YtenbbefahpkhpaaGreatDoorBk1
import Derived.Test.YtenbbefahpkhpaaGreatDoorBk2
import Derived.Test.YtenbbefahpkhpaaGreatDoorBk4
import Derived.Lib.IndexMore
import Derived.Shelf.Strings.Builder1
import Derived.Shelf.Strings.Builder2
import Derived.Shelf.Strings.OnBuilder
import Derived.Shelf.Small.Bits
import Derived.Shelf.Small.Wraps
import Derived.Shelf.Strings.BuilderF
import Derived.Shelf.Strings.BuilderK
import Derived.Shelf.Strings.Builder2Cap
import Derived.Shelf.Strconv.Itoa0
import Derived.Shelf.Strconv.Itoa1
import Derived.Shelf.LaysM
import Derived.Shelf.Strconv.Itoa2
import Derived.Shelf.Strconv.Itoa3
import Derived.Shelf.Strings.Search1
import Derived.Shelf.Strings.Search2
import Derived.Shelf.Strings.Search3
import Derived.Shelf.Strings.Cut
import Derived.Shelf.Strings.Count
import Derived.Shelf.Strings.Shaped
import Derived.Shelf.Sort.Plain
import Derived.Shelf.GgClosure.StringsIndexFunc
import Derived.Ground.GgwProg
import Derived.Shelf.GgClosure.StringsIndexFuncTop
import Derived.Shelf.GgClosure.StringsRunes
import Derived.Shelf.Strings.Prefix
import Derived.Shelf.Strings.Split
import Derived.Shelf.Strings.SplitShaped
import Derived.Shelf.Unicode.DecodeSlow
import Derived.Shelf.Unicode.DecodeAny
import Derived.Shelf.Strings.FuncGrows
import Derived.Shelf.Strings.BuilderCap
import Derived.Shelf.Slices.In.SortNone
import Derived.Test.YtenbbefahpkhpaaGreatDoorProg
import Derived.Shelf.SlIter.Sorted
import Derived.Shelf.SlIter.Nil
import Derived.Maps.OwnOps
import Derived.Maps.OwnSet
import Derived.Laws.AppendOwn
import Derived.OwnWalk
import Derived.RowKit
import Derived.Deep.Slices
import Derived.Deep.Fields
import Derived.Deep.QuietTactic
import Derived.Laws.AppendOwnNone
/- Rows of texts that the call itself has made. -/
namespace Go.Proofs.YtenbbefahpkhpaaGreatDoor
open Go.RowKit

theorem texts_lists (ls : List (List UInt8)) : listsOf (asTexts ls) = ls := by
  unfold listsOf asTexts
  rw [List.map_map]
  conv => rhs; rw [← List.map_id ls]
  rfl
theorem row_made (W : World) (ls : List (List UInt8)) : StrRow (W.alloc (rowOf ls)) (some ⟨W.heap.size, 0, none⟩) (asTexts ls) := fun i hi => by
  refine ⟨W.heap.size, 0, rfl, by simp, ?_⟩
  unfold rowOf
  rw [Nat.zero_add, World.cell?_alloc_mark]
  simp only [List.getElem?_toArray, List.getElem?_map]
  rw [List.getElem?_eq_getElem hi]; rfl
theorem size_join (ss : List ByteArray) : sizeOf' ss = (joinL (listsOf ss)).length := (join_len _).symm
theorem wd_of {w W : World} (hT : Tabs w) (hM : MaxS w) (hb : Below w.heap.size w W) : Wd w W := ⟨hT.below hb, hM.below hb, hb⟩
theorem strInfo : (Tryz.prog.info? 9).map (fun i => (i.zero, i.size, i.bytes)) = some (some (.string ⟨#[]⟩), 1, 16) := by kernel_rfl
/-- A row of texts that the call itself owns, as a slice that holds them. -/
theorem row_owned {W : World} {B : Nat} {e : TypeId} {v : Value} {ks : List ByteArray} (h : W.ownsRow B e 1 v ks.length (ks.map Value.string)) : ∃ p c, v = .slice p ks.length c ∧ StrRow W p ks := by
  rcases h.2 with ⟨hv, h0⟩ | ⟨g, cap, cur, hv, _⟩
  · refine ⟨none, 0, by rw [hv, h0], fun i hi => ?_⟩
    omega
  · refine ⟨some ⟨g, 0, none⟩, cap, hv, fun i hi => ?_⟩
    subst hv
    have hc := h.cellAt i (by omega)
    rw [List.getElem?_map, List.getElem?_eq_getElem hi] at hc
    have hlt := World.block_lt_of_cell? W _ (show W.cell? ⟨g, i, none⟩ = some (.string ks[i]) from hc)
    exact ⟨g, 0, rfl, hlt, by rw [Nat.zero_add]; exact hc⟩
theorem StrRow.later {w W : World} {p : Option Addr} {ss : List ByteArray} (h : StrRow w p ss) (hb : Below w.heap.size w W) : StrRow W p ss := fun i hi => by
  obtain ⟨b, off, e, hlt, hc⟩ := h i hi
  exact ⟨b, off, e, Nat.lt_of_lt_of_le hlt hb.size, (hb.cell (p := ⟨b, off + i, none⟩) hlt).trans hc⟩
/-- Its own row, untouched by what only adds. -/
theorem owns_later {w W : World} {B : Nat} {e : TypeId} {v : Value} {n : Nat} {cs : List Value} (h : w.ownsRow B e 1 v n cs) (hb : Below w.heap.size w W) : W.ownsRow B e 1 v n cs := by
  refine ⟨h.1, ?_⟩
  rcases h.2 with h' | ⟨g, cap, cur, hv, hB, hg, rest⟩
  · exact .inl h'
  · have hlt : g < w.heap.size := (Array.getElem?_eq_some_iff.1 hg).1
    exact .inr ⟨g, cap, cur, hv, hB, by rw [hb.block g hlt]; exact hg, rest⟩
/-- What Cut leaves, at any text: the texts in a row of its own. -/
def CutRow (W : World) (s : ByteArray) (e : Ending) (w' : World) : Prop := ∃ p c, e = .returned (.tuple #[.slice p (cutL s.data.toList).length c, .int .i64 (cutE s.data.toList)]) ∧ Below W.heap.size W w' ∧
  w'.ownsRow W.heap.size 9 1 (.slice p (cutL s.data.toList).length c) (cutL s.data.toList).length ((asTexts (cutL s.data.toList)).map Value.string)
theorem cut_row (s : ByteArray) (W : World) (hs : s.size < 4294967281) (hM : MaxS W) : Calls Tryz.prog 65 #[.string s] W (CutRow W s) := by
  by_cases h0 : 1 ≤ s.size
  · have hne : s.data.toList.isEmpty = false := by
      have := (bytes_some s h0).2
      rw [ByteArray.toList_eq] at this; exact this
    cases hl : (s.data.toList.getLast? == some 10)
    · have e1 : cutL s.data.toList = [] := by unfold cutL; rw [hne, hl]; rfl
      have e2 : cutE s.data.toList = 4 := by unfold cutE cutOk; rw [hne, hl]; rfl
      refine (cut_bad s W (by unfold maxLen; omega) h0 hl).mono fun e w' ⟨he, hw⟩ => ⟨none, 0, ?_, hw ▸ Below.refl _ _, ?_⟩
      · rw [e1, e2]; exact he
      · rw [e1]; exact World.ownsRow_nil _ _ _ _
    · have e1 : cutL s.data.toList = piecesL s.data.toList.dropLast := by unfold cutL; rw [hne, hl]; rfl
      have e2 : cutE s.data.toList = 0 := by unfold cutE cutOk; rw [hne, hl]; rfl
      refine (cut_good s W hs hM h0 hl).mono fun e w' ⟨he, hw⟩ => ⟨some ⟨W.heap.size, 0, none⟩, (piecesL s.data.toList.dropLast).length, ?_, ?_, ?_⟩
      · rw [e1, e2]; exact he
      · rw [hw]; exact (Below.refl _ _).alloc (Nat.le_refl _) _
      · rw [e1, hw]
        have hlen : (piecesL s.data.toList.dropLast).length ≤ maxLen := by
          have h1 := join_len (piecesL s.data.toList.dropLast)
          rw [join_cut _ hl, len_size] at h1
          have h2 : (piecesL s.data.toList.dropLast).length ≤ ((piecesL s.data.toList.dropLast).map (fun l => l.length + 1)).sum := by
            generalize piecesL s.data.toList.dropLast = ls
            induction ls with
            | nil => simp
            | cons x xs ih => simp only [List.map_cons, List.sum_cons, List.length_cons]; omega
          unfold maxLen; omega
        have := World.ownsRow_lit (base := W.heap.size) (e := 9) (size := 1) W ((asTexts (piecesL s.data.toList.dropLast)).map Value.string).toArray (piecesL s.data.toList.dropLast).length (Nat.le_refl _) hlen (by simp [asTexts])
        simpa [rowOf] using this
  · have hl : s.data.toList = [] := List.eq_nil_of_length_eq_zero (by rw [len_size]; omega)
    have e1 : cutL s.data.toList = [] := by rw [hl]; rfl
    have e2 : cutE s.data.toList = 0 := by rw [hl]; rfl
    refine (cut_empty s W h0).mono fun e w' ⟨he, hw⟩ => ⟨none, 0, ?_, hw ▸ Below.refl _ _, ?_⟩
    · rw [e1, e2]; exact he
    · rw [e1]; exact World.ownsRow_nil _ _ _ _
end Go.Proofs.YtenbbefahpkhpaaGreatDoor
/- A policy's text, plainly: what is written is read back, and nothing else is read. -/
namespace Go.Proofs.YtenbbefahpkhpaaGreatDoor
open Go

def lineOf (x : Vw) : List UInt8 := x.s ++ 32 :: textN x.c
def printL (l : List Vw) : List UInt8 := joinL (l.map lineOf)
/-- Is s the text of the policy of these viewers? -/
def Spells (s : List UInt8) (l : List Vw) : Prop := okL l ∧ Rising l ∧ Lo64 l ∧ printL l = s
theorem nameCh_not (c : UInt8) (h : nameCh c = true) : c ≠ 10 ∧ c ≠ 32 := by
  rw [nameCh_iff] at h
  constructor
  · rintro rfl; revert h; decide
  · rintro rfl; revert h; decide
theorem name_no {s : List UInt8} (h : nameL s = true) : ∀ c ∈ s, c ≠ 10 ∧ c ≠ 32 := by
  unfold nameL at h
  simp only [Bool.and_eq_true] at h
  exact fun c hc => nameCh_not c (List.all_eq_true.1 h.2 c hc)
theorem digs_no (u : Nat) : ∀ c ∈ Lib.decDigits u, c ≠ 10 ∧ c ≠ 32 := fun c hc => by
  have h := List.all_eq_true.1 (dec_digs u) c hc
  unfold isDig at h
  constructor
  · rintro rfl; revert h; decide
  · rintro rfl; revert h; decide
theorem join_mem : ∀ (ls : List (List UInt8)) (sep : List UInt8) (c : UInt8), c ∈ Lib.join ls sep → c ∈ sep ∨ ∃ l ∈ ls, c ∈ l
  | [], sep, c, h => by rw [Lib.join_nil] at h; simp at h
  | [x], sep, c, h => by rw [Lib.join_one] at h; exact .inr ⟨x, by simp, h⟩
  | x :: y :: ls, sep, c, h => by
    have e : Lib.join (x :: y :: ls) sep = x ++ (sep ++ Lib.join (y :: ls) sep) := by
      rw [Lib.join_cons, Lib.join_cons]; simp [Lib.joinTail]
    rw [e, List.mem_append, List.mem_append] at h
    rcases h with h | h | h
    · exact .inr ⟨x, by simp, h⟩
    · exact .inl h
    · rcases join_mem (y :: ls) sep c h with h | ⟨l, hl, hc⟩
      · exact .inl h
      · exact .inr ⟨l, by simp at hl ⊢; exact .inr hl, hc⟩
theorem text_no (a : Nat) : ∀ c ∈ textN a, c ≠ 10 ∧ c ≠ 32 := fun c hc => by
  unfold textN at hc
  split at hc
  · rw [List.mem_singleton.1 hc]; decide
  · rcases join_mem _ _ c hc with h | ⟨l, hl, h⟩
    · rw [List.mem_singleton.1 h]; decide
    · obtain ⟨u, _, rfl⟩ := List.mem_map.1 hl
      exact digs_no u c h
theorem line_no {x : Vw} (h : nameL x.s = true) : (lineOf x).contains 10 = false := by
  rw [← Bool.not_eq_true, List.contains_iff_mem]
  intro hm
  unfold lineOf at hm
  rw [List.mem_append, List.mem_cons] at hm
  rcases hm with hm | hm | hm
  · exact (name_no h 10 hm).1 rfl
  · cases hm
  · exact (text_no x.c 10 hm).1 rfl
/-- What stands ahead of the first blank, and behind it. -/
def nameOf (t : List UInt8) : List UInt8 := t.takeWhile (· != 32)
def wordAt (t : List UInt8) : List UInt8 := (t.dropWhile (· != 32)).drop 1
theorem name_line {x : Vw} (h : nameL x.s = true) : nameOf (lineOf x) = x.s ∧ wordAt (lineOf x) = textN x.c := by
  have hp : ∀ c ∈ x.s, (c != 32) = true := fun c hc => by simpa using (name_no h c hc).2
  unfold nameOf wordAt lineOf
  rw [List.takeWhile_append_of_pos hp, List.dropWhile_append_of_pos hp]
  simp
/-- The lines that a text is read as. -/
inductive Reads : List (List UInt8) → List Vw → Prop
  | nil : Reads [] []
  | snoc {ts : List (List UInt8)} {l : List Vw} {t : List UInt8} {a : Nat} (h : Reads ts l) (ha : a < 18446744073709551616) (e : textN a = wordAt t) : Reads (ts ++ [t]) (l ++ [⟨nameOf t, a⟩])
theorem Reads.lo {ts : List (List UInt8)} {l : List Vw} (h : Reads ts l) : Lo64 l := by
  induction h with
  | nil => exact fun x hx => by simp at hx
  | snoc _ ha _ ih =>
    intro x hx
    rw [List.mem_append, List.mem_singleton] at hx
    rcases hx with hx | rfl
    · exact ih x hx
    · exact ha
theorem Reads.len {ts : List (List UInt8)} {l : List Vw} (h : Reads ts l) : ts.length = l.length := by
  induction h with
  | nil => rfl
  | snoc _ _ _ ih => simp [ih]
/-- The lines of a policy's text are read as its viewers. -/
theorem reads_lines {ts : List (List UInt8)} {l : List Vw} (h : Reads ts l) : ∀ (l' : List Vw) (k : Nat), (∀ x ∈ l', nameL x.s = true) → Lo64 l' → ts = (l'.map lineOf).take k → k ≤ l'.length → l = l'.take k := by
  induction h with
  | nil =>
    intro l' k _ _ e hk
    have : k = 0 := by
      have := congrArg List.length e
      simp at this
      omega
    subst this; rfl
  | @snoc ts l t a h ha e ih =>
    intro l' k hn hl he hk
    have hlen := congrArg List.length he
    rw [List.length_append, List.length_take, List.length_map] at hlen
    simp only [List.length_singleton] at hlen
    obtain ⟨m, rfl⟩ : ∃ m, k = m + 1 := ⟨k - 1, by omega⟩
    have hm : m < l'.length := by omega
    rw [List.take_succ_eq_append_getElem (by rw [List.length_map]; exact hm)] at he
    obtain ⟨h1, h2⟩ := List.append_inj' he rfl
    rw [List.take_succ_eq_append_getElem hm, ← ih l' m hn hl h1 (by omega)]
    congr 1
    injection h2 with h2 _
    rw [List.getElem_map] at h2
    have hx := List.getElem_mem hm
    obtain ⟨n1, n2⟩ := name_line (hn _ hx)
    rw [h2, n2] at e
    have := text_inj a l'[m].c ha (hl _ hx) e
    rw [h2, n1, this]
theorem cut_print {l : List Vw} (hn : ∀ x ∈ l, nameL x.s = true) : cutL (printL l) = l.map lineOf ∧ cutE (printL l) = 0 := by
  cases l with
  | nil => exact ⟨rfl, rfl⟩
  | cons x r =>
    have hne : (x :: r).map lineOf ≠ [] := by simp
    have hlast := join_last _ hne
    have hnn : (printL (x :: r)).isEmpty = false := by
      unfold printL
      cases e : joinL ((x :: r).map lineOf) with
      | nil => rw [e] at hlast; cases hlast
      | cons a t => rfl
    have hcj := cut_join ((x :: r).map lineOf) (fun l hl => by
      obtain ⟨y, hy, rfl⟩ := List.mem_map.1 hl
      exact line_no (hn y hy)) hne
    unfold cutL cutE cutOk
    rw [hnn, show ((printL (x :: r)).getLast? == some 10) = true by unfold printL; rw [hlast]; rfl]
    exact ⟨hcj, rfl⟩
/-- A text that no policy has. -/
theorem none_of_cut {s : List UInt8} (h : cutE s ≠ 0) : ¬ ∃ l, Spells s l := by
  rintro ⟨l, ho, hr, hl, rfl⟩
  exact h (cut_print ho.2.2).2
theorem none_of_piece {s : List UInt8} {k : Nat} (hk : k < (cutL s).length) (h : ∀ b, b < 18446744073709551616 → textN b ≠ wordAt (cutL s)[k]) : ¬ ∃ l, Spells s l := by
  rintro ⟨l, ho, hr, hl, rfl⟩
  have e := (cut_print ho.2.2).1
  rw [List.getElem_of_eq e hk, List.getElem_map] at h
  rw [e, List.length_map] at hk
  have hx := List.getElem_mem hk
  exact h l[k].c (hl _ hx) (name_line (ho.2.2 _ hx)).2.symm
/-- All lines are read: it is these viewers' text or nobody's. -/
theorem one_of_reads {s : List UInt8} {l l' : List Vw} (h : Reads (cutL s) l) (hs : Spells s l') : l' = l := by
  obtain ⟨ho, hr, hl, rfl⟩ := hs
  have e := (cut_print ho.2.2).1
  have := reads_lines h l' l'.length ho.2.2 hl (by rw [e, ← List.length_map (f := lineOf), List.take_length]) (Nat.le_refl _)
  rw [this, List.take_length]
theorem spells_of {s : List UInt8} {l : List Vw} (h : Reads (cutL s) l) : (okL l ∧ printL (sortV l) = s → Spells s (sortV l)) ∧ (¬ okL l → ¬ ∃ l', Spells s l') ∧ (printL (sortV l) ≠ s → ¬ ∃ l', Spells s l') := by
  refine ⟨fun ⟨ho, hp⟩ => ⟨okL_perm (sortV_perm l).symm ho, sortV_rising ho.2.1, fun x hx => h.lo x ((sortV_perm l).mem_iff.1 hx), hp⟩, ?_, ?_⟩
  · rintro hno ⟨l', hs⟩
    have := one_of_reads h hs
    subst this
    exact hno hs.1
  · rintro hp ⟨l', hs⟩
    have := one_of_reads h hs
    subst this
    rw [sortV_self hs.2.1] at hp
    exact hp hs.2.2.2
theorem count_join : ∀ ls : List (List UInt8), (∀ l ∈ ls, l.contains 10 = false) → (joinL ls).count 10 = ls.length
  | [], _ => rfl
  | x :: ls, h => by
    have ih := count_join ls (fun l hl => h l (List.mem_cons_of_mem _ hl))
    have hx := h x (List.mem_cons_self ..)
    have h0 : x.count 10 = 0 := List.count_eq_zero.2 (fun hm => by rw [List.contains_iff_mem.2 hm] at hx; cases hx)
    rw [join_cons, List.count_append, List.count_cons, ih, h0]
    simp
theorem none_of_many {s : List UInt8} (h : 64 < s.count 10) : ¬ ∃ l, Spells s l := by
  rintro ⟨l, ho, hr, hl, rfl⟩
  unfold printL at h
  rw [count_join] at h
  · rw [List.length_map] at h
    have := ho.1
    omega
  · intro y hy
    obtain ⟨x, hx, rfl⟩ := List.mem_map.1 hy
    exact line_no (ho.2.2 x hx)
/-- One text, one policy. -/
theorem spells_one {s : List UInt8} {l l' : List Vw} (h : Spells s l) (h' : Spells s l') : l = l' := by
  have hlen : l.length = l'.length := by
    have e1 := (cut_print h.1.2.2).1
    have e2 := (cut_print h'.1.2.2).1
    rw [h.2.2.2] at e1
    rw [h'.2.2.2] at e2
    have := congrArg List.length (e1.symm.trans e2)
    simpa using this
  have e1 := (cut_print h.1.2.2).1
  have e2 := (cut_print h'.1.2.2).1
  rw [h.2.2.2] at e1
  rw [h'.2.2.2] at e2
  have e := e1.symm.trans e2
  apply List.ext_getElem hlen
  intro i hi hi'
  have hh : (l.map lineOf)[i]'(by simpa using hi) = (l'.map lineOf)[i]'(by simpa using hi') := List.getElem_of_eq e _
  rw [List.getElem_map, List.getElem_map] at hh
  obtain ⟨a1, a2⟩ := name_line (h.1.2.2 _ (List.getElem_mem hi))
  obtain ⟨b1, b2⟩ := name_line (h'.1.2.2 _ (List.getElem_mem hi'))
  have c1 : l[i].s = l'[i].s := by rw [← a1, ← b1, hh]
  have c2 : l[i].c = l'[i].c := text_inj _ _ (h.2.2.1 _ (List.getElem_mem hi)) (h'.2.2.1 _ (List.getElem_mem hi')) (by rw [← a2, ← b2, hh])
  cases hx : l[i]; cases hy : l'[i]
  rw [hx, hy] at c1 c2
  simp_all
end Go.Proofs.YtenbbefahpkhpaaGreatDoor
/- A line parted at its first blank; how many lines a text has: plainly. -/
namespace Go.Proofs.YtenbbefahpkhpaaGreatDoor
open Go

theorem cut_blank : ∀ l : List UInt8, (Lib.cut l [32]).1 = nameOf l ∧ (Lib.cut l [32]).2.1 = wordAt l
  | [] => by decide
  | b :: l => by
    obtain ⟨h1, h2⟩ := cut_blank l
    by_cases hb : b = 32
    · subst hb
      have e : Lib.index (32 :: l) [32] = 0 := by simp [Lib.index]
      unfold Lib.cut nameOf wordAt
      rw [e]; simp
    · have hp : List.isPrefixOf [32] (b :: l) = false := by simp [List.isPrefixOf, Ne.symm hb]
      have hn : nameOf (b :: l) = b :: nameOf l := by unfold nameOf; rw [List.takeWhile_cons_of_pos (by simpa using hb)]
      have hw : wordAt (b :: l) = wordAt l := by unfold wordAt; rw [List.dropWhile_cons_of_pos (by simpa using hb)]
      rw [hn, hw, ← h1, ← h2]
      have hge := Lib.index_ge l [32]
      by_cases hi : Lib.index l [32] = -1
      · have e : Lib.index (b :: l) [32] = -1 := by rw [Lib.index, hp, hi]; rfl
        unfold Lib.cut
        rw [e, hi]; simp
      · obtain ⟨i, hi'⟩ : ∃ i : Nat, Lib.index l [32] = i := ⟨(Lib.index l [32]).toNat, by omega⟩
        have e : Lib.index (b :: l) [32] = ((i + 1 : Nat) : Int) := by
          rw [Lib.index, hp, hi']
          have : ((i : Int) == -1) = false := beq_false_of_ne (by omega)
          rw [this]; simp
        unfold Lib.cut
        rw [e, hi', if_pos (by omega), if_pos (by omega)]
        simp
theorem nameOf_le (l : List UInt8) : (nameOf l).length ≤ l.length := (List.takeWhile_sublist _).length_le
theorem wordAt_le (l : List UInt8) : (wordAt l).length ≤ l.length := by
  unfold wordAt
  have := (List.dropWhile_sublist (p := (· != 32)) (l := l)).length_le
  rw [List.length_drop]; omega
theorem sum_len : ∀ ls : List (List UInt8), ls.length ≤ (ls.map (fun l => l.length + 1)).sum ∧ ∀ l ∈ ls, l.length ≤ (ls.map (fun l => l.length + 1)).sum
  | [] => by simp
  | x :: xs => by
    obtain ⟨h1, h2⟩ := sum_len xs
    simp only [List.map_cons, List.sum_cons, List.length_cons]
    refine ⟨by omega, fun l hl => ?_⟩
    rcases List.mem_cons.1 hl with rfl | hl
    · omega
    · have := h2 l hl; omega
theorem cut_len (l : List UInt8) : (cutL l).length ≤ l.length ∧ ∀ t ∈ cutL l, t.length ≤ l.length := by
  unfold cutL
  split
  · simp
  · split
    · rename_i _ h
      have e := join_cut l h
      have hj := join_len (piecesL l.dropLast)
      rw [e] at hj
      have := sum_len (piecesL l.dropLast)
      rw [← hj] at this
      exact this
    · simp
end Go.Proofs.YtenbbefahpkhpaaGreatDoor
/- A string's element facts. -/
namespace Go.Proofs.YtenbbefahpkhpaaGreatDoor
open Go Go.RowKit
end Go.Proofs.YtenbbefahpkhpaaGreatDoor
/- The library's contracts that the walks call, laid at this program by the shelf's own tool (plain mode), without its remarks. -/
namespace Go.Proofs
open Go.Shelf
def Tryz.lays190_ren : Go.Shelf.Ren := ⟨fun | 190 => 71 | 125 => 51 | 258 => 102 | 128 => 82 | 129 => 83 | 302 => 120 | 303 => 121 | 304 => 122 | 305 => 123 | 306 => 124 | 307 => 125 | 308 => 126 | 309 => 127 | 310 => 128 | 333 => 147 | 329 => 104 | 330 => 105 | 334 => 148 | 335 => 149 | 336 => 150 | 344 => 161 | n => n, fun | 31 => 33 | 9 => 9 | 3 => 3 | 46 => 51 | 0 => 0 | 51 => 115 | 53 => 24 | 4 => 4 | 183 => 108 | 182 => 107 | 131 => 112 | 5 => 5 | 218 => 130 | 222 => 134 | 228 => 151 | 229 => 152 | n => n, fun | n => n⟩
theorem Tryz.lays190 : Go.Proofs.Lays.n190 Tryz.prog Tryz.lays190_ren := {
  mixed := by kernel_rfl
  f125 := Tryz.func51.trans (congrArg some (by kernel_rfl))
  f128 := Tryz.func82.trans (congrArg some (by kernel_rfl))
  f129 := Tryz.func83.trans (congrArg some (by kernel_rfl))
  f190 := Tryz.func71.trans (congrArg some (by kernel_rfl))
  f258 := Tryz.func102.trans (congrArg some (by kernel_rfl))
  f302 := Tryz.func120.trans (congrArg some (by kernel_rfl))
  f303 := Tryz.func121.trans (congrArg some (by kernel_rfl))
  f304 := Tryz.func122.trans (congrArg some (by kernel_rfl))
  f305 := Tryz.func123.trans (congrArg some (by kernel_rfl))
  f306 := Tryz.func124.trans (congrArg some (by kernel_rfl))
  f307 := Tryz.func125.trans (congrArg some (by kernel_rfl))
  f308 := Tryz.func126.trans (congrArg some (by kernel_rfl))
  f309 := Tryz.func127.trans (congrArg some (by kernel_rfl))
  f310 := Tryz.func128.trans (congrArg some (by kernel_rfl))
  f329 := Tryz.func104.trans (congrArg some (by kernel_rfl))
  f330 := Tryz.func105.trans (congrArg some (by kernel_rfl))
  f333 := Tryz.func147.trans (congrArg some (by kernel_rfl))
  f334 := Tryz.func148.trans (congrArg some (by kernel_rfl))
  f335 := Tryz.func149.trans (congrArg some (by kernel_rfl))
  f336 := Tryz.func150.trans (congrArg some (by kernel_rfl))
  f344 := Tryz.func161.trans (congrArg some (by kernel_rfl))
  t0 := Tryz.underlying0
  a0 := Tryz.isAgg0
  z0 := Tryz.sizeOf0
  v0 := Tryz.zeroValue0
  t3 := Tryz.underlying3
  a3 := Tryz.isAgg3
  z3 := Tryz.sizeOf3
  v3 := Tryz.zeroValue3
  t4 := Tryz.underlying4
  a4 := Tryz.isAgg4
  z4 := Tryz.sizeOf4
  v4 := Tryz.zeroValue4
  t5 := Tryz.underlying5
  a5 := Tryz.isAgg5
  z5 := Tryz.sizeOf5
  v5 := Tryz.zeroValue5
  t9 := Tryz.underlying9
  a9 := Tryz.isAgg9
  z9 := Tryz.sizeOf9
  v9 := Tryz.zeroValue9
  t31 := Tryz.underlying33
  a31 := Tryz.isAgg33
  z31 := Tryz.sizeOf33
  v31 := Tryz.zeroValue33
  t46 := Tryz.underlying51
  a46 := Tryz.isAgg51
  z46 := Tryz.sizeOf51
  v46 := Tryz.zeroValue51
  t51 := Tryz.underlying115
  a51 := Tryz.isAgg115
  z51 := Tryz.sizeOf115
  v51 := Tryz.zeroValue115
  t53 := Tryz.underlying24
  a53 := Tryz.isAgg24
  z53 := Tryz.sizeOf24
  v53 := Tryz.zeroValue24
  t131 := Tryz.underlying112
  a131 := Tryz.isAgg112
  z131 := Tryz.sizeOf112
  v131 := Tryz.zeroValue112
  t182 := Tryz.underlying107
  a182 := Tryz.isAgg107
  z182 := Tryz.sizeOf107
  v182 := Tryz.zeroValue107
  t183 := Tryz.underlying108
  a183 := Tryz.isAgg108
  z183 := Tryz.sizeOf108
  v183 := Tryz.zeroValue108
  t218 := Tryz.underlying130
  a218 := Tryz.isAgg130
  z218 := Tryz.sizeOf130
  v218 := Tryz.zeroValue130
  t222 := Tryz.underlying134
  a222 := Tryz.isAgg134
  z222 := Tryz.sizeOf134
  v222 := Tryz.zeroValue134
  t228 := Tryz.underlying151
  a228 := Tryz.isAgg151
  z228 := Tryz.sizeOf151
  v228 := Tryz.zeroValue151
  t229 := Tryz.underlying152
  a229 := Tryz.isAgg152
  z229 := Tryz.sizeOf152
  v229 := Tryz.zeroValue152 }
open Go.Sort Go.RowKit in
theorem Tryz.slices_Sort_string (blk off cap : Nat) (ss : List (List UInt8)) (w : World) (hH : Holds encStr w blk off ss.toArray) (hblk : blk < w.heap.size) (hsz : ss.length < 4611686018427387904) :
    Calls Tryz.prog 71 #[.slice (some ⟨blk, off, none⟩) ss.length cap] w fun e w' =>
      e = .returned (.tuple #[]) ∧ ∃ n os, w' = grow (putRow encStr (Sort.ahead w n) blk off (ss.mergeSort fun x y => decide (x ≤ y)).toArray) os := Any.slices_Sort_string Tryz.lays190 blk off cap ss w hH hblk hsz
open Go.RowKit Go.Sort in
theorem Tryz.slices_Sort_string_none (p : Option Addr) (cap : Nat) (w : World) :
    Calls Tryz.prog 71 #[.slice p 0 cap] w fun e w' => e = .returned (.tuple #[]) ∧ w' = w := Any.slices_Sort_string_none Tryz.lays190 p cap w
end Go.Proofs
/- slices.Sorted(maps.Keys(m)) over the shelf's contracts, laid at this program by hand; a policy in memory. -/
namespace Go.Proofs.YtenbbefahpkhpaaGreatDoor
open Go Go.RowKit Go.Maps Go.Sort Go.Shelf

def ks_ren : Go.Shelf.Ren := ⟨fun | 6 => 48 | 7 => 49 | 8 => 70 | 9 => 71 | 10 => 72 | 11 => 101 | n => n, fun | 0 => 0 | 3 => 25 | 4 => 4 | 23 => 56 | 24 => 33 | 26 => 9 | 27 => 80 | 28 => 81 | 33 => 67 | n => n, fun n => n⟩
theorem ks6 : SlLaysZ.n6 Tryz.prog ks_ren where
  mixed := by kernel_rfl
  f6 := ⟨"slices.Sorted[string]", by decide, Tryz.func48.trans (congrArg some (by kernel_rfl))⟩
  f8 := ⟨"slices.Collect[string]", by decide, Tryz.func70.trans (congrArg some (by kernel_rfl))⟩
  f11 := ⟨"slices.AppendSeq[[]string,string]", by decide, Tryz.func101.trans (congrArg some (by kernel_rfl))⟩
  t0 := Tryz.underlying0
  a0 := Tryz.isAgg0
  z0 := Tryz.sizeOf0
  v0 := Tryz.zeroValue0
  t24 := Tryz.underlying33
  a24 := Tryz.isAgg33
  z24 := Tryz.sizeOf33
  v24 := Tryz.zeroValue33
  t26 := Tryz.underlying9
  a26 := Tryz.isAgg9
  z26 := Tryz.sizeOf9
  v26 := Tryz.zeroValue9
  t28 := Tryz.underlying81
  a28 := Tryz.isAgg81
  z28 := Tryz.sizeOf81
  v28 := Tryz.zeroValue81
  i26 := by kernel_rfl
theorem ks7 : SlLaysZ.n7 Tryz.prog ks_ren where
  mixed := by kernel_rfl
  f7 := ⟨"maps.Keys[map[string]scrim/api.Label,string,scrim/api.Label]", by decide, Tryz.func49.trans (congrArg some (by kernel_rfl))⟩
  f10 := ⟨"maps.Keys[map[string]scrim/api.Label,string,scrim/api.Label]$1", by decide, Tryz.func72.trans (congrArg some (by kernel_rfl))⟩
  t0 := Tryz.underlying0
  a0 := Tryz.isAgg0
  z0 := Tryz.sizeOf0
  v0 := Tryz.zeroValue0
  t4 := Tryz.underlying4
  a4 := Tryz.isAgg4
  z4 := Tryz.sizeOf4
  v4 := Tryz.zeroValue4
  t23 := Tryz.underlying56
  a23 := Tryz.isAgg56
  z23 := Tryz.sizeOf56
  v23 := Tryz.zeroValue56
  t26 := Tryz.underlying9
  a26 := Tryz.isAgg9
  z26 := Tryz.sizeOf9
  v26 := Tryz.zeroValue9
  t27 := Tryz.underlying80
  a27 := Tryz.isAgg80
  z27 := Tryz.sizeOf80
  v27 := Tryz.zeroValue80
  t28 := Tryz.underlying81
  a28 := Tryz.isAgg81
  z28 := Tryz.sizeOf81
  v28 := Tryz.zeroValue81
  t33 := Tryz.underlying67
  a33 := Tryz.isAgg67
  z33 := Tryz.sizeOf67
  v33 := Tryz.zeroValue67

/-- slices.Sort's two contracts at this program, at the fence that asks nothing. -/
theorem sorts_wide (m : Nat) : AnyZ.SortsIn Tryz.prog ks_ren Fence.wide m :=
  ⟨fun blk off cap ss W hH hblk hsz => callsIn_wide.2 (Tryz.slices_Sort_string blk off cap ss W hH hblk hsz),
   fun p cap W => callsIn_wide.2 (Tryz.slices_Sort_string_none p cap W)⟩

abbrev LT : TypeId := 25
theorem strLaw : Keyed Tryz.prog 9 := string_keyed Tryz.underlying9
theorem zeroLab (w : World) : (zeroValue 25).run Tryz.prog w = .ok (.int .u64 0) w := by kernel_rfl
/-- The map at block b holds these viewers. -/
def MapAt (w : World) (b : Nat) (l : List Vw) : Prop := ∃ (n : Nat) (D : DataW Unit), n ≤ 64 ∧ w.ownsMap Tryz.prog 9 (plainElem Tryz.prog 25) b n D ∧ MapIs D l
theorem MapAt.later {w W : World} {b : Nat} {l : List Vw} (h : MapAt w b l) (hb : Below w.heap.size w W) : MapAt W b l := by
  obtain ⟨n, D, hn, hown, hm⟩ := h
  have hbl := hown.lt
  obtain ⟨es, clock, hb', Ft, hs, hD⟩ := hown
  exact ⟨n, D, hn, ⟨es, clock, (hb.block b hbl).trans hb', Ft, hs, hD⟩, hm⟩
theorem MapAt.lt {w : World} {b : Nat} {l : List Vw} (h : MapAt w b l) : b < w.heap.size := by
  obtain ⟨n, D, hn, hown, hm⟩ := h
  exact hown.lt
/-- A policy at a pointer: its viewers, rising by name. -/
structure PolAt (w : World) (v : Value) (l : List Vw) : Prop where
  ok : okL l
  up : Rising l
  lo : Lo64 l
  at' : ∃ p b, v = .pointer (some ⟨p, 0, none⟩) ∧ p < w.heap.size ∧ w.cell? ⟨p, 0, none⟩ = some (.map (some b)) ∧ MapAt w b l
theorem PolAt.later {w W : World} {v : Value} {l : List Vw} (h : PolAt w v l) (hb : Below w.heap.size w W) : PolAt W v l := by
  obtain ⟨p, b, e, hp, hc, hm⟩ := h.at'
  exact ⟨h.ok, h.up, h.lo, p, b, e, Nat.lt_of_lt_of_le hp hb.size, (hb.cell (p := ⟨p, 0, none⟩) hp).trans hc, hm.later hb⟩

theorem strKeys_perm {w : World} {b n : Nat} {D : DataW Unit} {R : Value → Option (DataW Unit × List MemPlace)} {l : List Vw} (hown : w.ownsMap Tryz.prog 9 R b n D) (hn : (names l).Nodup) (hm : MapIs D l) : (names l).Perm (strKeys D) := by
  obtain ⟨es, e, hes⟩ := hown.tidy strLaw
  obtain ⟨es', e', hk⟩ := hown.keysOf
  subst e
  injection e' with e'
  subst e'
  exact perm_strKeys hes (fun p hp => by
    obtain ⟨key, hkey⟩ := hk p hp
    obtain ⟨x, _, hx, _⟩ := keyOf_str Tryz.underlying9 hkey
    exact ⟨x, hx⟩) hn (fun x => (hm.has x).symm)
theorem size_strKeys (D : DataW Unit) (h : IsMap D) : Maps.size D = (strKeys D).length := by
  obtain ⟨es, rfl⟩ := h
  simp [Maps.size, strKeys]

set_option maxHeartbeats 1000000 in
theorem keys_any (b : Nat) (w : World) : Calls Tryz.prog 49 #[.map (some b)] w fun e w' => e = .returned (.func (.func 72) #[] #[.pointer (some ⟨w.heap.size, 0, none⟩)]) ∧ w' = w.alloc (.cells #[.map (some b)] 56) :=
  (callsIn_wide (n := 5)).1 (AnyZ.keys_in ks7 Fence.wide 5 trivial rfl (some b) w)

set_option maxHeartbeats 1000000 in
/-- The names of the map's viewers, rising, in a row of the call's own. -/
theorem sorted_any (b Bm : Nat) (l : List Vw) (W : World) (hm : MapAt W b l) (hBm : Bm < W.heap.size) (hc : W.cell? ⟨Bm, 0, none⟩ = some (.map (some b))) (hr : Rising l) (h64 : l.length ≤ 64) :
    Calls Tryz.prog 48 #[.func (.func 72) #[] #[.pointer (some ⟨Bm, 0, none⟩)]] W fun e w' => ∃ v, e = .returned v ∧
      w'.ownsRow W.heap.size 9 1 v l.length ((names l).map encStr) ∧ Below W.heap.size W w' := by
  obtain ⟨n, D, hn, hown, hD⟩ := hm
  have hp := strKeys_perm hown hr.nodup hD
  have hsz : Maps.size D = l.length := by rw [size_strKeys D hD.map, ← hp.length_eq]; simp [names]
  have hseq : SeqGives Fence.wide 2 Tryz.prog 72 #[.pointer (some ⟨Bm, 0, none⟩)] encStr (fun ss => ss.Perm (strKeys D)) (Maps.size D) W :=
    AnyZ.keys_gives (ρ := ks_ren) { ks7 with } Fence.wide _ trivial rfl (by omega) Bm b n D _ hBm hc hown
  have cS := AnyZ.sorted_in ks6 Fence.wide 5 trivial trivial trivial trivial rfl (by omega) (sorts_wide _) (enters_of Tryz.func71 (by kernel_rfl) rfl) 72 #[.pointer (some ⟨Bm, 0, none⟩)] trivial (enters_of Tryz.func72 (by kernel_rfl) rfl) _ _ (by rw [hsz]; unfold maxLen; omega) (by rw [hsz]; omega) _ hseq
  refine ((callsIn_wide (n := 5)).1 cS).mono ?_
  rintro e w' ⟨v, ss, rfl, hS, hrow, hnil, hb⟩
  have hl : ss.length = l.length := by rw [hS.length_eq, ← hp.length_eq]; simp [names]
  have hs := names_sorted hr (hS.trans hp.symm)
  rw [hl, hs] at hrow
  exact ⟨v, rfl, hrow, hb⟩
end Go.Proofs.YtenbbefahpkhpaaGreatDoor
/- append to a row of the call's own, with the row's block told: the old one, or a new one. No program. -/
namespace Go.Proofs.YtenbbefahpkhpaaGreatDoor
open Go Go.RowKit

section
variable {P : Program} (w : World)
theorem run_append_blk (base : Nat) (t ty e : TypeId) (i : TypeInfo) (z : Value) (size bytes : Nat) (ht : P.underlying t = some (.slice e)) (hi : P.info? e = some i) (hz : i.zero = some z)
    (hsize : i.size = size) (hby : i.bytes = bytes) (hzs : z.cells.size = size) (hsz : 0 < size)
    (v : Value) (n : Nat) (xs : List Value) (hown : w.ownsRow base e size v n xs)
    (a : Addr) (m c : Nat) (news : List Value) (hl : news.length = m * size) (hnews : ∀ j u, news[j]? = some u → w.cell? (a.add j) = some u) (h1 : ∀ u ∈ news, u.oneCell' = true)
    (h63 : n + m ≤ maxLen) (hbytes : (n + m) * bytes ≤ 140737488355328) (hbase : base ≤ w.heap.size) :
    ∃ v' w', (Builtin.append_ #[t, t] ty #[v, .slice (some a) m c]).run P w = .ok v' w' ∧ w'.ownsRow base e size v' (n + m) (xs ++ news) ∧ w.grownBy w' v.ownBlock ∧
      (v'.ownBlock = v.ownBlock ∨ v'.ownBlock = some w.heap.size) := by
  obtain ⟨v', w', hr, h2, h3, h4⟩ := run_append_own (P := P) w base t ty e i z size bytes ht hi hz hsize hby hzs hsz v n xs hown a m c news hl hnews h1 h63 hbytes hbase
  refine ⟨v', w', hr, h2, h3, ?_⟩
  subst hsize
  subst hby
  have hsmall : n + m ≤ 9223372036854775807 := by simp only [maxLen] at h63; omega
  have hown0 := hown
  rcases hown.2 with ⟨rfl, rfl⟩ | ⟨g, cap, cur, rfl, hbg, hg, hnc, hcm, hcs, htake⟩
  · by_cases hm : m = 0
    · rw [h4.2 ⟨rfl, hm⟩]; exact .inl rfl
    · have hr2 := run_append_nil (P := P) w t ty e i z ht hi hz a m c news hl hnews (by omega) (by omega) (by have hb := hbytes; simp only [Nat.zero_add] at hb; omega)
      rw [hr] at hr2
      injection hr2 with e1 _
      rw [e1]; exact .inr rfl
  · by_cases hroom : n + m ≤ cap
    · have hfit : n * i.size + news.length ≤ cur.size := by rw [hl, hcs, ← Nat.add_mul]; exact Nat.mul_le_mul_right _ hroom
      have hr2 := run_append_room (P := P) w t ty e i ht hi g n cap cur hg a m c news hl hnews h1 hroom hfit
      rw [hr] at hr2
      injection hr2 with e1 _
      rw [e1]; exact .inl rfl
    · have holds : ∀ j u, xs[j]? = some u → w.cell? ((⟨g, 0, none⟩ : Addr).add j) = some u := hown0.cells (g := g) rfl
      have hr2 := run_append_grow (P := P) w t ty e i z ht hi hz ⟨g, 0, none⟩ n cap xs hown0.1 holds a m c news hl hnews (by omega) (by omega) (growslice_fits (by omega) hbytes)
      rw [hr] at hr2
      injection hr2 with e1 _
      rw [e1]; exact .inr rfl

theorem wpList_append_blk {ops : Array Oper} {rest : List Oper} {o : Oper} {a : Act} {Q : Exit → Act → World → Prop} (hgd : o.guard = none) (s x : Operand) (t : TypeId)
    (ho : o.op = .call { callee := .builtin .append, args := #[s, x], argTypes := #[t, t] })
    (base : Nat) (e : TypeId) (i : TypeInfo) (z : Value) (size bytes : Nat) (ht : P.underlying t = some (.slice e)) (hi : P.info? e = some i) (hz : i.zero = some z)
    (hsize : i.size = size) (hby : i.bytes = bytes) (hzs : z.cells.size = size) (hsz : 0 < size)
    (v : Value) (n : Nat) (xs : List Value) (hs : a.eval s = v) (hown : w.ownsRow base e size v n xs)
    (ad : Addr) (m c : Nat) (news : List Value) (hx : a.eval x = .slice (some ad) m c) (hl : news.length = m * size) (hnews : ∀ j u, news[j]? = some u → w.cell? (ad.add j) = some u) (h1 : ∀ u ∈ news, u.oneCell' = true)
    (h63 : n + m ≤ maxLen) (hbytes : (n + m) * bytes ≤ 140737488355328) (hbase : base ≤ w.heap.size)
    (h : ∀ v' w', w'.ownsRow base e size v' (n + m) (xs ++ news) → w.grownBy w' v.ownBlock → (v'.ownBlock = v.ownBlock ∨ v'.ownBlock = some w.heap.size) → wpList P ops Q rest (a.put o.dst v') w') : wpList P ops Q (o :: rest) a w :=
  wpList_plain hgd fun K hK => by
    obtain ⟨v', w', hr, h2, h3, h4⟩ := run_append_blk (P := P) w base t o.type e i z size bytes ht hi hz hsize hby hzs hsz v n xs hown ad m c news hl hnews h1 h63 hbytes hbase
    unfold Oper.wp execOp
    simp only [ho, resolve, invoke, builtin, Sem.run_bind, Sem.run_pure, Result.andThen_ok, List.map_toArray, List.map_cons, List.map_nil, hs, hx, hr]
    exact hK _ _ (h v' w' h2 h3 h4)
end
end Go.Proofs.YtenbbefahpkhpaaGreatDoor
/- Rows of viewers in memory: one that a slice points to; one that the call itself owns. -/
namespace Go.Proofs.YtenbbefahpkhpaaGreatDoor
open Go Go.RowKit

/-- A name as Go's string. -/
def bs (l : List UInt8) : ByteArray := ⟨l.toArray⟩
theorem bs_list (l : List UInt8) : (bs l).data.toList = l := by simp [bs]
theorem bs_size (l : List UInt8) : (bs l).size = l.length := by simp [bs, ByteArray.size]
theorem bs_of (b : ByteArray) : bs b.data.toList = b := by simp [bs]
theorem bs_inj {x y : List UInt8} (h : bs x = bs y) : x = y := by rw [← bs_list x, h, bs_list]
def Vw.vals (x : Vw) : List Value := [.string (bs x.s), .int .u64 x.c]
def Vw.agg (x : Vw) : Value := .agg #[.string (bs x.s), .int .u64 x.c]
/-- Names that a program may hold, numbers of 64 bits. -/
def Fit64 (l : List Vw) : Prop := ∀ x ∈ l, x.c < 18446744073709551616 ∧ x.s.length ≤ maxLen
theorem fit64_nil : Fit64 [] := fun x hx => by simp at hx
theorem Fit64.filter {l : List Vw} (h : Fit64 l) (p : Vw → Bool) : Fit64 (l.filter p) := fun x hx => h x (List.mem_filter.1 hx).1
theorem Fit64.perm {l l' : List Vw} (h : Fit64 l) (hp : l'.Perm l) : Fit64 l' := fun x hx => h x (hp.mem_iff.1 hx)
def VwAt (w : World) (b o : Nat) (x : Vw) : Prop := w.cell? ⟨b, o, none⟩ = some (.string (bs x.s)) ∧ w.cell? ⟨b, o + 1, none⟩ = some (.int .u64 x.c)
/-- The slice at p holds these viewers. -/
def VwRow (w : World) (p : Option Addr) (xs : List Vw) : Prop := ∀ i (h : i < xs.length), ∃ b off, p = some ⟨b, off, none⟩ ∧ b < w.heap.size ∧ VwAt w b (off + i * 2) xs[i]
theorem VwAt.below {w W : World} {b o : Nat} {x : Vw} {B : Nat} (h : VwAt w b o x) (hb : Below B w W) (hlt : b < B) : VwAt W b o x :=
  ⟨(hb.cell (p := ⟨b, o, none⟩) hlt).trans h.1, (hb.cell (p := ⟨b, o + 1, none⟩) hlt).trans h.2⟩
theorem VwRow.at {w : World} {p : Option Addr} {xs : List Vw} (h : VwRow w p xs) (i : Nat) (hi : i < xs.length) : ∃ b off, p = some ⟨b, off, none⟩ ∧ b < w.heap.size ∧ ∀ W, Below w.heap.size w W → VwAt W b (off + i * 2) xs[i] := by
  obtain ⟨b, off, e, hlt, hc⟩ := h i hi
  exact ⟨b, off, e, hlt, fun W hb => hc.below hb hlt⟩
theorem VwRow.later {w W : World} {p : Option Addr} {xs : List Vw} (h : VwRow w p xs) (hb : Below w.heap.size w W) : VwRow W p xs := fun i hi => by
  obtain ⟨b, off, e, hlt, hc⟩ := h i hi
  exact ⟨b, off, e, Nat.lt_of_lt_of_le hlt hb.size, hc.below hb hlt⟩
theorem vwRow_nil (w : World) (p : Option Addr) : VwRow w p [] := fun _ hi => absurd hi (Nat.not_lt_zero _)
/-- The cells of a list of viewers. -/
def flat (xs : List Vw) : List Value := xs.flatMap Vw.vals
theorem flat_cons (x : Vw) (xs : List Vw) : flat (x :: xs) = x.vals ++ flat xs := by unfold flat; rw [List.flatMap_cons]
theorem flat_snoc (xs : List Vw) (x : Vw) : flat (xs ++ [x]) = flat xs ++ x.vals := by simp [flat]
theorem flat_len : ∀ xs : List Vw, (flat xs).length = xs.length * 2
  | [] => rfl
  | x :: xs => by
    rw [flat_cons, List.length_append, flat_len xs, List.length_cons]
    simp [Vw.vals]; omega
theorem flat_at : ∀ (xs : List Vw) (i j : Nat) (h : i < xs.length), j < 2 → (flat xs)[i * 2 + j]? = (xs[i].vals)[j]?
  | x :: xs, 0, j, _, hj => by
    rw [flat_cons, Nat.zero_mul, Nat.zero_add, List.getElem?_append_left (by simp [Vw.vals]; exact hj)]; rfl
  | x :: xs, i + 1, j, h, hj => by
    have ih := flat_at xs i j (Nat.lt_of_succ_lt_succ h) hj
    rw [flat_cons, List.getElem?_append_right (by simp [Vw.vals]; omega)]
    have e : (i + 1) * 2 + j - (x.vals).length = i * 2 + j := by simp [Vw.vals]; omega
    rw [e, ih]; rfl
theorem vw_owned {W : World} {B : Nat} {e : TypeId} {v : Value} {n : Nat} {xs : List Vw} (hn : xs.length = n) (h : W.ownsRow B e 2 v n (flat xs)) : ∃ p c, v = .slice p n c ∧ VwRow W p xs := by
  subst hn
  rcases h.2 with ⟨hv, h0⟩ | ⟨g, cap, cur, hv, _⟩
  · refine ⟨none, 0, by rw [hv, h0], fun i hi => ?_⟩
    omega
  · refine ⟨some ⟨g, 0, none⟩, cap, hv, fun i hi => ?_⟩
    subst hv
    have h0 := (h.cellAt (i * 2 + 0) (by omega)).trans (flat_at xs i 0 hi (by omega))
    have h1 := (h.cellAt (i * 2 + 1) (by omega)).trans (flat_at xs i 1 hi (by omega))
    have hlt := World.block_lt_of_cell? W _ (show W.cell? ⟨g, i * 2 + 0, none⟩ = some (.string (bs xs[i].s)) from h0)
    refine ⟨g, 0, rfl, hlt, ?_⟩
    rw [Nat.zero_add]
    exact ⟨h0, h1⟩
/-- Its own row, untouched by what only adds. -/
theorem ownsAny_later {w W : World} {B z : Nat} {e : TypeId} {v : Value} {n : Nat} {cs : List Value} (h : w.ownsRow B e z v n cs) (hb : Below w.heap.size w W) : W.ownsRow B e z v n cs := by
  refine ⟨h.1, ?_⟩
  rcases h.2 with h' | ⟨g, cap, cur, hv, hB, hg, rest⟩
  · exact .inl h'
  · have hlt : g < w.heap.size := (Array.getElem?_eq_some_iff.1 hg).1
    exact .inr ⟨g, cap, cur, hv, hB, by rw [hb.block g hlt]; exact hg, rest⟩
theorem vwInfo : (Tryz.prog.info? 40).map (fun i => (i.zero, i.size, i.bytes)) = some (some (.agg #[.string ⟨#[]⟩, .int .u64 0]), 2, 24) := by kernel_rfl
/-- A row of names that the call owns. -/
def nameVals (ns : List (List UInt8)) : List Value := ns.map fun x => .string (bs x)
theorem nameVals_len (ns : List (List UInt8)) : (nameVals ns).length = ns.length := by simp [nameVals]
theorem encStr_names (ns : List (List UInt8)) : ns.map encStr = nameVals ns := rfl
/-- The slice at p holds these names. -/
def NmRow (w : World) (p : Option Addr) (ns : List (List UInt8)) : Prop := ∀ i (h : i < ns.length), ∃ b off, p = some ⟨b, off, none⟩ ∧ b < w.heap.size ∧ w.cell? ⟨b, off + i, none⟩ = some (.string (bs ns[i]))
theorem NmRow.at {w : World} {p : Option Addr} {ns : List (List UInt8)} (h : NmRow w p ns) (i : Nat) (hi : i < ns.length) : ∃ b off, p = some ⟨b, off, none⟩ ∧ ∀ W, Below w.heap.size w W → W.cell? ⟨b, off + i, none⟩ = some (.string (bs ns[i])) := by
  obtain ⟨b, off, e, hlt, hc⟩ := h i hi
  exact ⟨b, off, e, fun W hb => (hb.cell (p := ⟨b, off + i, none⟩) hlt).trans hc⟩
theorem NmRow.later {w W : World} {p : Option Addr} {ns : List (List UInt8)} (h : NmRow w p ns) (hb : Below w.heap.size w W) : NmRow W p ns := fun i hi => by
  obtain ⟨b, off, e, hlt, hc⟩ := h i hi
  exact ⟨b, off, e, Nat.lt_of_lt_of_le hlt hb.size, (hb.cell (p := ⟨b, off + i, none⟩) hlt).trans hc⟩
theorem nm_owned {W : World} {B : Nat} {e : TypeId} {v : Value} {n : Nat} {ns : List (List UInt8)} (hn : ns.length = n) (h : W.ownsRow B e 1 v n (nameVals ns)) : ∃ p c, v = .slice p n c ∧ NmRow W p ns := by
  subst hn
  rcases h.2 with ⟨hv, h0⟩ | ⟨g, cap, cur, hv, _⟩
  · refine ⟨none, 0, by rw [hv, h0], fun i hi => ?_⟩
    omega
  · refine ⟨some ⟨g, 0, none⟩, cap, hv, fun i hi => ?_⟩
    subst hv
    have hc := h.cellAt i (by omega)
    unfold nameVals at hc
    rw [List.getElem?_map, List.getElem?_eq_getElem hi] at hc
    have hlt := World.block_lt_of_cell? W _ (show W.cell? ⟨g, i, none⟩ = some (.string (bs ns[i])) from hc)
    exact ⟨g, 0, rfl, hlt, by rw [Nat.zero_add]; exact hc⟩
end Go.Proofs.YtenbbefahpkhpaaGreatDoor
