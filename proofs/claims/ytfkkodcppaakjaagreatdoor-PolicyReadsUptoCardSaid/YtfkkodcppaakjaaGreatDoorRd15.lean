/- Texts of the proof, merged: PoTextP, PoReadP, StrInfo. -/
import Derived.Test.YtfkkodcppaakjaaGreatDoorRd2
import Derived.Test.YtfkkodcppaakjaaGreatDoorRd6
import Derived.Test.YtfkkodcppaakjaaGreatDoorRd7
import Derived.Test.YtfkkodcppaakjaaGreatDoorRd14
import Derived.Lib.IndexMore
/- A policy's text, plainly: what is written is read back, and nothing else is read. -/
namespace Go.Proofs.YtfkkodcppaakjaaGreatDoor
open Go

def lineOf (x : Vw) : List UInt8 := x.s ++ 32 :: textN x.c
def printL (l : List Vw) : List UInt8 := joinL (l.map lineOf)
/-- Is s the text of the policy of these viewers? -/
def Spells (s : List UInt8) (l : List Vw) : Prop := okL l ∧ Rising l ∧ Lo64 l ∧ printL l = s
theorem nameCh_not (c : UInt8) (h : nameCh c = true) : c ≠ 10 ∧ c ≠ 32 := by
  rw [nameCh_iff] at h
  constructor
  · rintro rfl; revert h; decide
  · rintro rfl; revert h; decide
theorem name_no {s : List UInt8} (h : nameL s = true) : ∀ c ∈ s, c ≠ 10 ∧ c ≠ 32 := by
  unfold nameL at h
  simp only [Bool.and_eq_true] at h
  exact fun c hc => nameCh_not c (List.all_eq_true.1 h.2 c hc)
theorem digs_no (u : Nat) : ∀ c ∈ Lib.decDigits u, c ≠ 10 ∧ c ≠ 32 := fun c hc => by
  have h := List.all_eq_true.1 (dec_digs u) c hc
  unfold isDig at h
  constructor
  · rintro rfl; revert h; decide
  · rintro rfl; revert h; decide
theorem join_mem : ∀ (ls : List (List UInt8)) (sep : List UInt8) (c : UInt8), c ∈ Lib.join ls sep → c ∈ sep ∨ ∃ l ∈ ls, c ∈ l
  | [], sep, c, h => by rw [Lib.join_nil] at h; simp at h
  | [x], sep, c, h => by rw [Lib.join_one] at h; exact .inr ⟨x, by simp, h⟩
  | x :: y :: ls, sep, c, h => by
    have e : Lib.join (x :: y :: ls) sep = x ++ (sep ++ Lib.join (y :: ls) sep) := by
      rw [Lib.join_cons, Lib.join_cons]; simp [Lib.joinTail]
    rw [e, List.mem_append, List.mem_append] at h
    rcases h with h | h | h
    · exact .inr ⟨x, by simp, h⟩
    · exact .inl h
    · rcases join_mem (y :: ls) sep c h with h | ⟨l, hl, hc⟩
      · exact .inl h
      · exact .inr ⟨l, by simp at hl ⊢; exact .inr hl, hc⟩
theorem text_no (a : Nat) : ∀ c ∈ textN a, c ≠ 10 ∧ c ≠ 32 := fun c hc => by
  unfold textN at hc
  split at hc
  · rw [List.mem_singleton.1 hc]; decide
  · rcases join_mem _ _ c hc with h | ⟨l, hl, h⟩
    · rw [List.mem_singleton.1 h]; decide
    · obtain ⟨u, _, rfl⟩ := List.mem_map.1 hl
      exact digs_no u c h
theorem line_no {x : Vw} (h : nameL x.s = true) : (lineOf x).contains 10 = false := by
  rw [← Bool.not_eq_true, List.contains_iff_mem]
  intro hm
  unfold lineOf at hm
  rw [List.mem_append, List.mem_cons] at hm
  rcases hm with hm | hm | hm
  · exact (name_no h 10 hm).1 rfl
  · cases hm
  · exact (text_no x.c 10 hm).1 rfl
/-- What stands ahead of the first blank, and behind it. -/
def nameOf (t : List UInt8) : List UInt8 := t.takeWhile (· != 32)
def wordAt (t : List UInt8) : List UInt8 := (t.dropWhile (· != 32)).drop 1
theorem name_line {x : Vw} (h : nameL x.s = true) : nameOf (lineOf x) = x.s ∧ wordAt (lineOf x) = textN x.c := by
  have hp : ∀ c ∈ x.s, (c != 32) = true := fun c hc => by simpa using (name_no h c hc).2
  unfold nameOf wordAt lineOf
  rw [List.takeWhile_append_of_pos hp, List.dropWhile_append_of_pos hp]
  simp
/-- The lines that a text is read as. -/
inductive Reads : List (List UInt8) → List Vw → Prop
  | nil : Reads [] []
  | snoc {ts : List (List UInt8)} {l : List Vw} {t : List UInt8} {a : Nat} (h : Reads ts l) (ha : a < 18446744073709551616) (e : textN a = wordAt t) : Reads (ts ++ [t]) (l ++ [⟨nameOf t, a⟩])
theorem Reads.lo {ts : List (List UInt8)} {l : List Vw} (h : Reads ts l) : Lo64 l := by
  induction h with
  | nil => exact fun x hx => by simp at hx
  | snoc _ ha _ ih =>
    intro x hx
    rw [List.mem_append, List.mem_singleton] at hx
    rcases hx with hx | rfl
    · exact ih x hx
    · exact ha
theorem Reads.len {ts : List (List UInt8)} {l : List Vw} (h : Reads ts l) : ts.length = l.length := by
  induction h with
  | nil => rfl
  | snoc _ _ _ ih => simp [ih]
/-- The lines of a policy's text are read as its viewers. -/
theorem reads_lines {ts : List (List UInt8)} {l : List Vw} (h : Reads ts l) : ∀ (l' : List Vw) (k : Nat), (∀ x ∈ l', nameL x.s = true) → Lo64 l' → ts = (l'.map lineOf).take k → k ≤ l'.length → l = l'.take k := by
  induction h with
  | nil =>
    intro l' k _ _ e hk
    have : k = 0 := by
      have := congrArg List.length e
      simp at this
      omega
    subst this; rfl
  | @snoc ts l t a h ha e ih =>
    intro l' k hn hl he hk
    have hlen := congrArg List.length he
    rw [List.length_append, List.length_take, List.length_map] at hlen
    simp only [List.length_singleton] at hlen
    obtain ⟨m, rfl⟩ : ∃ m, k = m + 1 := ⟨k - 1, by omega⟩
    have hm : m < l'.length := by omega
    rw [List.take_succ_eq_append_getElem (by rw [List.length_map]; exact hm)] at he
    obtain ⟨h1, h2⟩ := List.append_inj' he rfl
    rw [List.take_succ_eq_append_getElem hm, ← ih l' m hn hl h1 (by omega)]
    congr 1
    injection h2 with h2 _
    rw [List.getElem_map] at h2
    have hx := List.getElem_mem hm
    obtain ⟨n1, n2⟩ := name_line (hn _ hx)
    rw [h2, n2] at e
    have := text_inj a l'[m].c ha (hl _ hx) e
    rw [h2, n1, this]
theorem cut_print {l : List Vw} (hn : ∀ x ∈ l, nameL x.s = true) : cutL (printL l) = l.map lineOf ∧ cutE (printL l) = 0 := by
  cases l with
  | nil => exact ⟨rfl, rfl⟩
  | cons x r =>
    have hne : (x :: r).map lineOf ≠ [] := by simp
    have hlast := join_last _ hne
    have hnn : (printL (x :: r)).isEmpty = false := by
      unfold printL
      cases e : joinL ((x :: r).map lineOf) with
      | nil => rw [e] at hlast; cases hlast
      | cons a t => rfl
    have hcj := cut_join ((x :: r).map lineOf) (fun l hl => by
      obtain ⟨y, hy, rfl⟩ := List.mem_map.1 hl
      exact line_no (hn y hy)) hne
    unfold cutL cutE cutOk
    rw [hnn, show ((printL (x :: r)).getLast? == some 10) = true by unfold printL; rw [hlast]; rfl]
    exact ⟨hcj, rfl⟩
/-- A text that no policy has. -/
theorem none_of_cut {s : List UInt8} (h : cutE s ≠ 0) : ¬ ∃ l, Spells s l := by
  rintro ⟨l, ho, hr, hl, rfl⟩
  exact h (cut_print ho.2.2).2
theorem none_of_piece {s : List UInt8} {k : Nat} (hk : k < (cutL s).length) (h : ∀ b, b < 18446744073709551616 → textN b ≠ wordAt (cutL s)[k]) : ¬ ∃ l, Spells s l := by
  rintro ⟨l, ho, hr, hl, rfl⟩
  have e := (cut_print ho.2.2).1
  rw [List.getElem_of_eq e hk, List.getElem_map] at h
  rw [e, List.length_map] at hk
  have hx := List.getElem_mem hk
  exact h l[k].c (hl _ hx) (name_line (ho.2.2 _ hx)).2.symm
/-- All lines are read: it is these viewers' text or nobody's. -/
theorem one_of_reads {s : List UInt8} {l l' : List Vw} (h : Reads (cutL s) l) (hs : Spells s l') : l' = l := by
  obtain ⟨ho, hr, hl, rfl⟩ := hs
  have e := (cut_print ho.2.2).1
  have := reads_lines h l' l'.length ho.2.2 hl (by rw [e, ← List.length_map (f := lineOf), List.take_length]) (Nat.le_refl _)
  rw [this, List.take_length]
theorem spells_of {s : List UInt8} {l : List Vw} (h : Reads (cutL s) l) : (okL l ∧ printL (sortV l) = s → Spells s (sortV l)) ∧ (¬ okL l → ¬ ∃ l', Spells s l') ∧ (printL (sortV l) ≠ s → ¬ ∃ l', Spells s l') := by
  refine ⟨fun ⟨ho, hp⟩ => ⟨okL_perm (sortV_perm l).symm ho, sortV_rising ho.2.1, fun x hx => h.lo x ((sortV_perm l).mem_iff.1 hx), hp⟩, ?_, ?_⟩
  · rintro hno ⟨l', hs⟩
    have := one_of_reads h hs
    subst this
    exact hno hs.1
  · rintro hp ⟨l', hs⟩
    have := one_of_reads h hs
    subst this
    rw [sortV_self hs.2.1] at hp
    exact hp hs.2.2.2
theorem count_join : ∀ ls : List (List UInt8), (∀ l ∈ ls, l.contains 10 = false) → (joinL ls).count 10 = ls.length
  | [], _ => rfl
  | x :: ls, h => by
    have ih := count_join ls (fun l hl => h l (List.mem_cons_of_mem _ hl))
    have hx := h x (List.mem_cons_self ..)
    have h0 : x.count 10 = 0 := List.count_eq_zero.2 (fun hm => by rw [List.contains_iff_mem.2 hm] at hx; cases hx)
    rw [join_cons, List.count_append, List.count_cons, ih, h0]
    simp
theorem none_of_many {s : List UInt8} (h : 64 < s.count 10) : ¬ ∃ l, Spells s l := by
  rintro ⟨l, ho, hr, hl, rfl⟩
  unfold printL at h
  rw [count_join] at h
  · rw [List.length_map] at h
    have := ho.1
    omega
  · intro y hy
    obtain ⟨x, hx, rfl⟩ := List.mem_map.1 hy
    exact line_no (ho.2.2 x hx)
/-- One text, one policy. -/
theorem spells_one {s : List UInt8} {l l' : List Vw} (h : Spells s l) (h' : Spells s l') : l = l' := by
  have hlen : l.length = l'.length := by
    have e1 := (cut_print h.1.2.2).1
    have e2 := (cut_print h'.1.2.2).1
    rw [h.2.2.2] at e1
    rw [h'.2.2.2] at e2
    have := congrArg List.length (e1.symm.trans e2)
    simpa using this
  have e1 := (cut_print h.1.2.2).1
  have e2 := (cut_print h'.1.2.2).1
  rw [h.2.2.2] at e1
  rw [h'.2.2.2] at e2
  have e := e1.symm.trans e2
  apply List.ext_getElem hlen
  intro i hi hi'
  have hh : (l.map lineOf)[i]'(by simpa using hi) = (l'.map lineOf)[i]'(by simpa using hi') := List.getElem_of_eq e _
  rw [List.getElem_map, List.getElem_map] at hh
  obtain ⟨a1, a2⟩ := name_line (h.1.2.2 _ (List.getElem_mem hi))
  obtain ⟨b1, b2⟩ := name_line (h'.1.2.2 _ (List.getElem_mem hi'))
  have c1 : l[i].s = l'[i].s := by rw [← a1, ← b1, hh]
  have c2 : l[i].c = l'[i].c := text_inj _ _ (h.2.2.1 _ (List.getElem_mem hi)) (h'.2.2.1 _ (List.getElem_mem hi')) (by rw [← a2, ← b2, hh])
  cases hx : l[i]; cases hy : l'[i]
  rw [hx, hy] at c1 c2
  simp_all
end Go.Proofs.YtfkkodcppaakjaaGreatDoor
/- A line parted at its first blank; how many lines a text has: plainly. -/
namespace Go.Proofs.YtfkkodcppaakjaaGreatDoor
open Go

theorem cut_blank : ∀ l : List UInt8, (Lib.cut l [32]).1 = nameOf l ∧ (Lib.cut l [32]).2.1 = wordAt l
  | [] => by decide
  | b :: l => by
    obtain ⟨h1, h2⟩ := cut_blank l
    by_cases hb : b = 32
    · subst hb
      have e : Lib.index (32 :: l) [32] = 0 := by simp [Lib.index]
      unfold Lib.cut nameOf wordAt
      rw [e]; simp
    · have hp : List.isPrefixOf [32] (b :: l) = false := by simp [List.isPrefixOf, Ne.symm hb]
      have hn : nameOf (b :: l) = b :: nameOf l := by unfold nameOf; rw [List.takeWhile_cons_of_pos (by simpa using hb)]
      have hw : wordAt (b :: l) = wordAt l := by unfold wordAt; rw [List.dropWhile_cons_of_pos (by simpa using hb)]
      rw [hn, hw, ← h1, ← h2]
      have hge := Lib.index_ge l [32]
      by_cases hi : Lib.index l [32] = -1
      · have e : Lib.index (b :: l) [32] = -1 := by rw [Lib.index, hp, hi]; rfl
        unfold Lib.cut
        rw [e, hi]; simp
      · obtain ⟨i, hi'⟩ : ∃ i : Nat, Lib.index l [32] = i := ⟨(Lib.index l [32]).toNat, by omega⟩
        have e : Lib.index (b :: l) [32] = ((i + 1 : Nat) : Int) := by
          rw [Lib.index, hp, hi']
          have : ((i : Int) == -1) = false := beq_false_of_ne (by omega)
          rw [this]; simp
        unfold Lib.cut
        rw [e, hi', if_pos (by omega), if_pos (by omega)]
        simp
theorem nameOf_le (l : List UInt8) : (nameOf l).length ≤ l.length := (List.takeWhile_sublist _).length_le
theorem wordAt_le (l : List UInt8) : (wordAt l).length ≤ l.length := by
  unfold wordAt
  have := (List.dropWhile_sublist (p := (· != 32)) (l := l)).length_le
  rw [List.length_drop]; omega
theorem sum_len : ∀ ls : List (List UInt8), ls.length ≤ (ls.map (fun l => l.length + 1)).sum ∧ ∀ l ∈ ls, l.length ≤ (ls.map (fun l => l.length + 1)).sum
  | [] => by simp
  | x :: xs => by
    obtain ⟨h1, h2⟩ := sum_len xs
    simp only [List.map_cons, List.sum_cons, List.length_cons]
    refine ⟨by omega, fun l hl => ?_⟩
    rcases List.mem_cons.1 hl with rfl | hl
    · omega
    · have := h2 l hl; omega
theorem cut_len (l : List UInt8) : (cutL l).length ≤ l.length ∧ ∀ t ∈ cutL l, t.length ≤ l.length := by
  unfold cutL
  split
  · simp
  · split
    · rename_i _ h
      have e := join_cut l h
      have hj := join_len (piecesL l.dropLast)
      rw [e] at hj
      have := sum_len (piecesL l.dropLast)
      rw [← hj] at this
      exact this
    · simp
end Go.Proofs.YtfkkodcppaakjaaGreatDoor
/- A string's element facts. -/
namespace Go.Proofs.YtfkkodcppaakjaaGreatDoor
open Go Go.RowKit
end Go.Proofs.YtfkkodcppaakjaaGreatDoor
