/- Two lists held against each other: the longest common part, what stays, the patch. Plain. -/
import Derived.Test.YtjmnbnlhahbcjaaBase
namespace Go.Proofs.Ytjmnbnlhahbcjaa
open Go Go.RowKit

section
variable {α : Type}
/-- How many can stay, at most. -/
def lcs [DecidableEq α] : List α → List α → Nat
  | [], _ => 0
  | _ :: _, [] => 0
  | x :: xs, y :: ys => if x = y then lcs xs ys + 1 else max (lcs xs (y :: ys)) (lcs (x :: xs) ys)
termination_by xs ys => xs.length + ys.length
theorem lcs_nil [DecidableEq α] (xs : List α) : lcs xs [] = 0 := by cases xs <;> simp [lcs]
theorem lcs_nil' [DecidableEq α] (ys : List α) : lcs [] ys = 0 := by simp [lcs]
theorem lcs_cons [DecidableEq α] (x y : α) (xs ys : List α) : lcs (x :: xs) (y :: ys) = if x = y then lcs xs ys + 1 else max (lcs xs (y :: ys)) (lcs (x :: xs) ys) := by rw [lcs]
theorem lcs_sub [DecidableEq α] : ∀ (xs ys : List α), ∃ l : List α, List.Sublist l xs ∧ List.Sublist l ys ∧ l.length = lcs xs ys
  | [], ys => ⟨[], List.nil_sublist _, List.nil_sublist _, by simp [lcs]⟩
  | x :: xs, [] => ⟨[], List.nil_sublist _, List.nil_sublist _, by simp [lcs]⟩
  | x :: xs, y :: ys => by
    rw [lcs_cons]
    by_cases e : x = y
    · subst e
      obtain ⟨l, h1, h2, h3⟩ := lcs_sub xs ys
      exact ⟨x :: l, h1.cons_cons x, h2.cons_cons x, by rw [if_pos rfl, List.length_cons, h3]⟩
    · rw [if_neg e]
      obtain ⟨l, h1, h2, h3⟩ := lcs_sub xs (y :: ys)
      obtain ⟨l', h1', h2', h3'⟩ := lcs_sub (x :: xs) ys
      rcases Nat.le_total (lcs xs (y :: ys)) (lcs (x :: xs) ys) with h | h
      · exact ⟨l', h1', h2'.cons y, by rw [h3']; omega⟩
      · exact ⟨l, h1.cons x, h2, by rw [h3]; omega⟩
termination_by xs ys => xs.length + ys.length
theorem lcs_ge [DecidableEq α] : ∀ (l xs ys : List α), List.Sublist l xs → List.Sublist l ys → l.length ≤ lcs xs ys
  | l, [], ys, h1, _ => by have := h1.length_le; simp at this; subst this; simp
  | l, x :: xs, [], _, h2 => by have := h2.length_le; simp at this; subst this; simp
  | [], x :: xs, y :: ys, _, _ => by simp
  | z :: l, x :: xs, y :: ys, h1, h2 => by
    rw [lcs_cons]
    by_cases e : x = y
    · subst e
      rw [if_pos rfl]
      have h1' : List.Sublist l xs := by
        cases h1 with
        | cons _ h => exact (List.sublist_cons_self z l).trans h
        | cons_cons _ h => exact h
      have h2' : List.Sublist l ys := by
        cases h2 with
        | cons _ h => exact (List.sublist_cons_self z l).trans h
        | cons_cons _ h => exact h
      have := lcs_ge l xs ys h1' h2'
      simp only [List.length_cons]; omega
    · rw [if_neg e]
      cases h1 with
      | cons _ h =>
        have := lcs_ge (z :: l) xs (y :: ys) h h2
        omega
      | cons_cons _ h =>
        cases h2 with
        | cons _ h' =>
          have := lcs_ge (z :: l) (z :: xs) ys (h.cons_cons z) h'
          omega
        | cons_cons _ h' => exact absurd rfl e
termination_by _ xs ys => xs.length + ys.length
theorem lcs_is [DecidableEq α] {xs ys : List α} {k : Nat} (h : ∃ l : List α, List.Sublist l xs ∧ List.Sublist l ys ∧ l.length = k) (hm : ∀ l : List α, List.Sublist l xs → List.Sublist l ys → l.length ≤ k) : lcs xs ys = k := by
  obtain ⟨l, h1, h2, rfl⟩ := h
  obtain ⟨m, g1, g2, g3⟩ := lcs_sub xs ys
  have := lcs_ge l xs ys h1 h2
  have := hm m g1 g2
  omega
theorem lcs_comm [DecidableEq α] (xs ys : List α) : lcs xs ys = lcs ys xs := by
  obtain ⟨l, h1, h2, h3⟩ := lcs_sub ys xs
  exact lcs_is ⟨l, h2, h1, h3⟩ fun m g1 g2 => lcs_ge m ys xs g2 g1
theorem lcs_reverse [DecidableEq α] (xs ys : List α) : lcs xs.reverse ys.reverse = lcs xs ys := by
  obtain ⟨l, h1, h2, h3⟩ := lcs_sub xs ys
  refine lcs_is ⟨l.reverse, h1.reverse, h2.reverse, by rw [List.length_reverse]; exact h3⟩ fun m g1 g2 => ?_
  have := lcs_ge m.reverse xs ys (by simpa using g1.reverse) (by simpa using g2.reverse)
  rwa [List.length_reverse] at this
theorem lcs_mono [DecidableEq α] {xs xs' ys ys' : List α} (h : List.Sublist xs xs') (g : List.Sublist ys ys') : lcs xs ys ≤ lcs xs' ys' := by
  obtain ⟨l, h1, h2, h3⟩ := lcs_sub xs ys
  rw [← h3]
  exact lcs_ge l _ _ (h1.trans h) (h2.trans g)
/-- The other way to say the same. -/
theorem lcs_diag [DecidableEq α] (x : α) (xs ys : List α) : max (lcs xs (x :: ys)) (lcs (x :: xs) ys) ≤ lcs xs ys + 1 := by
  obtain ⟨l, h1, h2, h3⟩ := lcs_sub xs (x :: ys)
  obtain ⟨l', h1', h2', h3'⟩ := lcs_sub (x :: xs) ys
  have a1 := lcs_ge l.tail xs ys ((List.tail_sublist l).trans h1) (by simpa using h2.tail)
  have a2 := lcs_ge l'.tail xs ys (by simpa using h1'.tail) ((List.tail_sublist l').trans h2')
  rw [List.length_tail] at a1 a2
  omega
theorem lcs_left [DecidableEq α] : ∀ (p xs ys : List α), lcs (p ++ xs) (p ++ ys) = p.length + lcs xs ys
  | [], xs, ys => by simp
  | x :: p, xs, ys => by
    rw [List.cons_append, List.cons_append, lcs_cons, if_pos rfl, lcs_left p, List.length_cons]; omega
theorem lcs_right [DecidableEq α] (s xs ys : List α) : lcs (xs ++ s) (ys ++ s) = lcs xs ys + s.length := by
  rw [← lcs_reverse, List.reverse_append, List.reverse_append, lcs_left, lcs_reverse, List.length_reverse]; omega
theorem lcs_snoc [DecidableEq α] (xs ys : List α) (x y : α) : lcs (xs ++ [x]) (ys ++ [y]) = if x = y then lcs xs ys + 1 else max (lcs xs (ys ++ [y])) (lcs (xs ++ [x]) ys) := by
  rw [← lcs_reverse, List.reverse_append, List.reverse_append]
  simp only [List.reverse_cons, List.reverse_nil, List.nil_append, List.singleton_append]
  rw [lcs_cons, lcs_reverse, ← lcs_reverse xs (ys ++ [y]), ← lcs_reverse (xs ++ [x]) ys]
  simp

/-- The walk through two middles. -/
def wlk [DecidableEq α] : Nat → Nat → List α → List α → List (Nat × Nat)
  | _, _, [], _ => []
  | _, _, _ :: _, [] => []
  | i, j, x :: xs, y :: ys => if x = y then (i, j) :: wlk (i + 1) (j + 1) xs ys else if lcs (x :: xs) ys ≤ lcs xs (y :: ys) then wlk (i + 1) j xs (y :: ys) else wlk i (j + 1) (x :: xs) ys
termination_by _ _ xs ys => xs.length + ys.length
theorem wlk_cons [DecidableEq α] (i j : Nat) (x y : α) (xs ys : List α) : wlk i j (x :: xs) (y :: ys) = if x = y then (i, j) :: wlk (i + 1) (j + 1) xs ys else if lcs (x :: xs) ys ≤ lcs xs (y :: ys) then wlk (i + 1) j xs (y :: ys) else wlk i (j + 1) (x :: xs) ys := by rw [wlk]
theorem wlk_nil [DecidableEq α] (i j : Nat) (xs : List α) : wlk i j xs [] = [] := by cases xs <;> simp [wlk]
theorem wlk_nil' [DecidableEq α] (i j : Nat) (ys : List α) : wlk i j [] ys = [] := by simp [wlk]
theorem wlk_length [DecidableEq α] : ∀ (i j : Nat) (xs ys : List α), (wlk i j xs ys).length = lcs xs ys
  | _, _, [], ys => by simp [wlk, lcs]
  | _, _, _ :: _, [] => by simp [wlk, lcs]
  | i, j, x :: xs, y :: ys => by
    rw [wlk_cons, lcs_cons]
    split
    · rw [List.length_cons, wlk_length]
    · split
      · rw [wlk_length]; omega
      · rw [wlk_length]; omega
termination_by _ _ xs ys => xs.length + ys.length
/-- Rising in both, and the same texts. -/
def Ris (a b : List α) : Nat → Nat → List (Nat × Nat) → Prop
  | i, j, [] => i ≤ a.length ∧ j ≤ b.length
  | i, j, q :: qs => i ≤ q.1 ∧ j ≤ q.2 ∧ q.1 < a.length ∧ q.2 < b.length ∧ a[q.1]? = b[q.2]? ∧ Ris a b (q.1 + 1) (q.2 + 1) qs
theorem Ris.ends {a b : List α} : ∀ {i j : Nat} {qs : List (Nat × Nat)}, Ris a b i j qs → i ≤ a.length ∧ j ≤ b.length
  | _, _, [], h => h
  | _, _, _ :: _, h => ⟨by have := h.1; have := h.2.2.1; omega, by have := h.2.1; have := h.2.2.2.1; omega⟩
theorem Ris.wide {a b : List α} {i j i' j' : Nat} {qs : List (Nat × Nat)} (h : Ris a b i j qs) (hi : i' ≤ i) (hj : j' ≤ j) : Ris a b i' j' qs := by
  cases qs with
  | nil => exact ⟨Nat.le_trans hi h.1, Nat.le_trans hj h.2⟩
  | cons q qs => exact ⟨Nat.le_trans hi h.1, Nat.le_trans hj h.2.1, h.2.2⟩
/-- One behind the other. -/
theorem Ris.app {a b : List α} {m n : Nat} : ∀ {i j : Nat} {qs rs : List (Nat × Nat)}, Ris a b i j qs → (∀ q ∈ qs, q.1 < m ∧ q.2 < n) → i ≤ m → j ≤ n → Ris a b m n rs → Ris a b i j (qs ++ rs)
  | _, _, [], _, _, _, hi, hj, hr => hr.wide hi hj
  | _, _, q :: _, _, h, hm, _, _, hr => ⟨h.1, h.2.1, h.2.2.1, h.2.2.2.1, h.2.2.2.2.1, Ris.app h.2.2.2.2.2 (fun r hr' => hm r (.tail _ hr')) (hm q (.head _)).1 (hm q (.head _)).2 hr⟩
theorem wlk_within [DecidableEq α] : ∀ (i j : Nat) (xs ys : List α), ∀ q ∈ wlk i j xs ys, q.1 < i + xs.length ∧ q.2 < j + ys.length
  | _, _, [], ys => by simp [wlk]
  | _, _, _ :: _, [] => by simp [wlk]
  | i, j, x :: xs, y :: ys => by
    rw [wlk_cons]
    intro q hq
    simp only [List.length_cons]
    split at hq
    · rcases List.mem_cons.mp hq with rfl | hq
      · exact ⟨by show i < _; omega, by show j < _; omega⟩
      · have := wlk_within _ _ _ _ q hq; omega
    · split at hq
      · have := wlk_within _ _ _ _ q hq; simp only [List.length_cons] at this; omega
      · have := wlk_within _ _ _ _ q hq; simp only [List.length_cons] at this; omega
termination_by _ _ xs ys => xs.length + ys.length
theorem wlk_ris [DecidableEq α] {a b : List α} (p : Nat) : ∀ (i j : Nat) (xs ys : List α), p + i + xs.length ≤ a.length → p + j + ys.length ≤ b.length → (∀ k (h : k < xs.length), a[p + i + k]? = some xs[k]) → (∀ k (h : k < ys.length), b[p + j + k]? = some ys[k]) → Ris a b (p + i) (p + j) ((wlk i j xs ys).map fun q => (p + q.1, p + q.2))
  | i, j, [], ys, hi, hj, _, _ => by
    rw [wlk_nil']; exact ⟨by simp at hi; omega, by omega⟩
  | i, j, x :: xs, [], hi, hj, _, _ => by
    rw [wlk_nil]; exact ⟨by omega, by simp at hj; omega⟩
  | i, j, x :: xs, y :: ys, hi, hj, ha, hb => by
    have ha' : ∀ k (h : k < xs.length), a[p + (i + 1) + k]? = some xs[k] := fun k h => by have := ha (k + 1) (by simp; omega); rw [show p + (i + 1) + k = p + i + (k + 1) by omega, this]; rfl
    have hb' : ∀ k (h : k < ys.length), b[p + (j + 1) + k]? = some ys[k] := fun k h => by have := hb (k + 1) (by simp; omega); rw [show p + (j + 1) + k = p + j + (k + 1) by omega, this]; rfl
    simp only [List.length_cons] at hi hj
    rw [wlk_cons]
    split
    · rename_i e
      refine ⟨Nat.le_refl _, Nat.le_refl _, by show p + i < _; omega, by show p + j < _; omega, ?_, ?_⟩
      · have h0 := ha 0 (by simp)
        have h1 := hb 0 (by simp)
        show a[p + i]? = b[p + j]?
        rw [show p + i = p + i + 0 by omega, h0, show p + j = p + j + 0 by omega, h1]
        simp [e]
      · have := wlk_ris p (i + 1) (j + 1) xs ys (by omega) (by omega) ha' hb'
        exact this
    · split
      · exact (wlk_ris p (i + 1) j xs (y :: ys) (by omega) (by simp; omega) ha' hb).wide (by omega) (Nat.le_refl _)
      · exact (wlk_ris p i (j + 1) (x :: xs) ys (by simp; omega) (by omega) ha hb').wide (Nat.le_refl _) (by omega)
termination_by _ _ xs ys => xs.length + ys.length

/-- The beginning that both have. -/
def pre [DecidableEq α] : List α → List α → Nat
  | x :: xs, y :: ys => if x = y then pre xs ys + 1 else 0
  | _, _ => 0
theorem pre_le [DecidableEq α] : ∀ (a b : List α), pre a b ≤ a.length ∧ pre a b ≤ b.length
  | [], _ => by simp [pre]
  | _ :: _, [] => by simp [pre]
  | x :: xs, y :: ys => by
    have := pre_le xs ys
    simp only [pre, List.length_cons]
    split <;> omega
theorem pre_same [DecidableEq α] : ∀ (a b : List α) (i : Nat), i < pre a b → a[i]? = b[i]?
  | [], _, i, h => by simp [pre] at h
  | _ :: _, [], i, h => by simp [pre] at h
  | x :: xs, y :: ys, i, h => by
    simp only [pre] at h
    split at h
    · rename_i e
      cases i with
      | zero => simp [e]
      | succ i => simpa using pre_same xs ys i (by omega)
    · omega
theorem pre_take [DecidableEq α] (a b : List α) : a.take (pre a b) = b.take (pre a b) := by
  apply List.ext_getElem?
  intro i
  rw [List.getElem?_take, List.getElem?_take]
  split
  · exact pre_same a b i (by assumption)
  · rfl
theorem pre_is [DecidableEq α] : ∀ (a b : List α) (p : Nat), p ≤ a.length → p ≤ b.length → (∀ i, i < p → a[i]? = b[i]?) → (p < a.length → p < b.length → a[p]? ≠ b[p]?) → pre a b = p
  | [], _, p, h, _, _, _ => by simp at h; simp [pre, h]
  | _ :: _, [], p, _, h, _, _ => by simp at h; simp [pre, h]
  | x :: xs, y :: ys, p, h1, h2, h3, h4 => by
    simp only [pre]
    cases p with
    | zero =>
      have := h4 (by simp) (by simp)
      simp only [List.getElem?_cons_zero] at this
      rw [if_neg (fun e => this (by rw [e]))]
    | succ p =>
      have := h3 0 (by omega)
      simp only [List.getElem?_cons_zero, Option.some.injEq] at this
      rw [if_pos this, pre_is xs ys p (by simpa using h1) (by simpa using h2) (fun i hi => by simpa using h3 (i + 1) (by omega)) (fun g1 g2 => by simpa using h4 (by simpa using g1) (by simpa using g2))]
/-- The end that both have, behind the beginning. -/
def suf [DecidableEq α] (a b : List α) : Nat := pre (a.drop (pre a b)).reverse (b.drop (pre a b)).reverse
theorem suf_le [DecidableEq α] (a b : List α) : pre a b + suf a b ≤ a.length ∧ pre a b + suf a b ≤ b.length := by
  have h := pre_le (a.drop (pre a b)).reverse (b.drop (pre a b)).reverse
  have := pre_le a b
  unfold suf
  simp only [List.length_reverse, List.length_drop] at h
  omega
theorem rev_drop (a : List α) (p i : Nat) (h : p + i < a.length) : (a.drop p).reverse[i]? = a[a.length - 1 - i]? := by
  rw [List.getElem?_reverse (by rw [List.length_drop]; omega), List.getElem?_drop, List.length_drop]
  congr 1; omega
theorem suf_is [DecidableEq α] (a b : List α) (s : Nat) (h1 : pre a b + s ≤ a.length) (h2 : pre a b + s ≤ b.length) (h3 : ∀ i, i < s → a[a.length - 1 - i]? = b[b.length - 1 - i]?) (h4 : pre a b + s < a.length → pre a b + s < b.length → a[a.length - 1 - s]? ≠ b[b.length - 1 - s]?) : suf a b = s := by
  unfold suf
  refine pre_is _ _ s (by simp; omega) (by simp; omega) (fun i hi => ?_) (fun g1 g2 => ?_)
  · rw [rev_drop a _ i (by omega), rev_drop b _ i (by omega)]; exact h3 i hi
  · simp only [List.length_reverse, List.length_drop] at g1 g2
    rw [rev_drop a _ s (by omega), rev_drop b _ s (by omega)]; exact h4 (by omega) (by omega)
theorem suf_same [DecidableEq α] (a b : List α) (i : Nat) (h : i < suf a b) : a[a.length - 1 - i]? = b[b.length - 1 - i]? := by
  have hl := suf_le a b
  have := pre_same _ _ i h
  rwa [rev_drop a _ i (by omega), rev_drop b _ i (by omega)] at this
theorem suf_drop [DecidableEq α] (a b : List α) : a.drop (a.length - suf a b) = b.drop (b.length - suf a b) := by
  have hl := suf_le a b
  apply List.ext_getElem?
  intro i
  rw [List.getElem?_drop, List.getElem?_drop]
  by_cases hi : i < suf a b
  · have := suf_same a b (suf a b - 1 - i) (by omega)
    rw [show a.length - 1 - (suf a b - 1 - i) = a.length - suf a b + i by omega, show b.length - 1 - (suf a b - 1 - i) = b.length - suf a b + i by omega] at this
    exact this
  · rw [List.getElem?_eq_none (by omega), List.getElem?_eq_none (by omega)]
/-- What is left of a list between these. -/
def mid (a : List α) (p s : Nat) : List α := (a.drop p).take (a.length - p - s)
theorem mid_len (a : List α) (p s : Nat) : (mid a p s).length = a.length - p - s := by simp [mid]
theorem mid_at (a : List α) (p s k : Nat) (h : k < (mid a p s).length) : a[p + k]? = some (mid a p s)[k] := by
  rw [← List.getElem?_eq_getElem h]
  rw [mid_len] at h
  unfold mid
  rw [List.getElem?_take, if_pos h, List.getElem?_drop]
theorem split3 (a : List α) (p s : Nat) (h : p + s ≤ a.length) : a = a.take p ++ (mid a p s ++ a.drop (a.length - s)) := by
  have : mid a p s ++ a.drop (a.length - s) = a.drop p := by
    unfold mid
    have := List.take_append_drop (a.length - p - s) (a.drop p)
    rw [List.drop_drop, show p + (a.length - p - s) = a.length - s by omega] at this
    exact this
  rw [this, List.take_append_drop]
def maxWork : Nat := 1048576
/-- What stays of the middles. -/
def midPairs [DecidableEq α] (x y : List α) : List (Nat × Nat) := if x.length * y.length ≤ maxWork then wlk 0 0 x y else []
/-- What stays. -/
def comm [DecidableEq α] (a b : List α) : List (Nat × Nat) :=
  (List.range (pre a b)).map (fun i => (i, i)) ++ ((midPairs (mid a (pre a b) (suf a b)) (mid b (pre a b) (suf a b))).map (fun q => (pre a b + q.1, pre a b + q.2)) ++ (List.range (suf a b)).map (fun i => (a.length - suf a b + i, b.length - suf a b + i)))
theorem diag_ris {a b : List α} (u v : Nat) : ∀ (n i : Nat), u + i + n ≤ a.length → v + i + n ≤ b.length → (∀ k, k < n → a[u + i + k]? = b[v + i + k]?) → Ris a b (u + i) (v + i) ((List.range' i n).map fun k => (u + k, v + k))
  | 0, i, h1, h2, _ => ⟨by omega, by omega⟩
  | n + 1, i, h1, h2, h => by
    rw [List.range'_succ]
    refine ⟨Nat.le_refl _, Nat.le_refl _, by show u + i < _; omega, by show v + i < _; omega, ?_, ?_⟩
    · simpa using h 0 (by omega)
    · exact diag_ris u v n (i + 1) (by omega) (by omega) fun k hk => by
        have := h (k + 1) (by omega)
        rwa [show u + i + (k + 1) = u + (i + 1) + k by omega, show v + i + (k + 1) = v + (i + 1) + k by omega] at this
theorem comm_ris [DecidableEq α] (a b : List α) : Ris a b 0 0 (comm a b) := by
  have hl := suf_le a b
  have hp := pre_le a b
  unfold comm
  refine Ris.app (m := pre a b) (n := pre a b) ?_ ?_ (Nat.zero_le _) (Nat.zero_le _) (Ris.app (m := a.length - suf a b) (n := b.length - suf a b) ?_ ?_ (by omega) (by omega) ?_)
  · have := diag_ris (a := a) (b := b) 0 0 (pre a b) 0 (by omega) (by omega) fun k hk => by simpa using pre_same a b k hk
    simpa [List.range_eq_range'] using this
  · intro q hq
    rw [List.mem_map] at hq
    obtain ⟨i, hi, rfl⟩ := hq
    rw [List.mem_range] at hi
    exact ⟨hi, hi⟩
  · unfold midPairs
    split
    · have := wlk_ris (a := a) (b := b) (pre a b) 0 0 (mid a (pre a b) (suf a b)) (mid b (pre a b) (suf a b)) (by rw [mid_len]; omega) (by rw [mid_len]; omega) (fun k h => by simpa using mid_at a _ _ k h) (fun k h => by simpa using mid_at b _ _ k h)
      simpa using this
    · exact ⟨by omega, by omega⟩
  · intro q hq
    rw [List.mem_map] at hq
    obtain ⟨r, hr, rfl⟩ := hq
    unfold midPairs at hr
    split at hr
    · have := wlk_within _ _ _ _ r hr
      rw [mid_len, mid_len] at this
      exact ⟨by show pre a b + r.1 < _; omega, by show pre a b + r.2 < _; omega⟩
    · cases hr
  · have := diag_ris (a := a) (b := b) (a.length - suf a b) (b.length - suf a b) (suf a b) 0 (by omega) (by omega) fun k hk => by
      have := suf_same a b (suf a b - 1 - k) (by omega)
      rw [show a.length - 1 - (suf a b - 1 - k) = a.length - suf a b + k by omega, show b.length - 1 - (suf a b - 1 - k) = b.length - suf a b + k by omega] at this
      simpa using this
    simpa [List.range_eq_range'] using this
theorem comm_length [DecidableEq α] (a b : List α) (h : (a.length - pre a b - suf a b) * (b.length - pre a b - suf a b) ≤ maxWork) : (comm a b).length = lcs a b := by
  have hl := suf_le a b
  unfold comm midPairs
  rw [mid_len, mid_len, if_pos h]
  simp only [List.length_append, List.length_map, List.length_range, wlk_length]
  have e : lcs a b = (a.take (pre a b)).length + (lcs (mid a (pre a b) (suf a b)) (mid b (pre a b) (suf a b)) + (a.drop (a.length - suf a b)).length) := by
    have ha := split3 a (pre a b) (suf a b) hl.1
    have hb := split3 b (pre a b) (suf a b) hl.2
    rw [← pre_take, ← suf_drop] at hb
    generalize a.take (pre a b) = u at *
    generalize a.drop (a.length - suf a b) = v at *
    generalize mid a (pre a b) (suf a b) = x at *
    generalize mid b (pre a b) (suf a b) = y at *
    rw [ha, hb, lcs_left, lcs_right]
  rw [e, List.length_take, List.length_drop]
  have := pre_le a b
  omega
/-- A hunk. -/
structure Hk (α : Type) where
  pos : Nat
  old : List α
  new : List α
def seg (a : List α) (i j : Nat) : List α := (a.take j).drop i
theorem seg_len (a : List α) (i j : Nat) (h : j ≤ a.length) : (seg a i j).length = j - i := by simp [seg]; omega
def hks (a b : List α) : Nat → Nat → List (Nat × Nat) → List (Hk α)
  | _, _, [] => []
  | i, j, q :: qs => (if q = (i, j) then [] else [⟨i, seg a i q.1, seg b j q.2⟩]) ++ hks a b (q.1 + 1) (q.2 + 1) qs
def patch [DecidableEq α] (a b : List α) : List (Hk α) := hks a b 0 0 (comm a b ++ [(a.length, b.length)])
end
end Go.Proofs.Ytjmnbnlhahbcjaa
