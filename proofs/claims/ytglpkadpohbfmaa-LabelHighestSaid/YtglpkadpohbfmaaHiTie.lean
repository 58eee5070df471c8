/- The two Highest answer the same. -/
import Derived.Test.YtglpkadpohbfmaaLbRefHi
import Derived.Test.YtglpkadpohbfmaaLbHi
import Derived.Test.YtglpkadpohbfmaaLattP
namespace Go.Proofs.Ytglpkadpohbfmaa

theorem goodTo_iff (p : List Nat64) (i : Nat) (x : Nat64) : goodTo p i x p.length = true ↔ ∀ k y, p[k]? = some y → badY i k x y = false := by
  unfold goodTo
  rw [List.all_eq_true]
  constructor
  · intro h k y hk
    have := h k (List.mem_range.2 (List.getElem?_eq_some_iff.1 hk).1)
    simpa [badAt, hk] using this
  · intro h k hk
    obtain ⟨y, hy⟩ : ∃ y, p[k]? = some y := ⟨p[k]'(List.mem_range.1 hk), List.getElem?_eq_getElem _⟩
    simp [badAt, hy, h k y hy]
theorem nat64_ext {x y : Nat64} (h : x.val = y.val) : x = y := by cases x; cases y; cases h; rfl

theorem filterMap_same {f g : Nat → Option Nat64} : ∀ (l : List Nat), (∀ i ∈ l, f i = g i) → l.filterMap f = l.filterMap g
  | [], _ => rfl
  | i :: l, h => by
    rw [List.filterMap_cons, List.filterMap_cons, h i (by simp), filterMap_same l fun j hj => h j (by simp [hj])]
theorem keep_old (p : List Nat64) (a : Nat64) (i : Nat) (hi : i < p.length) : keepAt (p ++ [a]) i = (keepAt p i).filter fun x => (x.val == a.val) || !belowB x.val a.val := by
  obtain ⟨x, hx⟩ : ∃ x, p[i]? = some x := ⟨p[i], List.getElem?_eq_getElem _⟩
  have hx' : (p ++ [a])[i]? = some x := by rw [List.getElem?_append_left hi]; exact hx
  unfold keepAt
  rw [hx, hx']
  have hstep : goodTo (p ++ [a]) i x (p ++ [a]).length = (goodTo p i x p.length && !badY i p.length x a) := by
    rw [List.length_append, List.length_singleton, goodTo_step (p ++ [a]) i p.length x a (by simp)]
    congr 1
    unfold goodTo
    rw [Bool.eq_iff_iff, List.all_eq_true, List.all_eq_true]
    constructor
    · intro h k hk
      have := h k hk
      unfold badAt at this ⊢
      rwa [List.getElem?_append_left (List.mem_range.1 hk)] at this
    · intro h k hk
      have := h k hk
      unfold badAt at this ⊢
      rwa [List.getElem?_append_left (List.mem_range.1 hk)]
  have hbad : (!badY i p.length x a) = ((x.val == a.val) || !belowB x.val a.val) := by
    unfold badY
    have h1 : decide (p.length < i) = false := decide_eq_false (by omega)
    rw [h1]
    by_cases h : a.val = x.val
    · simp [h]
    · have h' : ¬ x.val = a.val := fun e => h e.symm
      rw [beq_false_of_ne h, beq_false_of_ne h']; simp
  simp only
  rw [hstep, hbad]
  cases goodTo p i x p.length
  · simp
  · cases h : ((x.val == a.val) || !belowB x.val a.val) <;> simp [Option.filter, h]

theorem refTo_snoc (p : List Nat64) (a : Nat64) : refTo (p ++ [a]) (p ++ [a]).length = (refTo p p.length).filter (fun x => (x.val == a.val) || !belowB x.val a.val) ++ (if goodTo (p ++ [a]) p.length a (p ++ [a]).length then [a] else []) := by
  rw [List.length_append, List.length_singleton, refTo_step (p ++ [a]) p.length a (by simp)]
  have h1 : refTo (p ++ [a]) p.length = (refTo p p.length).filter (fun x => (x.val == a.val) || !belowB x.val a.val) := by
    unfold refTo
    rw [List.filter_filterMap]
    refine filterMap_same _ fun i hi => ?_
    exact keep_old p a i (List.mem_range.1 hi)
  rw [h1, List.length_append, List.length_singleton]
  split <;> simp

theorem ref_tie (l : List Nat64) : refTo l l.length = hiAll l := by
  suffices all : ∀ n (p : List Nat64), p.length = n → refTo p p.length = hiAll p from all _ l rfl
  intro n
  induction n with
  | zero => intro p hp; rw [List.length_eq_zero_iff.1 hp]; rfl
  | succ n ih =>
    intro q hq
    obtain ⟨p, a, rfl⟩ : ∃ p a, q = p ++ [a] := ⟨q.dropLast, q.getLast (by intro h; rw [h] at hq; cases hq), (List.dropLast_concat_getLast _).symm⟩
    have hpl : p.length = n := by simpa using hq
    have ihp := ih p hpl
    have hg := hi_good p
    have hmem : ∀ b ∈ hiAll p, b ∈ p := by
      intro b hb
      rw [← ihp] at hb
      unfold refTo keepAt at hb
      obtain ⟨i, hi, hk⟩ := List.mem_filterMap.1 hb
      split at hk
      · rename_i x hx
        split at hk
        · cases hk; exact List.mem_of_getElem? hx
        · cases hk
      · cases hk
    have hgood : goodTo (p ++ [a]) p.length a (p ++ [a]).length = !((hiAll p).any fun b => belowB a.val b.val) := by
      rw [Bool.eq_iff_iff, goodTo_iff]
      simp only [Bool.not_eq_true', List.any_eq_false]
      constructor
      · intro h b hb hab
        obtain ⟨k, hk, hkb⟩ := List.mem_iff_getElem.1 (hmem b hb)
        have h1 := h k b (by rw [List.getElem?_append_left hk, List.getElem?_eq_getElem hk, hkb])
        unfold badY at h1
        by_cases e : b.val = a.val
        · simp [e, hk] at h1
        · simp [e, hab] at h1
      · intro h k y hy
        by_cases hk : k < p.length
        · rw [List.getElem?_append_left hk] at hy
          obtain ⟨b, hb, hyb⟩ := hg.1 y (List.mem_of_getElem? hy)
          have hab : belowB a.val y.val = false := by
            cases e : belowB a.val y.val with
            | false => rfl
            | true => exact absurd (below_trans _ _ _ e hyb) (h b hb)
          have hne : ¬ y.val = a.val := fun e => by rw [e, below_refl] at hab; cases hab
          unfold badY
          simp [hne, hab]
        · obtain rfl : k = p.length := by
            have := (List.getElem?_eq_some_iff.1 hy).1
            rw [List.length_append, List.length_singleton] at this
            omega
          have : a = y := by simpa using hy
          subst this
          unfold badY
          simp
    have hlast : hiAll (p ++ [a]) = hiStep (hiAll p) a := by unfold hiAll; rw [List.foldl_append]; rfl
    rw [refTo_snoc, hlast, ihp, hgood]
    unfold hiStep
    cases hq : (hiAll p).any fun b => belowB a.val b.val with
    | true =>
      obtain ⟨b, hb, hab⟩ := List.any_eq_true.1 hq
      have hf : (hiAll p).filter (fun x => (x.val == a.val) || !belowB x.val a.val) = hiAll p := by
        rw [List.filter_eq_self]
        intro x hx
        cases e : belowB x.val a.val with
        | false => simp
        | true =>
          have hxb : x = b := by
            apply Classical.byContradiction
            intro hne
            obtain ⟨i, hi, rfl⟩ := List.mem_iff_getElem.1 hx
            obtain ⟨j, hj, rfl⟩ := List.mem_iff_getElem.1 hb
            have hpw := List.pairwise_iff_getElem.1 hg.2
            have hxb := below_trans _ _ _ e hab
            rcases Nat.lt_trichotomy i j with h | h | h
            · rw [(hpw i j hi hj h).1] at hxb; cases hxb
            · subst h; exact hne rfl
            · rw [(hpw j i hj hi h).2] at hxb; cases hxb
          have : x.val = a.val := below_anti _ _ x.lt a.lt e (by rw [hxb]; exact hab)
          simp [this]
      rw [hf]; simp
    | false =>
      simp only [Bool.not_false, if_true, Bool.false_eq_true, if_false]
      congr 1
      apply List.filter_congr
      intro x hx
      have : ¬ x.val = a.val := fun e => by
        have := List.any_eq_false.1 hq x hx
        rw [← e, below_refl] at this
        exact this rfl
      simp [this]
end Go.Proofs.Ytglpkadpohbfmaa
