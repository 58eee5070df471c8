/- Plain facts for what lines of one label say. No program. -/
import Derived.Test.YtbcfmckhgjcakaaDoorIdNew
namespace Go.Proofs.YtbcfmckhgjcakaaDoor
open Go

/-- The lines of a label. -/
def ownOf (a : Nat) (xs : List Li) : List Li := xs.filter fun x => decide (x.u = a)
theorem own_snoc_yes {a : Nat} {xs : List Li} {x : Li} (h : x.u = a) : ownOf a (xs ++ [x]) = ownOf a xs ++ [x] := by simp [ownOf, h]
theorem own_snoc_no {a : Nat} {xs : List Li} {x : Li} (h : x.u ≠ a) : ownOf a (xs ++ [x]) = ownOf a xs := by simp [ownOf, h]
theorem own_len (a : Nat) (xs : List Li) : (ownOf a xs).length ≤ xs.length := List.length_filter_le _ _
theorem own_own (a : Nat) (xs : List Li) : ownOf a (ownOf a xs) = ownOf a xs := by simp [ownOf, List.filter_filter]
theorem own_mem {a : Nat} {xs : List Li} {x : Li} (h : x ∈ ownOf a xs) : x ∈ xs ∧ x.u = a := by simpa [ownOf] using h
theorem fold_at (a : Nat) : ∀ (xs : List Li) (f : Nat → Int), (xs.foldl (fun f x => upd f x.u (max (f x.u) x.n)) f) a = (ownOf a xs).foldl (fun v x => max v x.n) (f a)
  | [], f => rfl
  | x :: xs, f => by
    rw [List.foldl_cons, fold_at a xs]
    by_cases h : x.u = a
    · subst h
      have e : ownOf x.u (x :: xs) = x :: ownOf x.u xs := by simp [ownOf]
      rw [upd_same, e, List.foldl_cons]
    · rw [upd_other _ _ (fun e => h e.symm), ownOf, ownOf, List.filter_cons]
      simp [h]
theorem lastF_at (xs : List Li) (a : Nat) : lastF xs a = (ownOf a xs).foldl (fun v x => max v x.n) 0 := fold_at a xs _
theorem lastF_own (xs : List Li) (a : Nat) : lastF (ownOf a xs) a = lastF xs a := by rw [lastF_at, lastF_at, own_own]
theorem fold_le : ∀ (xs : List Li) (v : Int), v ≤ xs.foldl (fun v x => max v x.n) v ∧ ∀ x ∈ xs, x.n ≤ xs.foldl (fun v x => max v x.n) v
  | [], v => ⟨Int.le_refl _, fun x hx => by simp at hx⟩
  | y :: xs, v => by
    rw [List.foldl_cons]
    obtain ⟨h1, h2⟩ := fold_le xs (max v y.n)
    refine ⟨by omega, fun x hx => ?_⟩
    rcases List.mem_cons.1 hx with rfl | hx
    · omega
    · exact h2 x hx
theorem own_le (xs : List Li) (a : Nat) : ∀ x ∈ ownOf a xs, x.n ≤ lastF xs a := by rw [lastF_at]; exact (fold_le _ _).2
theorem tw_pair {xs : List Li} : twiceI xs = none ↔ (idsOf xs).Nodup := by
  constructor
  · intro h
    unfold twiceI at h
    rw [List.find?_eq_none] at h
    unfold List.Nodup
    rw [List.pairwise_iff_getElem]
    intro i j hi hj hij e
    have hj' : j < xs.length := by simpa [idsOf] using hj
    refine h j (List.mem_range.2 hj') ((hit_iff hj').2 ?_)
    have e2 : xs[j].id = xs[i].id := by simpa [idsOf] using e.symm
    rw [e2]
    unfold idsOf
    refine List.mem_map.2 ⟨xs[i], ?_, rfl⟩
    rw [List.mem_take_iff_getElem]
    exact ⟨i, by omega, rfl⟩
  · intro h
    refine tw_none fun j hj => ?_
    cases hh : hitAt xs j with
    | false => rfl
    | true =>
      have := (hit_iff hj).1 hh
      obtain ⟨x, hx, e⟩ := List.mem_map.1 this
      rw [List.mem_take_iff_getElem] at hx
      obtain ⟨i, hi, rfl⟩ := hx
      have hp := List.pairwise_iff_getElem.1 h i j (by simp [idsOf]; omega) (by simp [idsOf]; omega) (by omega)
      simp [idsOf] at hp
      exact absurd e hp
theorem okN_own {xs : List Li} (h : okN xs) (a : Nat) : okN (ownOf a xs) := by
  refine ⟨tw_pair.2 ?_, fun x hx => h.2 x (own_mem hx).1⟩
  have hs : (idsOf (ownOf a xs)).Sublist (idsOf xs) := by
    unfold idsOf ownOf
    exact List.filter_sublist.map _
  exact List.Pairwise.sublist hs (tw_pair.1 h.1)
end Go.Proofs.YtbcfmckhgjcakaaDoor
