/- The clearances of viewers, rising, each once: plain lists: no program. -/
import Derived.Test.YtdpikdkhemhmdaaSrLess
import Derived.Sort.AssemblyPlain
import Derived.Lib.SlicesCompact
namespace Go.Proofs.Ytdpikdkhemhmdaa
open Go Go.Sort Go.Lib

/-- Rising numbers. -/
def RiseC (cs : List Nat) : Prop := cs.Pairwise (· < ·)
theorem RiseC.nil : RiseC [] := List.Pairwise.nil
/-- Two rising lists of the same numbers are one. -/
theorem riseC_one : ∀ {xs ys : List Nat}, RiseC xs → RiseC ys → (∀ c, c ∈ xs ↔ c ∈ ys) → xs = ys
  | [], [], _, _, _ => rfl
  | [], y :: ys, _, _, h => absurd ((h y).2 (List.mem_cons_self ..)) List.not_mem_nil
  | x :: xs, [], _, _, h => absurd ((h x).1 (List.mem_cons_self ..)) List.not_mem_nil
  | x :: xs, y :: ys, hx, hy, h => by
    have h1 := List.pairwise_cons.1 hx
    have h2 := List.pairwise_cons.1 hy
    have e : x = y := by
      rcases List.mem_cons.1 ((h x).1 (List.mem_cons_self ..)) with e | e
      · exact e
      · rcases List.mem_cons.1 ((h y).2 (List.mem_cons_self ..)) with e' | e'
        · exact e'.symm
        · have := h2.1 x e; have := h1.1 y e'; omega
    subst e
    have ih := riseC_one (xs := xs) (ys := ys) h1.2 h2.2 fun c => ⟨fun hc => by
      rcases List.mem_cons.1 ((h c).1 (List.mem_cons_of_mem _ hc)) with e | e
      · have := h1.1 c hc; omega
      · exact e, fun hc => by
      rcases List.mem_cons.1 ((h c).2 (List.mem_cons_of_mem _ hc)) with e | e
      · have := h2.1 c hc; omega
      · exact e⟩
    rw [ih]
/-- One number more among rising ones. -/
def insC (c : Nat) : List Nat → List Nat
  | [] => [c]
  | x :: xs => if c < x then c :: x :: xs else if c = x then x :: xs else x :: insC c xs
theorem mem_insC (c : Nat) : ∀ (xs : List Nat) (y : Nat), y ∈ insC c xs ↔ y = c ∨ y ∈ xs
  | [], y => by simp [insC]
  | x :: xs, y => by
    unfold insC
    by_cases h1 : c < x
    · rw [if_pos h1]; simp
    · rw [if_neg h1]
      by_cases h2 : c = x
      · rw [if_pos h2]; subst h2; simp
      · rw [if_neg h2, List.mem_cons, mem_insC c xs y, List.mem_cons]
        constructor
        · rintro (h | h | h)
          · exact .inr (.inl h)
          · exact .inl h
          · exact .inr (.inr h)
        · rintro (h | h | h)
          · exact .inr (.inl h)
          · exact .inl h
          · exact .inr (.inr h)
theorem insC_rise (c : Nat) : ∀ {xs : List Nat}, RiseC xs → RiseC (insC c xs)
  | [], _ => List.pairwise_singleton _ _
  | x :: xs, h => by
    have h1 := List.pairwise_cons.1 h
    unfold insC
    by_cases hc : c < x
    · rw [if_pos hc]
      exact List.pairwise_cons.2 ⟨fun y hy => by
        rcases List.mem_cons.1 hy with e | e
        · omega
        · have := h1.1 y e; omega, h⟩
    · rw [if_neg hc]
      by_cases h2 : c = x
      · rw [if_pos h2]; exact h
      · rw [if_neg h2]
        exact List.pairwise_cons.2 ⟨fun y hy => by
          rcases (mem_insC c xs y).1 hy with e | e
          · omega
          · exact h1.1 y e, insC_rise c h1.2⟩
/-- The numbers, rising, each once. -/
def onceC (cs : List Nat) : List Nat := cs.foldr insC []
theorem onceC_rise : ∀ cs : List Nat, RiseC (onceC cs)
  | [] => RiseC.nil
  | c :: cs => insC_rise c (onceC_rise cs)
theorem mem_onceC : ∀ (cs : List Nat) (y : Nat), y ∈ onceC cs ↔ y ∈ cs
  | [], y => by simp [onceC]
  | c :: cs, y => by
    show y ∈ insC c (onceC cs) ↔ _
    rw [mem_insC, mem_onceC cs y, List.mem_cons]
theorem onceC_of {cs ys : List Nat} (h : RiseC ys) (hm : ∀ c, c ∈ ys ↔ c ∈ cs) : ys = onceC cs := riseC_one h (onceC_rise cs) fun c => by rw [hm, mem_onceC]
theorem insC_len (c : Nat) : ∀ xs : List Nat, (insC c xs).length ≤ xs.length + 1
  | [] => Nat.le_refl _
  | x :: xs => by
    have := insC_len c xs
    unfold insC
    by_cases h1 : c < x
    · rw [if_pos h1]; simp
    · rw [if_neg h1]
      by_cases h2 : c = x
      · rw [if_pos h2]; simp
      · rw [if_neg h2]; simp only [List.length_cons]; omega
theorem onceC_len : ∀ cs : List Nat, (onceC cs).length ≤ cs.length
  | [] => Nat.le_refl _
  | c :: cs => by
    have h1 := insC_len c (onceC cs)
    have h2 := onceC_len cs
    show (insC c (onceC cs)).length ≤ cs.length + 1
    omega
theorem swoC : SWO ltL where
  irrefl x := by simp [ltL]
  trans x y z h1 h2 := by simp only [ltL, decide_eq_true_eq] at *; omega
  ntrans x y z h1 h2 := by simp only [ltL, decide_eq_false_iff_not] at *; omega
/-- The library's sort over numbers. -/
theorem sortL_perm (d : Array Nat) : (Sort.sort ltL d).toList.Perm d.toList := by
  obtain ⟨hP, hSo⟩ := sort_sorts ltL swoC d
  have h := sorted_unique_holds swoC (fun x y h1 h2 => by simp only [ltL, decide_eq_false_iff_not] at h1 h2; omega) d _ hP hSo
  rw [h]
  exact List.mergeSort_perm _ _
theorem sortL_rise (d : Array Nat) : ∀ i j, i < j → j < d.size → (Sort.sort ltL d)[i]! ≤ (Sort.sort ltL d)[j]! := fun i j hi hj => by
  have := (sort_sorts ltL swoC d).2 i j (Nat.zero_le _) hi hj
  simp only [ltL, decide_eq_false_iff_not] at this
  omega
/-- What is left of numbers that don't fall, each once. -/
theorem compact_rise (d : Array Nat) (h : ∀ i j, i < j → j < d.size → d[i]! ≤ d[j]!) : ∀ m, m ≤ d.size → RiseC (compactUpTo d m) ∧ (∀ c, c ∈ compactUpTo d m ↔ ∃ j, j < m ∧ d[j]! = c)
  | 0, _ => ⟨by simp [compactUpTo, RiseC], fun c => by simp [compactUpTo]⟩
  | m + 1, hm => by
    obtain ⟨h1, h2⟩ := compact_rise d h m (by omega)
    rw [compactUpTo_succ]
    by_cases hk : keeps d m = true
    · rw [if_pos hk]
      refine ⟨?_, fun c => ?_⟩
      · unfold RiseC
        rw [List.pairwise_append]
        refine ⟨h1, List.pairwise_singleton _ _, fun a ha b hb => ?_⟩
        rw [List.mem_singleton] at hb
        subst hb
        obtain ⟨j, hj, rfl⟩ := (h2 a).1 ha
        unfold keeps at hk
        rcases of_decide_eq_true hk with e | e
        · omega
        · have k2 := h (m - 1) m (by omega) (by omega)
          have k1 : d[j]! ≤ d[m - 1]! := by
            by_cases e' : j = m - 1
            · rw [e']; exact Nat.le_refl _
            · exact h j (m - 1) (by omega) (by omega)
          omega
      · rw [List.mem_append, List.mem_singleton, h2]
        constructor
        · rintro (⟨j, hj, e⟩ | e)
          · exact ⟨j, by omega, e⟩
          · exact ⟨m, by omega, e.symm⟩
        · rintro ⟨j, hj, e⟩
          by_cases e' : j = m
          · subst e'; exact .inr e.symm
          · exact .inl ⟨j, by omega, e⟩
    · have hk' : keeps d m = false := by simpa using hk
      rw [if_neg hk, List.append_nil]
      refine ⟨h1, fun c => ?_⟩
      rw [h2]
      unfold keeps at hk'
      have hk2 := of_decide_eq_false hk'
      constructor
      · rintro ⟨j, hj, e⟩; exact ⟨j, by omega, e⟩
      · rintro ⟨j, hj, e⟩
        by_cases e' : j = m
        · subst e'
          have h0 : j ≠ 0 := fun h => hk2 (.inl h)
          have h3 : d[j]! = d[j - 1]! := Classical.byContradiction fun h => hk2 (.inr h)
          exact ⟨j - 1, by omega, h3 ▸ e⟩
        · exact ⟨j, by omega, e⟩
theorem compact_sorted (cs : List Nat) : compactUpTo (Sort.sort ltL cs.toArray) cs.length = onceC cs := by
  have hp := sortL_perm cs.toArray
  have hz : (Sort.sort ltL cs.toArray).size = cs.length := by
    have := hp.length_eq
    simpa using this
  obtain ⟨h1, h2⟩ := compact_rise (Sort.sort ltL cs.toArray) (fun i j hi hj => sortL_rise cs.toArray i j hi (by rw [hz] at hj; simpa using hj)) cs.length (by omega)
  refine onceC_of h1 fun c => ?_
  rw [h2]
  have hm := hp.mem_iff (a := c)
  rw [show cs.toArray.toList = cs from rfl] at hm
  rw [← hm]
  constructor
  · rintro ⟨j, hj, e⟩
    have hj' : j < (Sort.sort ltL cs.toArray).size := by omega
    rw [getElem!_pos _ j hj'] at e
    rw [← e]
    exact Array.getElem_mem_toList hj'
  · intro hc
    obtain ⟨j, hj, e⟩ := List.getElem_of_mem hc
    have hj' : j < (Sort.sort ltL cs.toArray).size := by simpa using hj
    refine ⟨j, by omega, ?_⟩
    rw [getElem!_pos _ j hj', ← e]
    rfl
end Go.Proofs.Ytdpikdkhemhmdaa
