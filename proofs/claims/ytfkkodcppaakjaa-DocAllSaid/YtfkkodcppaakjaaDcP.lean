/- Where identities stand: as a map holds it, and as a list of lines has it. No walk. -/
import Derived.Test.YtfkkodcppaakjaaIdTwice
namespace Go.Proofs.Ytfkkodcppaakjaa
open Go Go.RowKit Go.Maps

/-- Where an identity stands, if it does. -/
def updP (f : Nat × Int → Option Nat) (a : Nat × Int) (v : Option Nat) : Nat × Int → Option Nat := fun b => if b = a then v else f b
theorem updP_same (f : Nat × Int → Option Nat) (a : Nat × Int) (v : Option Nat) : updP f a v a = v := by simp [updP]
theorem updP_other (f : Nat × Int → Option Nat) {a b : Nat × Int} (v : Option Nat) (h : b ≠ a) : updP f a v b = f b := by simp [updP, h]
/-- What a map of places holds. -/
structure PlIs (D : DataW Unit) (f : Nat × Int → Option Nat) : Prop where
  map : IsMap D
  has : ∀ u n, u < 18446744073709551616 → (Lit.int .i64 n).wf = true → Maps.has D (idLit u n) = (f (u, n)).isSome
  at' : ∀ u n (k : Nat), u < 18446744073709551616 → (Lit.int .i64 n).wf = true → f (u, n) = some k → D.atKey (idLit u n) (.lit (.int .i64 0)) = .lit (.int .i64 (k : Int))
theorem pl_nil : PlIs (.map [] : DataW Unit) fun _ => none := ⟨⟨[], rfl⟩, fun u n _ _ => by simp [Maps.has], fun u n k _ _ h => by cases h⟩
theorem id_lit_ne {u u' : Nat} {n n' : Int} (hu : u < 18446744073709551616) (hn : (Lit.int .i64 n).wf = true) (hu' : u' < 18446744073709551616) (hn' : (Lit.int .i64 n').wf = true) (e : (u', n') ≠ (u, n)) : idLit u' n' ≠ idLit u n := fun h => e (id_inj hu' hn' hu hn h)
theorem PlIs.put {D : DataW Unit} {f : Nat × Int → Option Nat} (h : PlIs D f) (u : Nat) (n : Int) (k : Nat) (hu : u < 18446744073709551616) (hn : (Lit.int .i64 n).wf = true) : PlIs (D.put (idLit u n) (.lit (.int .i64 (k : Int)))) (updP f (u, n) (some k)) := by
  refine ⟨h.map.put _ _, fun u' n' hu' hn' => ?_, fun u' n' k' hu' hn' hf => ?_⟩
  · by_cases e : (u', n') = (u, n)
    · obtain ⟨rfl, rfl⟩ := Prod.mk.inj e
      rw [has_put_same h.map (id_lit_key u' n'), updP_same]; rfl
    · rw [has_put_other (id_lit_ne hu hn hu' hn' e), h.has u' n' hu' hn', updP_other _ _ e]
  · by_cases e : (u', n') = (u, n)
    · obtain ⟨rfl, rfl⟩ := Prod.mk.inj e
      rw [updP_same] at hf
      injection hf with hf
      rw [atKey_put_same h.map (id_lit_key u' n'), hf]
    · rw [updP_other _ _ e] at hf
      rw [atKey_put_other (id_lit_ne hu hn hu' hn' e), h.at' u' n' k' hu' hn' hf]
theorem PlIs.del {D : DataW Unit} {f : Nat × Int → Option Nat} (h : PlIs D f) (u : Nat) (n : Int) (hu : u < 18446744073709551616) (hn : (Lit.int .i64 n).wf = true) : PlIs (D.del (idLit u n)) (updP f (u, n) none) := by
  refine ⟨h.map.del _, fun u' n' hu' hn' => ?_, fun u' n' k' hu' hn' hf => ?_⟩
  · by_cases e : (u', n') = (u, n)
    · obtain ⟨rfl, rfl⟩ := Prod.mk.inj e
      rw [has_del_same, updP_same]; rfl
    · rw [has_del_other (id_lit_ne hu hn hu' hn' e), h.has u' n' hu' hn', updP_other _ _ e]
  · by_cases e : (u', n') = (u, n)
    · obtain ⟨rfl, rfl⟩ := Prod.mk.inj e
      rw [updP_same] at hf; cases hf
    · rw [updP_other _ _ e] at hf
      rw [atKey_del_other (id_lit_ne hu hn hu' hn' e), h.at' u' n' k' hu' hn' hf]

/-- The first k lines stand at their places, and nothing else but lines stands anywhere. -/
structure Part (f : Nat × Int → Option Nat) (xs : List Li) (k : Nat) : Prop where
  at' : ∀ i (h : i < xs.length), i < k → f xs[i].id = some i
  none : ∀ p, p ∉ idsOf xs → f p = none
theorem part_nil : Part (fun _ => Option.none) [] 0 := ⟨fun _ h => absurd h (Nat.not_lt_zero _), fun _ _ => rfl⟩
theorem ids_mem {xs : List Li} {i : Nat} (h : i < xs.length) : xs[i].id ∈ idsOf xs := List.mem_map_of_mem (List.getElem_mem h)
theorem ids_len (xs : List Li) : (idsOf xs).length = xs.length := by simp [idsOf]
theorem ids_at {xs : List Li} {i : Nat} (h : i < xs.length) : (idsOf xs)[i]'(by rw [ids_len]; exact h) = xs[i].id := by simp [idsOf]
theorem ids_ne {xs : List Li} (hn : (idsOf xs).Nodup) {i j : Nat} (hi : i < xs.length) (hj : j < xs.length) (h : i ≠ j) : xs[i].id ≠ xs[j].id := fun e => by
  rw [← ids_at hi, ← ids_at hj] at e
  exact h ((List.getElem_inj (i := i) (j := j) (h₀ := by rw [ids_len]; exact hi) (h₁ := by rw [ids_len]; exact hj) hn).1 e)
theorem Part.nodup {f : Nat × Int → Option Nat} {xs : List Li} (h : Part f xs xs.length) : (idsOf xs).Nodup := by
  rw [List.nodup_iff_pairwise_ne, List.pairwise_iff_getElem]
  intro i j hi hj hij e
  rw [ids_len] at hi hj
  rw [ids_at hi, ids_at hj] at e
  have h1 := h.at' i hi hi
  have h2 := h.at' j hj hj
  rw [e, h2] at h1
  injection h1 with h1
  omega
theorem Part.step {f : Nat × Int → Option Nat} {xs : List Li} {k : Nat} (h : Part f xs k) (hn : (idsOf xs).Nodup) (hk : k < xs.length) : Part (updP f xs[k].id (some k)) xs (k + 1) := by
  refine ⟨fun i hi hik => ?_, fun p hp => ?_⟩
  · by_cases e : i = k
    · subst e; rw [updP_same]
    · rw [updP_other _ _ (ids_ne hn hi hk e)]
      exact h.at' i hi (by omega)
  · rw [updP_other _ _ (fun e => hp (by rw [e]; exact ids_mem hk))]
    exact h.none p hp
theorem Part.all {f : Nat × Int → Option Nat} {xs : List Li} {k : Nat} (h : Part f xs k) (hk : xs.length ≤ k) : Part f xs xs.length := ⟨fun i hi _ => h.at' i hi (by omega), h.none⟩
/-- Lines put in. -/
def insL (xs : List Li) (at' : Nat) (ys : List Li) : List Li := xs.take at' ++ ys ++ xs.drop at'
theorem insL_len (xs : List Li) {at' : Nat} (ys : List Li) (h : at' ≤ xs.length) : (insL xs at' ys).length = xs.length + ys.length := by simp [insL]; omega
theorem ids_ins (xs : List Li) (at' : Nat) (ys : List Li) (p : Nat × Int) : p ∈ idsOf (insL xs at' ys) ↔ p ∈ idsOf xs ∨ p ∈ idsOf ys := by
  have e : idsOf xs = idsOf (xs.take at') ++ idsOf (xs.drop at') := by unfold idsOf; rw [← List.map_append, List.take_append_drop]
  rw [e]
  unfold insL idsOf
  simp only [List.map_append, List.mem_append]
  constructor
  · rintro ((h | h) | h)
    · exact .inl (.inl h)
    · exact .inr h
    · exact .inl (.inr h)
  · rintro ((h | h) | h)
    · exact .inl (.inl h)
    · exact .inr h
    · exact .inl (.inr h)
theorem ids_ins_nodup {xs : List Li} (at' : Nat) {ys : List Li} (hx : (idsOf xs).Nodup) (hy : (idsOf ys).Nodup) (hd : ∀ y ∈ ys, y.id ∉ idsOf xs) : (idsOf (insL xs at' ys)).Nodup := by
  have e : (idsOf (insL xs at' ys)).Perm (idsOf xs ++ idsOf ys) := by
    unfold insL idsOf
    simp only [List.map_append]
    have e2 : xs.map Li.id = (xs.take at').map Li.id ++ (xs.drop at').map Li.id := by rw [← List.map_append, List.take_append_drop]
    rw [e2, List.append_assoc, List.append_assoc]
    exact List.Perm.append_left _ List.perm_append_comm
  rw [e.nodup_iff, List.nodup_append]
  refine ⟨hx, hy, fun a ha b hb hab => ?_⟩
  obtain ⟨y, hy', rfl⟩ := List.mem_map.1 hb
  exact hd y hy' (hab ▸ ha)
theorem Part.ins {f : Nat × Int → Option Nat} {xs : List Li} (h : Part f xs xs.length) (at' : Nat) (hat : at' ≤ xs.length) (ys : List Li) : Part f (insL xs at' ys) at' := by
  refine ⟨fun i hi hia => ?_, fun p hp => h.none p fun hm => hp ((ids_ins xs at' ys p).2 (.inl hm))⟩
  have e : (insL xs at' ys)[i] = xs[i]'(by omega) := by
    have e1 : (insL xs at' ys)[i]? = xs[i]? := by
      unfold insL
      rw [List.getElem?_append_left (by simp; omega), List.getElem?_append_left (by simp; omega), List.getElem?_take, if_pos hia]
    rw [List.getElem?_eq_getElem hi, List.getElem?_eq_getElem (by omega)] at e1
    exact Option.some.inj e1
  rw [e]
  exact h.at' i (by omega) (by omega)
theorem erase_ids {xs : List Li} {k : Nat} (p : Nat × Int) (h : p ∈ idsOf xs) (hk : k < xs.length) (hne : p ≠ xs[k].id) : p ∈ idsOf (xs.eraseIdx k) := by
  obtain ⟨x, hx, rfl⟩ := List.mem_map.1 h
  obtain ⟨i, hi, rfl⟩ := List.getElem_of_mem hx
  refine List.mem_map_of_mem ?_
  rw [List.mem_eraseIdx_iff_getElem]
  exact ⟨i, hi, fun e => hne (by subst e; rfl), rfl⟩
theorem Part.erase {f : Nat × Int → Option Nat} {xs : List Li} (h : Part f xs xs.length) (k : Nat) (hk : k < xs.length) : Part (updP f xs[k].id Option.none) (xs.eraseIdx k) k := by
  have hn := h.nodup
  refine ⟨fun i hi hik => ?_, fun p hp => ?_⟩
  · have e : (xs.eraseIdx k)[i] = xs[i]'(by omega) := by rw [List.getElem_eraseIdx, dif_pos hik]
    rw [e, updP_other _ _ (ids_ne hn (by omega) hk (by omega))]
    exact h.at' i (by omega) (by omega)
  · by_cases e : p = xs[k].id
    · rw [e, updP_same]
    · rw [updP_other _ _ e]
      exact h.none p fun hm => hp (erase_ids p hm hk e)
theorem erase_nodup {xs : List Li} (h : (idsOf xs).Nodup) (k : Nat) : (idsOf (xs.eraseIdx k)).Nodup :=
  List.Nodup.sublist ((List.eraseIdx_sublist xs k).map _) h
/-- No identity stands twice. -/
theorem tw_none_iff {xs : List Li} : twiceI xs = none ↔ (idsOf xs).Nodup := by
  constructor
  · intro h
    rw [List.nodup_iff_pairwise_ne, List.pairwise_iff_getElem]
    intro i j hi hj hij e
    rw [ids_len] at hi hj
    rw [ids_at hi, ids_at hj] at e
    unfold twiceI at h
    rw [List.find?_eq_none] at h
    refine h j (List.mem_range.2 hj) ((hit_iff hj).2 ?_)
    rw [← e]
    exact List.mem_map_of_mem (List.mem_take_iff_getElem.2 ⟨i, by omega, rfl⟩)
  · intro h
    refine tw_none fun j hj => ?_
    cases hh : hitAt xs j with
    | false => rfl
    | true =>
      obtain ⟨x, hx, e⟩ := List.mem_map.1 ((hit_iff hj).1 hh)
      obtain ⟨i, hi, rfl⟩ := List.mem_take_iff_getElem.1 hx
      exact absurd e (ids_ne h (by omega) hj (by omega))
end Go.Proofs.Ytfkkodcppaakjaa
