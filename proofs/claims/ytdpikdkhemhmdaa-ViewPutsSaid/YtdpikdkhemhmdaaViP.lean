/- Views, plainly: what is seen, in its order and at its places; what is put. No program. -/
import Derived.Test.YtdpikdkhemhmdaaIdBase
import Derived.Test.YtdpikdkhemhmdaaLbPlain
namespace Go.Proofs.Ytdpikdkhemhmdaa
open Go

/-- A place and the line that stands there. -/
structure Ent where
  i : Int
  x : Li
def entsOf (xs : List Li) : List Ent := (List.range xs.length).map fun i : Nat => (⟨(i : Int), xs[i]!⟩ : Ent)
theorem ents_len (xs : List Li) : (entsOf xs).length = xs.length := by simp [entsOf]
theorem ents_at {xs : List Li} {k : Nat} (h : k < xs.length) : (entsOf xs)[k]'(by rw [ents_len]; exact h) = ⟨(k : Int), xs[k]⟩ := by
  simp [entsOf, List.getElem?_eq_getElem h]
def encE (y : Ent) : Array Value := #[.int .i64 y.i, y.x.agg]
/-- What has come of those that are asked for, when k lines are gone over. -/
def entT (f : Li → Bool) (xs : List Li) (k : Nat) : List Ent := ((entsOf xs).take k).filter fun y => f y.x
def entF (f : Li → Bool) (xs : List Li) : List Ent := (entsOf xs).filter fun y => f y.x
theorem entT_all (f : Li → Bool) (xs : List Li) {k : Nat} (h : xs.length ≤ k) : entT f xs k = entF f xs := by
  unfold entT entF
  rw [List.take_of_length_le (by rw [ents_len]; exact h)]
theorem entT_step {f : Li → Bool} {xs : List Li} {k : Nat} (h : k < xs.length) : entT f xs (k + 1) = entT f xs k ++ (if f xs[k] then [⟨(k : Int), xs[k]⟩] else []) := by
  unfold entT
  rw [List.take_succ_eq_append_getElem (by rw [ents_len]; exact h), List.filter_append, ents_at h]
  cases hf : f xs[k] <;> simp [hf]
theorem entT_prefix (f : Li → Bool) (xs : List Li) (k : Nat) : entT f xs k <+: entF f xs := (List.take_prefix _ _).filter _
theorem entT_len (f : Li → Bool) (xs : List Li) (k : Nat) : (entT f xs k).length ≤ k := Nat.le_trans (List.length_filter_le _ _) (by rw [List.length_take]; omega)
theorem filter_step (f : Li → Bool) {xs : List Li} {k : Nat} (h : k < xs.length) : (xs.take (k + 1)).filter f = (xs.take k).filter f ++ (if f xs[k] then [xs[k]] else []) := by
  rw [List.take_succ_eq_append_getElem h, List.filter_append]
  cases hf : f xs[k] <;> simp [hf]
theorem entT_x (f : Li → Bool) (xs : List Li) : ∀ k, k ≤ xs.length → (entT f xs k).map (·.x) = (xs.take k).filter f
  | 0, _ => by simp [entT]
  | k + 1, h => by
    rw [entT_step (by omega), filter_step f (by omega), List.map_append, entT_x f xs k (by omega)]
    cases hf : f xs[k] <;> simp
theorem entF_x (f : Li → Bool) (xs : List Li) : (entF f xs).map (·.x) = xs.filter f := by
  rw [← entT_all f xs (Nat.le_refl _), entT_x f xs _ (Nat.le_refl _), List.take_length]
def placesT (f : Li → Bool) (xs : List Li) (k : Nat) : List Int := (entT f xs k).map (·.i)
def places (f : Li → Bool) (xs : List Li) : List Int := (entF f xs).map (·.i)
theorem placesT_step {f : Li → Bool} {xs : List Li} {k : Nat} (h : k < xs.length) : placesT f xs (k + 1) = placesT f xs k ++ (if f xs[k] then [(k : Int)] else []) := by
  unfold placesT
  rw [entT_step h, List.map_append]
  cases hf : f xs[k] <;> simp
theorem placesT_all (f : Li → Bool) (xs : List Li) {k : Nat} (h : xs.length ≤ k) : placesT f xs k = places f xs := by
  unfold placesT places; rw [entT_all f xs h]
theorem places_len (f : Li → Bool) (xs : List Li) : (places f xs).length = (xs.filter f).length := by
  rw [← entF_x f xs]; simp [places]
theorem placesT_len (f : Li → Bool) (xs : List Li) (k : Nat) : (placesT f xs k).length ≤ k := by
  unfold placesT; rw [List.length_map]; exact entT_len f xs k
/-- How many of those asked for stand ahead of a place. -/
def rank (f : Li → Bool) (xs : List Li) (j : Nat) : Nat := ((xs.take j).filter f).length
theorem rank_zero (f : Li → Bool) (xs : List Li) : rank f xs 0 = 0 := by simp [rank]
theorem rank_step {f : Li → Bool} {xs : List Li} {k : Nat} (h : k < xs.length) : rank f xs (k + 1) = rank f xs k + (if f xs[k] then 1 else 0) := by
  unfold rank
  rw [filter_step f h, List.length_append]
  cases hf : f xs[k] <;> simp
theorem rank_mono (f : Li → Bool) (xs : List Li) {i j : Nat} (h : i ≤ j) : rank f xs i ≤ rank f xs j := by
  unfold rank
  exact ((List.take_prefix_take_left h).filter f).length_le
theorem rank_le (f : Li → Bool) (xs : List Li) (j : Nat) : rank f xs j ≤ (xs.filter f).length := ((List.take_prefix j xs).filter f).length_le
theorem rank_lt {f : Li → Bool} {xs : List Li} {j : Nat} (h : j < xs.length) (hf : f xs[j] = true) : rank f xs j < (xs.filter f).length := by
  have h1 := rank_step (f := f) h
  rw [hf, if_pos rfl] at h1
  have := rank_le f xs (j + 1); omega
theorem filter_at {f : Li → Bool} {xs : List Li} {m : Nat} (h : m < xs.length) (hf : f xs[m] = true) : ∃ hl : rank f xs m < (xs.filter f).length, (xs.filter f)[rank f xs m] = xs[m] := by
  refine ⟨rank_lt h hf, ?_⟩
  have hp : (xs.take (m + 1)).filter f <+: xs.filter f := (List.take_prefix _ _).filter f
  have hs := filter_step f h
  rw [hf, if_pos rfl] at hs
  have hl : rank f xs m < ((xs.take (m + 1)).filter f).length := by rw [hs]; unfold rank; simp
  rw [← hp.getElem hl]
  simp only [hs]
  rw [List.getElem_append_right (by unfold rank; exact Nat.le_refl _)]
  simp
theorem rank_all (f : Li → Bool) (xs : List Li) {k : Nat} (h : xs.length ≤ k) : rank f xs k = (xs.filter f).length := by
  unfold rank; rw [List.take_of_length_le h]
theorem entT_rank {f : Li → Bool} {xs : List Li} : ∀ m, m ≤ xs.length → ∀ k (hk : k < (entT f xs m).length), ∃ p, ∃ h : p < xs.length, p < m ∧ (entT f xs m)[k] = ⟨(p : Int), xs[p]⟩ ∧ f xs[p] = true ∧ rank f xs p = k
  | 0, _, k, hk => by simp [entT] at hk
  | m + 1, hm, k, hk => by
    have hs := entT_step (f := f) (xs := xs) (k := m) (by omega)
    have hlen : (entT f xs m).length = rank f xs m := by
      have := congrArg List.length (entT_x f xs m (by omega))
      rw [List.length_map] at this; exact this
    by_cases h : k < (entT f xs m).length
    · obtain ⟨p, hp, hpm, he, hf, hr⟩ := entT_rank m (by omega) k h
      refine ⟨p, hp, by omega, ?_, hf, hr⟩
      rw [← he]; simp only [hs]; rw [List.getElem_append_left h]
    · cases hf : f xs[m] with
      | false => rw [hs, hf] at hk; simp at hk; omega
      | true =>
        have hk2 : k = (entT f xs m).length := by rw [hs, hf] at hk; simp at hk; omega
        refine ⟨m, by omega, by omega, ?_, hf, by rw [← hlen, hk2]⟩
        simp only [hs, hf, if_true]
        rw [List.getElem_append_right (by omega)]
        simp [hk2]
theorem places_rank {f : Li → Bool} {xs : List Li} {k : Nat} (hk : k < (places f xs).length) : ∃ p, ∃ h : p < xs.length, (places f xs)[k] = (p : Int) ∧ f xs[p] = true ∧ rank f xs p = k := by
  unfold places at hk ⊢
  rw [List.length_map] at hk
  have e := entT_all f xs (Nat.le_refl xs.length)
  obtain ⟨p, hp, _, he, hf, hr⟩ := entT_rank (f := f) (xs := xs) xs.length (Nat.le_refl _) k (by rw [e]; exact hk)
  refine ⟨p, hp, ?_, hf, hr⟩
  rw [List.getElem_map]
  simp only [e] at he
  rw [he]
theorem rank_inj {f : Li → Bool} {xs : List Li} {i j : Nat} (hi : i < xs.length) (hj : j < xs.length) (h1 : f xs[i] = true) (h2 : f xs[j] = true) (h : rank f xs i = rank f xs j) : i = j := by
  rcases Nat.lt_trichotomy i j with hlt | he | hlt
  · have a := rank_step (f := f) hi
    rw [h1, if_pos rfl] at a
    have := rank_mono f xs (show i + 1 ≤ j from hlt); omega
  · exact he
  · have a := rank_step (f := f) hj
    rw [h2, if_pos rfl] at a
    have := rank_mono f xs (show j + 1 ≤ i from hlt); omega
/-- The lines when the first k of vs are put in the place of those that are asked for. -/
def putK (f : Li → Bool) (xs vs : List Li) (k : Nat) : List Li := (List.range xs.length).map fun j => if f xs[j]! && decide (rank f xs j < k) then vs[rank f xs j]! else xs[j]!
theorem putK_len (f : Li → Bool) (xs vs : List Li) (k : Nat) : (putK f xs vs k).length = xs.length := by simp [putK]
theorem putK_at {f : Li → Bool} {xs : List Li} (vs : List Li) (k : Nat) {j : Nat} (h : j < xs.length) : (putK f xs vs k)[j]'(by rw [putK_len]; exact h) = if f xs[j] && decide (rank f xs j < k) then vs[rank f xs j]! else xs[j] := by
  simp [putK, List.getElem?_eq_getElem h]
theorem putK_zero (f : Li → Bool) (xs vs : List Li) : putK f xs vs 0 = xs := by
  refine List.ext_getElem (putK_len _ _ _ _) fun j h1 h2 => ?_
  rw [putK_at vs 0 h2]; simp
theorem putK_step {f : Li → Bool} {xs vs : List Li} {k p : Nat} (hp : p < xs.length) (hf : f xs[p] = true) (hr : rank f xs p = k) (hk : k < vs.length) : putK f xs vs (k + 1) = (putK f xs vs k).set p vs[k] := by
  refine List.ext_getElem (by rw [List.length_set, putK_len, putK_len]) fun j h1 h2 => ?_
  have hj : j < xs.length := by rw [putK_len] at h1; exact h1
  rw [putK_at vs _ hj, List.getElem_set]
  by_cases e : p = j
  · subst e
    rw [if_pos rfl, hf, hr]; simp [List.getElem?_eq_getElem hk]
  · rw [if_neg e, putK_at vs k hj]
    cases hfj : f xs[j] with
    | false => simp
    | true =>
      have hne : rank f xs j ≠ k := fun h => e (rank_inj hp hj hf hfj (hr.trans h.symm))
      have : (rank f xs j < k + 1) = (rank f xs j < k) := by rw [eq_iff_iff]; omega
      simp only [this]
/-- The lines with vs put in the place of those that are asked for. -/
def putI (f : Li → Bool) (xs vs : List Li) : List Li := (List.range xs.length).map fun j => if f xs[j]! then vs[rank f xs j]! else xs[j]!
theorem putI_len (f : Li → Bool) (xs vs : List Li) : (putI f xs vs).length = xs.length := by simp [putI]
theorem putI_at {f : Li → Bool} {xs : List Li} (vs : List Li) {j : Nat} (h : j < xs.length) : (putI f xs vs)[j]'(by rw [putI_len]; exact h) = if f xs[j] then vs[rank f xs j]! else xs[j] := by
  simp [putI, List.getElem?_eq_getElem h]
theorem putK_all {f : Li → Bool} {xs vs : List Li} {k : Nat} (hk : (xs.filter f).length ≤ k) : putK f xs vs k = putI f xs vs := by
  refine List.ext_getElem (by rw [putK_len, putI_len]) fun j h1 h2 => ?_
  have hj : j < xs.length := by rw [putK_len] at h1; exact h1
  rw [putK_at vs _ hj, putI_at vs hj]
  cases hfj : f xs[j] with
  | false => simp
  | true =>
    have := rank_lt hj hfj
    rw [decide_eq_true (by omega)]; simp
theorem rank_cons (f : Li → Bool) (x : Li) (xs : List Li) (j : Nat) : rank f (x :: xs) (j + 1) = rank f xs j + (if f x then 1 else 0) := by
  unfold rank
  rw [List.take_succ_cons, List.filter_cons]
  cases hf : f x <;> simp
theorem putI_cons (f : Li → Bool) (x : Li) (xs vs : List Li) : putI f (x :: xs) vs = (if f x then vs[0]! else x) :: putI f xs (if f x then vs.drop 1 else vs) := by
  refine List.ext_getElem (by rw [putI_len, List.length_cons, List.length_cons, putI_len]) fun j h1 h2 => ?_
  rw [putI_len] at h1
  rw [putI_at vs h1]
  match j, h1 with
  | 0, _ => rw [rank_zero]; rfl
  | j + 1, h1 =>
    have hj : j < xs.length := by simpa using h1
    rw [List.getElem_cons_succ, List.getElem_cons_succ, putI_at _ hj, rank_cons]
    cases hf : f x <;> cases hg : f xs[j] <;> simp [Nat.add_comm]
theorem putI_view (f : Li → Bool) : ∀ xs : List Li, putI f xs (xs.filter f) = xs
  | [] => rfl
  | x :: xs => by
    have ih := putI_view f xs
    rw [putI_cons, List.filter_cons]
    cases hf : f x
    · simpa using ih
    · simpa using ih
theorem putI_seen (f : Li → Bool) : ∀ xs vs : List Li, vs.length = (xs.filter f).length → (∀ v ∈ vs, f v = true) → (putI f xs vs).filter f = vs
  | [], vs, h, _ => by
    have : vs = [] := List.eq_nil_of_length_eq_zero (by simpa using h)
    rw [this]; rfl
  | x :: xs, vs, h, hv => by
    rw [putI_cons, List.filter_cons]
    rw [List.filter_cons] at h
    cases hf : f x
    · rw [hf] at h
      simp only [Bool.false_eq_true, if_false] at h ⊢
      rw [hf]; simp only [Bool.false_eq_true, if_false]
      exact putI_seen f xs vs h hv
    · rw [hf] at h
      match vs, h, hv with
      | v :: vs, h, hv =>
        simp only [if_true, List.length_cons] at h
        have hfv := hv v (by simp)
        simp only [if_true, List.drop_succ_cons, List.drop_zero]
        rw [show (v :: vs)[0]! = v from rfl, hfv, if_pos rfl, putI_seen f xs vs (by omega) fun u hu => hv u (by simp [hu])]
theorem putI_hidden (f : Li → Bool) : ∀ xs vs : List Li, vs.length = (xs.filter f).length → (∀ v ∈ vs, f v = true) → (putI f xs vs).filter (fun x => !f x) = xs.filter fun x => !f x
  | [], vs, h, _ => rfl
  | x :: xs, vs, h, hv => by
    rw [putI_cons, List.filter_cons, List.filter_cons]
    rw [List.filter_cons] at h
    cases hf : f x
    · rw [hf] at h
      simp only [Bool.false_eq_true, if_false] at h ⊢
      rw [hf]; simp only [Bool.not_false, if_true]
      rw [putI_hidden f xs vs h hv]
    · rw [hf] at h
      match vs, h, hv with
      | v :: vs, h, hv =>
        simp only [if_true, List.length_cons] at h
        have hfv := hv v (by simp)
        simp only [if_true, List.drop_succ_cons, List.drop_zero]
        rw [show (v :: vs)[0]! = v from rfl, hfv]
        simp only [Bool.not_true, Bool.false_eq_true, if_false]
        exact putI_hidden f xs vs (by omega) fun u hu => hv u (by simp [hu])

/-! ### What a clearance sees -/
def seenB (c : Nat) (x : Li) : Bool := belowB x.u c
theorem below_self (a : Nat) : belowB a a = true := (below_iff a a).2 fun _ _ h => h
theorem below_and (a c d : Nat) : belowB a (c &&& d) = (belowB a c && belowB a d) := by
  rw [Bool.eq_iff_iff, Bool.and_eq_true, below_iff, below_iff, below_iff]
  constructor
  · intro h
    exact ⟨fun i hi ha => by have := h i hi ha; rw [Nat.testBit_and, Bool.and_eq_true] at this; exact this.1, fun i hi ha => by have := h i hi ha; rw [Nat.testBit_and, Bool.and_eq_true] at this; exact this.2⟩
  · rintro ⟨h1, h2⟩ i hi ha
    rw [Nat.testBit_and, h1 i hi ha, h2 i hi ha]; rfl
theorem below_orL (a c d : Nat) (h : belowB a c = true) : belowB a (c ||| d) = true := by
  rw [below_iff] at h ⊢
  intro i hi ha
  rw [Nat.testBit_or, h i hi ha]; rfl
theorem view_both (xs : List Li) (a b : Nat) : (xs.filter (seenB a)).filter (seenB b) = xs.filter (seenB (a &&& b)) := by
  rw [List.filter_filter]
  refine List.filter_congr fun x _ => ?_
  show (belowB x.u b && belowB x.u a) = belowB x.u (a &&& b)
  rw [below_and, Bool.and_comm]
theorem view_wide (xs : List Li) (a b : Nat) : (xs.filter (seenB (a ||| b))).filter (seenB a) = xs.filter (seenB a) := by
  rw [List.filter_filter]
  refine List.filter_congr fun x _ => ?_
  show (belowB x.u a && belowB x.u (a ||| b)) = belowB x.u a
  cases h : belowB x.u a
  · rfl
  · rw [below_orL _ _ _ h]; rfl
theorem view_self (xs : List Li) (c : Nat) : (xs.filter (seenB c)).filter (seenB c) = xs.filter (seenB c) := by
  rw [view_both, Nat.and_self]
theorem view_under (xs : List Li) (c b : Nat) : (xs.filter (seenB c)).filter (seenB (c &&& b)) = xs.filter (seenB (c &&& b)) := by
  rw [view_both, ← Nat.and_assoc, Nat.and_self]
theorem view_in (xs : List Li) (c : Nat) (o : Li) (h : seenB c o = false) (k : Nat) : (xs.take k ++ [o] ++ xs.drop k).filter (seenB c) = xs.filter (seenB c) := by
  rw [List.filter_append, List.filter_append]
  simp only [List.filter_cons, h, List.filter_nil, Bool.false_eq_true, if_false, List.append_nil]
  rw [← List.filter_append, List.take_append_drop]
theorem putI_mem {f : Li → Bool} {xs vs : List Li} (h : vs.length = (xs.filter f).length) : ∀ x ∈ putI f xs vs, x ∈ xs ∨ x ∈ vs := fun x hx => by
  obtain ⟨j, hj, rfl⟩ := List.getElem_of_mem hx
  have hj' : j < xs.length := by rw [putI_len] at hj; exact hj
  rw [putI_at vs hj']
  split
  · next hf =>
    have := rank_lt hj' hf
    right
    rw [getElem!_pos vs _ (by omega)]
    exact List.getElem_mem _
  · exact .inl (List.getElem_mem _)
/-- A line with a sign behind its text, as one's own. -/
def bang (c : Nat) (x : Li) : Li := ⟨c, x.n, x.r, x.s ++ ⟨#[33]⟩⟩
def bangK (c : Nat) (vs : List Li) (k : Nat) : List Li := (vs.take k).map (bang c) ++ vs.drop k
theorem bangK_len (c : Nat) (vs : List Li) (k : Nat) : (bangK c vs k).length = vs.length := by simp [bangK]; omega
theorem bangK_zero (c : Nat) (vs : List Li) : bangK c vs 0 = vs := by simp [bangK]
theorem bangK_all (c : Nat) (vs : List Li) : bangK c vs vs.length = vs.map (bang c) := by simp [bangK]
theorem bangK_at {c : Nat} {vs : List Li} {k : Nat} (h : k < vs.length) : (bangK c vs k)[k]'(by rw [bangK_len]; exact h) = vs[k] := by
  unfold bangK
  rw [List.getElem_append_right (by simp; omega)]
  simp [Nat.min_eq_left (Nat.le_of_lt h)]
theorem bangK_step {c : Nat} {vs : List Li} {k : Nat} (h : k < vs.length) : (bangK c vs k).set k (bang c vs[k]) = bangK c vs (k + 1) := by
  unfold bangK
  have hl : ((vs.take k).map (bang c)).length = k := by simp; omega
  rw [List.set_append_right _ _ (by omega), hl, Nat.sub_self, List.drop_eq_getElem_cons h, List.set_cons_zero, List.take_succ_eq_append_getElem h, List.map_append]
  simp
theorem liCells_us : ∀ (xs : List Li) (k u : Nat) (s : ByteArray) (h : k < xs.length), ((liCells xs).set (k * 4 + 3) (.string s)).set (k * 4) (.int .u64 u) = liCells (xs.set k ⟨u, xs[k].n, xs[k].r, s⟩)
  | y :: xs, 0, u, s, _ => by
    simp only [liCells_cons, List.set_cons_zero]; rfl
  | y :: xs, k + 1, u, s, h => by
    have ih := liCells_us xs k u s (Nat.lt_of_succ_lt_succ h)
    simp only [List.getElem_cons_succ]
    rw [liCells_cons, List.set_cons_succ, liCells_cons, ← ih]
    have e0 : (k + 1) * 4 = k * 4 + 1 + 1 + 1 + 1 := by omega
    have e3 : (k + 1) * 4 + 3 = k * 4 + 3 + 1 + 1 + 1 + 1 := by omega
    rw [e3, e0]
    rfl
theorem own_nil {W : World} {B : Nat} {e : TypeId} {p : Option Addr} {n c size : Nat} {cs : List Value} (h : W.ownsRow B e size (.slice p n c) n cs) : p = none → n = 0 ∧ c = 0 := fun hp => by
  subst hp
  rcases h.2 with ⟨hv, h0⟩ | ⟨g, cap, cur, hv, _⟩
  · injection hv with e1 e2 e3
    exact ⟨h0, e3⟩
  · injection hv with e1
    cases e1
theorem filter_both (xs : List Li) (f : Li → Bool) : (xs.filter f).length + (xs.filter fun x => !f x).length = xs.length := by
  induction xs with
  | nil => rfl
  | cons x xs ih =>
    simp only [List.filter_cons, List.length_cons]
    cases f x <;> simp <;> omega
theorem filter_ok {xs : List Li} {f : Li → Bool} (h : ∀ x ∈ xs, LiOk x) : ∀ x ∈ xs.filter f, LiOk x := fun x hx => h x (List.mem_filter.1 hx).1
theorem filter_u {xs : List Li} {f : Li → Bool} (h : ∀ x ∈ xs, x.u < 18446744073709551616) : ∀ x ∈ xs.filter f, x.u < 18446744073709551616 := fun x hx => h x (List.mem_filter.1 hx).1
theorem filter_le (xs : List Li) (f : Li → Bool) {n : Nat} (hn : xs.length ≤ n) : (xs.filter f).length ≤ n := Nat.le_trans (List.length_filter_le _ _) hn
end Go.Proofs.Ytdpikdkhemhmdaa
