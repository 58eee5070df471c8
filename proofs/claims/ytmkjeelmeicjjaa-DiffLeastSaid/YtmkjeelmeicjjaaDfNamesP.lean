/- Two lists with one text in common: plain. append to a row of the call's own: what becomes of the old row. -/
import Derived.Test.YtmkjeelmeicjjaaDfFitP
import Derived.Test.YtmkjeelmeicjjaaOwnAppend
namespace Go.Proofs.Ytmkjeelmeicjjaa
open Go Go.RowKit

/-- A text of three bytes. -/
def nm (u i : Nat) : Tx := ⟨#[UInt8.ofNat u, UInt8.ofNat (i % 256), UInt8.ofNat (i / 256)]⟩
def nms (u k : Nat) : List Tx := (List.range k).map (nm u)
theorem nms_succ (u k : Nat) : nms u (k + 1) = nms u k ++ [nm u k] := by unfold nms; rw [List.range_succ, List.map_append]; rfl
theorem nms_len (u k : Nat) : (nms u k).length = k := by simp [nms]
theorem nms_at (u k i : Nat) (h : i < k) : (nms u k)[i]? = some (nm u i) := by unfold nms; rw [List.getElem?_map, List.getElem?_range h]; rfl
def tOne : Tx := ⟨#[111, 110, 101]⟩
def tMore : Tx := ⟨#[109, 111, 114, 101]⟩
def fb (t : Tx) : UInt8 := t.data.getD 0 0
def nA : List Tx := (nms 1 1024).set 500 tOne
def nB : List Tx := (nms 2 1024).set 20 tOne
theorem nA_len : nA.length = 1024 := by unfold nA; rw [List.length_set, nms_len]
theorem nB_len : nB.length = 1024 := by unfold nB; rw [List.length_set, nms_len]
theorem nA_at (i : Nat) (h : i < 1024) : nA[i]? = some (if i = 500 then tOne else nm 1 i) := by
  unfold nA
  by_cases e : i = 500
  · subst e
    rw [List.getElem?_set_self (by rw [nms_len]; exact h), if_pos rfl]
  · rw [List.getElem?_set_ne (fun e' => e e'.symm), nms_at 1 1024 i h, if_neg e]
theorem nB_at (i : Nat) (h : i < 1024) : nB[i]? = some (if i = 20 then tOne else nm 2 i) := by
  unfold nB
  by_cases e : i = 20
  · subst e
    rw [List.getElem?_set_self (by rw [nms_len]; exact h), if_pos rfl]
  · rw [List.getElem?_set_ne (fun e' => e e'.symm), nms_at 2 1024 i h, if_neg e]
theorem fb_nm (u i : Nat) : fb (nm u i) = UInt8.ofNat u := rfl
/-- Only one pair of places has the same text. -/
theorem only_one (i j : Nat) (hi : i < 1024) (hj : j < 1024) (h : nA[i]? = nB[j]?) : i = 500 ∧ j = 20 := by
  rw [nA_at i hi, nB_at j hj] at h
  injection h with h
  by_cases e1 : i = 500
  · by_cases e2 : j = 20
    · exact ⟨e1, e2⟩
    · rw [if_pos e1, if_neg e2] at h
      have := congrArg fb h
      rw [fb_nm] at this
      exact absurd this (by decide)
  · by_cases e2 : j = 20
    · rw [if_neg e1, if_pos e2] at h
      have := congrArg fb h
      rw [fb_nm] at this
      exact absurd this (by decide)
    · rw [if_neg e1, if_neg e2] at h
      have := congrArg fb h
      rw [fb_nm, fb_nm] at this
      exact absurd this (by decide)
theorem not_more (i : Nat) (hi : i < 1024) : nA[i]? ≠ some tMore := by
  rw [nA_at i hi]
  intro h
  injection h with h
  by_cases e1 : i = 500
  · rw [if_pos e1] at h
    exact absurd (congrArg fb h) (by decide)
  · rw [if_neg e1] at h
    have := congrArg fb h
    rw [fb_nm] at this
    exact absurd this (by decide)
theorem ris_one {a b : List Tx} {I J : Nat} (ho : ∀ i j, i < a.length → j < b.length → a[i]? = b[j]? → i = I ∧ j = J) : ∀ {i j : Nat} {qs : List (Nat × Nat)}, Ris a b i j qs → qs = [] ∨ qs = [(I, J)]
  | _, _, [], _ => .inl rfl
  | _, _, [q], h => by
    obtain ⟨_, _, h3, h4, h5, _⟩ := h.ge
    obtain ⟨e1, e2⟩ := ho _ _ h3 h4 h5
    exact .inr (by rw [← e1, ← e2])
  | _, _, q :: r :: qs, h => by
    obtain ⟨_, _, h3, h4, h5, h6⟩ := h.ge
    obtain ⟨k1, _, k3, k4, k5, _⟩ := h6.ge
    obtain ⟨e1, _⟩ := ho _ _ h3 h4 h5
    obtain ⟨e3, _⟩ := ho _ _ k3 k4 k5
    omega
theorem comm_one (a b : List Tx) (I J : Nat) (ho : ∀ i j, i < a.length → j < b.length → a[i]? = b[j]? → i = I ∧ j = J) : comm a b = [] ∨ comm a b = [(I, J)] := ris_one ho (comm_ris a b)
theorem one_ge (a b : List Tx) (t : Tx) (ha : t ∈ a) (hb : t ∈ b) : 1 ≤ lcs a b := lcs_ge [t] a b (List.singleton_sublist.2 ha) (List.singleton_sublist.2 hb)
theorem small_work (x y : Nat) (hx : x ≤ 1024) (hy : y ≤ 1024) : x * y ≤ maxWork := by
  have h := Nat.mul_le_mul hx hy
  unfold maxWork
  omega
theorem comm_len_small (a b : List Tx) (ha : a.length ≤ 1024) (hb : b.length ≤ 1024) : (comm a b).length = lcs a b := comm_length a b (small_work _ _ (by omega) (by omega))
theorem nAB_comm : comm nA nB = [(500, 20)] := by
  have hc := comm_one nA nB 500 20 (fun i j hi hj => only_one i j (Nat.lt_of_lt_of_eq hi nA_len) (Nat.lt_of_lt_of_eq hj nB_len))
  have hl := comm_len_small nA nB (Nat.le_of_eq nA_len) (Nat.le_of_eq nB_len)
  have m1 : tOne ∈ nA := List.mem_of_getElem? (nA_at 500 (by decide))
  have m2 : tOne ∈ nB := List.mem_of_getElem? (nB_at 20 (by decide))
  have h1 := one_ge nA nB tOne m1 m2
  generalize lcs nA nB = L at *
  generalize comm nA nB = C at *
  rcases hc with h | h
  · subst h
    simp at hl
    omega
  · exact h
theorem nAB_patch : patch nA nB = [⟨0, seg nA 0 500, seg nB 0 20⟩, ⟨501, seg nA 501 1024, seg nB 21 1024⟩] := by
  unfold patch
  rw [nAB_comm, nA_len, nB_len]
  rfl
theorem nA_map : ((nms 1 1024).map Value.string).set 500 (.string ⟨#[111, 110, 101]⟩) = nA.map Value.string := by
  unfold nA; rw [List.map_set]; rfl
theorem nB_map : ((nms 2 1024).map Value.string).set 20 (.string ⟨#[111, 110, 101]⟩) = nB.map Value.string := by
  unfold nB; rw [List.map_set]; rfl
def nC : List Tx := nB ++ [tMore]
theorem nC_map : nB.map Value.string ++ [.string ⟨#[109, 111, 114, 101]⟩] = nC.map Value.string := by
  unfold nC; rw [List.map_append]; rfl
theorem nC_len : nC.length = 1025 := by unfold nC; rw [List.length_append, nB_len]; rfl
theorem only_two (i j : Nat) (hi : i < 1024) (hj : j < 1025) (h : nA[i]? = nC[j]?) : i = 500 ∧ j = 20 := by
  unfold nC at h
  by_cases e : j < 1024
  · rw [List.getElem?_append_left (by rw [nB_len]; exact e)] at h
    exact only_one i j hi e h
  · have e' : j = 1024 := by omega
    subst e'
    rw [List.getElem?_append_right (by rw [nB_len]; exact Nat.le_refl _), nB_len] at h
    exact absurd h (not_more i hi)
theorem nAC_comm : comm nA nC = [] := by
  have hsl := suf_le nA nC
  rw [nA_len, nC_len] at hsl
  have hp : pre nA nC = 0 := by
    rcases Nat.eq_zero_or_pos (pre nA nC) with h | h
    · exact h
    · have := only_two 0 0 (by omega) (by omega) (pre_same nA nC 0 h)
      omega
  have hs : suf nA nC = 0 := by
    rcases Nat.eq_zero_or_pos (suf nA nC) with h | h
    · exact h
    · have := suf_same nA nC 0 h
      rw [nA_len, nC_len] at this
      have := only_two 1023 1024 (by omega) (by omega) this
      omega
  have hm : midPairs (mid nA 0 0) (mid nC 0 0) = [] := by
    unfold midPairs
    rw [mid_len, mid_len, nA_len, nC_len, if_neg (by decide)]
  rw [comm_eq]
  unfold midQ
  rw [hp, hs, hm]; rfl
theorem nAC_patch : patch nA nC = [⟨0, seg nA 0 1024, seg nC 0 1025⟩] := by
  unfold patch
  rw [nAC_comm, nA_len, nC_len]
  rfl
theorem n_sizes : (∀ t ∈ nA ++ nB, t.size ≤ maxLen) ∧ ∀ t ∈ nA ++ nC, t.size ≤ maxLen := by
  have h3 : (3 : Nat) ≤ maxLen := by decide
  have h4 : (4 : Nat) ≤ maxLen := by decide
  have hA : ∀ t ∈ nA, t.size ≤ maxLen := fun t ht => by
    obtain ⟨i, hi⟩ := List.mem_iff_getElem?.1 ht
    have hlt : i < 1024 := by
      have := (List.getElem?_eq_some_iff.1 hi).1
      rwa [nA_len] at this
    rw [nA_at i hlt] at hi
    injection hi with hi
    rw [← hi]
    split
    · exact h3
    · exact h3
  have hB : ∀ t ∈ nB, t.size ≤ maxLen := fun t ht => by
    obtain ⟨i, hi⟩ := List.mem_iff_getElem?.1 ht
    have hlt : i < 1024 := by
      have := (List.getElem?_eq_some_iff.1 hi).1
      rwa [nB_len] at this
    rw [nB_at i hlt] at hi
    injection hi with hi
    rw [← hi]
    split
    · exact h3
    · exact h3
  refine ⟨fun t ht => ?_, fun t ht => ?_⟩
  · rcases List.mem_append.1 ht with h | h
    · exact hA t h
    · exact hB t h
  · rcases List.mem_append.1 ht with h | h
    · exact hA t h
    · rcases List.mem_append.1 h with h | h
      · exact hB t h
      · rw [List.mem_singleton] at h
        subst h
        exact h4
section
variable {P : Program} (w : World)
/-- append: where the row moves, the old one stays as it was. -/
theorem run_append_two (base : Nat) (t ty e : TypeId) (i : TypeInfo) (z : Value) (size bytes : Nat) (ht : P.underlying t = some (.slice e)) (hi : P.info? e = some i) (hz : i.zero = some z)
    (hsize : i.size = size) (hby : i.bytes = bytes) (hzs : z.cells.size = size) (hsz : 0 < size)
    (g cap n : Nat) (xs : List Value) (hown : w.ownsRow base e size (.slice (some ⟨g, 0, none⟩) n cap) n xs)
    (a : Addr) (m c : Nat) (news : List Value) (hl : news.length = m * size) (hnews : ∀ j u, news[j]? = some u → w.cell? (a.add j) = some u) (h1 : ∀ u ∈ news, u.oneCell' = true)
    (h63 : n + m ≤ maxLen) (hbytes : (n + m) * bytes ≤ 140737488355328) (hbase : base ≤ w.heap.size) :
    ∃ v' w', (Builtin.append_ #[t, t] ty #[.slice (some ⟨g, 0, none⟩) n cap, .slice (some a) m c]).run P w = .ok v' w' ∧ w'.ownsRow base e size v' (n + m) (xs ++ news) ∧ w.grownBy w' (some g) ∧
      (v'.ownBlock = some g ∨ (v'.ownBlock = some w.heap.size ∧ w'.heap[g]? = w.heap[g]?)) := by
  obtain ⟨v', w', hr, h2, h3, h4⟩ := run_append_own (P := P) w base t ty e i z size bytes ht hi hz hsize hby hzs hsz (.slice (some ⟨g, 0, none⟩) n cap) n xs hown a m c news hl hnews h1 h63 hbytes hbase
  refine ⟨v', w', hr, h2, h3, ?_⟩
  subst hsize
  subst hby
  have hsmall : n + m ≤ 9223372036854775807 := by simp only [maxLen] at h63; omega
  have hown0 := hown
  rcases hown.2 with ⟨e0, _⟩ | ⟨g', cap', cur, e0, hbg, hg, hnc, hcm, hcs, htake⟩
  · cases e0
  · injection e0 with e1 e2 e3
    injection e1 with e1
    injection e1 with e1
    subst e1 e3
    have hglt : g < w.heap.size := (Array.getElem?_eq_some_iff.1 hg).1
    by_cases hroom : n + m ≤ cap
    · have hfit : n * i.size + news.length ≤ cur.size := by rw [hl, hcs, ← Nat.add_mul]; exact Nat.mul_le_mul_right _ hroom
      have hr2 := run_append_room (P := P) w t ty e i ht hi g n cap cur hg a m c news hl hnews h1 hroom hfit
      rw [hr] at hr2
      injection hr2 with e1 _
      rw [e1]; exact .inl rfl
    · have holds : ∀ j u, xs[j]? = some u → w.cell? ((⟨g, 0, none⟩ : Addr).add j) = some u := hown0.cells (g := g) rfl
      have hr2 := run_append_grow (P := P) w t ty e i z ht hi hz ⟨g, 0, none⟩ n cap xs hown0.1 holds a m c news hl hnews (by omega) (by omega) (growslice_fits (by omega) hbytes)
      rw [hr] at hr2
      injection hr2 with e1 e2
      rw [e1]
      refine .inr ⟨rfl, ?_⟩
      rw [e2]
      exact Below.heap_alloc _ _ _ hglt
theorem wpList_append_two {ops : Array Oper} {rest : List Oper} {o : Oper} {a : Act} {Q : Exit → Act → World → Prop} (hgd : o.guard = none) (s x : Operand) (t : TypeId)
    (ho : o.op = .call { callee := .builtin .append, args := #[s, x], argTypes := #[t, t] })
    (base : Nat) (e : TypeId) (i : TypeInfo) (z : Value) (size bytes : Nat) (ht : P.underlying t = some (.slice e)) (hi : P.info? e = some i) (hz : i.zero = some z)
    (hsize : i.size = size) (hby : i.bytes = bytes) (hzs : z.cells.size = size) (hsz : 0 < size)
    (g cap n : Nat) (xs : List Value) (hs : a.eval s = .slice (some ⟨g, 0, none⟩) n cap) (hown : w.ownsRow base e size (.slice (some ⟨g, 0, none⟩) n cap) n xs)
    (ad : Addr) (m c : Nat) (news : List Value) (hx : a.eval x = .slice (some ad) m c) (hl : news.length = m * size) (hnews : ∀ j u, news[j]? = some u → w.cell? (ad.add j) = some u) (h1 : ∀ u ∈ news, u.oneCell' = true)
    (h63 : n + m ≤ maxLen) (hbytes : (n + m) * bytes ≤ 140737488355328) (hbase : base ≤ w.heap.size)
    (h : ∀ v' w', w'.ownsRow base e size v' (n + m) (xs ++ news) → w.grownBy w' (some g) → (v'.ownBlock = some g ∨ (v'.ownBlock = some w.heap.size ∧ w'.heap[g]? = w.heap[g]?)) → wpList P ops Q rest (a.put o.dst v') w') : wpList P ops Q (o :: rest) a w :=
  wpList_plain hgd fun K hK => by
    obtain ⟨v', w', hr, h2, h3, h4⟩ := run_append_two (P := P) w base t o.type e i z size bytes ht hi hz hsize hby hzs hsz g cap n xs hown ad m c news hl hnews h1 h63 hbytes hbase
    unfold Oper.wp execOp
    simp only [ho, resolve, invoke, builtin, Sem.run_bind, Sem.run_pure, Result.andThen_ok, List.map_toArray, List.map_cons, List.map_nil, hs, hx, hr]
    exact hK _ _ (h v' w' h2 h3 h4)
end
end Go.Proofs.Ytmkjeelmeicjjaa
