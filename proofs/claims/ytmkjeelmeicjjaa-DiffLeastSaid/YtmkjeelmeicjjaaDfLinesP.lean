/- The hunks between what stays: plain; hunks kept in rows of the call's own. -/
import Derived.Test.YtmkjeelmeicjjaaDfComm
namespace Go.Proofs.Ytmkjeelmeicjjaa
open Go Go.RowKit

/-- Rising, and within two ends. -/
def Ch (n m : Nat) : Nat → Nat → List (Nat × Nat) → Prop
  | _, _, [] => True
  | i, j, q :: qs => i ≤ q.1 ∧ j ≤ q.2 ∧ q.1 ≤ n ∧ q.2 ≤ m ∧ Ch n m (q.1 + 1) (q.2 + 1) qs
theorem ch_of {a b : List Tx} : ∀ {i j : Nat} {qs : List (Nat × Nat)}, Ris a b i j qs → Ch a.length b.length i j (qs ++ [(a.length, b.length)])
  | _, _, [], h => ⟨h.1, h.2, Nat.le_refl _, Nat.le_refl _, trivial⟩
  | _, _, _ :: _, h => ⟨h.1, h.2.1, Nat.le_of_lt h.2.2.1, Nat.le_of_lt h.2.2.2.1, ch_of h.2.2.2.2.2⟩
/-- The places of a patch. -/
def ends (a b : List Tx) : List (Nat × Nat) := comm a b ++ [(a.length, b.length)]
theorem ends_ch (a b : List Tx) : Ch a.length b.length 0 0 (ends a b) := ch_of (comm_ris a b)
theorem hks_cons (a b : List Tx) (i j : Nat) (q : Nat × Nat) (qs : List (Nat × Nat)) : hks a b i j (q :: qs) = (if q = (i, j) then [] else [⟨i, seg a i q.1, seg b j q.2⟩]) ++ hks a b (q.1 + 1) (q.2 + 1) qs := rfl
theorem hks_app (a b : List Tx) : ∀ (i j : Nat) (qs rs : List (Nat × Nat)), ∃ i' j', (hks a b i j (qs ++ rs)).length ≤ qs.length + (hks a b i' j' rs).length
  | i, j, [], rs => ⟨i, j, by simp⟩
  | i, j, q :: qs, rs => by
    obtain ⟨i', j', h⟩ := hks_app a b (q.1 + 1) (q.2 + 1) qs rs
    refine ⟨i', j', ?_⟩
    rw [List.cons_append, hks_cons, List.length_append]
    simp only [List.length_cons]
    split <;> simp <;> omega
theorem hks_diag (a b : List Tx) (u v : Nat) (rs : List (Nat × Nat)) : ∀ (s t : Nat), hks a b (u + t) (v + t) ((List.range' t s).map (fun k => (u + k, v + k)) ++ rs) = hks a b (u + t + s) (v + t + s) rs
  | 0, t => by simp
  | s + 1, t => by
    rw [List.range'_succ, List.map_cons, List.cons_append, hks_cons, if_pos rfl, List.nil_append]
    have := hks_diag a b u v rs s (t + 1)
    rw [show u + (t + 1) = u + t + 1 by omega, show v + (t + 1) = v + t + 1 by omega] at this
    rw [this, show u + t + 1 + s = u + t + (s + 1) by omega, show v + t + 1 + s = v + t + (s + 1) by omega]
theorem hks_one (a b : List Tx) (i j : Nat) (q : Nat × Nat) : (hks a b i j [q]).length ≤ 1 := by
  rw [hks_cons]
  split <;> simp [hks]
theorem patch_len (a b : List Tx) : (patch a b).length ≤ (midQ a b).length + 2 := by
  have e : patch a b = hks a b 0 0 (diagP 0 0 (pre a b) ++ (sh (pre a b) (midQ a b) ++ (diagP (a.length - suf a b) (b.length - suf a b) (suf a b) ++ [(a.length, b.length)]))) := by
    unfold patch
    rw [comm_eq, List.append_assoc, List.append_assoc]
  rw [e]
  unfold diagP
  rw [List.range_eq_range', List.range_eq_range']
  have h1 := hks_diag a b 0 0 (sh (pre a b) (midQ a b) ++ ((List.range' 0 (suf a b)).map (fun k => (a.length - suf a b + k, b.length - suf a b + k)) ++ [(a.length, b.length)])) (pre a b) 0
  simp only [Nat.add_zero] at h1
  rw [h1]
  obtain ⟨i', j', h2⟩ := hks_app a b (0 + pre a b) (0 + pre a b) (sh (pre a b) (midQ a b)) ((List.range' 0 (suf a b)).map (fun k => (a.length - suf a b + k, b.length - suf a b + k)) ++ [(a.length, b.length)])
  refine Nat.le_trans h2 ?_
  have hl : (sh (pre a b) (midQ a b)).length = (midQ a b).length := by simp [sh]
  rw [hl]
  refine Nat.add_le_add_left ?_ _
  generalize a.length - suf a b = u
  generalize b.length - suf a b = v
  cases suf a b with
  | zero => exact Nat.le_trans (hks_one a b i' j' _) (by omega)
  | succ s =>
    rw [List.range'_succ, List.map_cons, List.cons_append, hks_cons, List.length_append]
    have h3 := hks_diag a b u v [(a.length, b.length)] s 1
    simp only [Nat.add_zero, Nat.zero_add] at h3 ⊢
    rw [h3]
    have := hks_one a b (u + 1 + s) (v + 1 + s) (a.length, b.length)
    split <;> simp <;> omega
theorem midQ_small (a b : List Tx) : (midQ a b).length ≤ 1048576 := by
  unfold midQ midPairs maxWork
  split
  · rename_i h
    rw [wlk_length]
    have h1 := Lc_le (mid a (pre a b) (suf a b)) (mid b (pre a b) (suf a b)) 0 0
    unfold Lc at h1
    rw [List.drop_zero, List.drop_zero] at h1
    rcases Nat.eq_zero_or_pos (mid b (pre a b) (suf a b)).length with h0 | h0
    · have : mid b (pre a b) (suf a b) = [] := List.eq_nil_of_length_eq_zero h0
      rw [this, lcs_nil]; omega
    · have : (mid a (pre a b) (suf a b)).length * 1 ≤ (mid a (pre a b) (suf a b)).length * (mid b (pre a b) (suf a b)).length := Nat.mul_le_mul_left _ h0
      omega
  · simp
theorem patch_small (a b : List Tx) : (patch a b).length ≤ 1048578 := Nat.le_trans (patch_len a b) (by have := midQ_small a b; omega)
theorem seg_eq (a : List Tx) (i k : Nat) : seg a i k = (a.drop i).take (k - i) := by unfold seg; rw [List.drop_take]
/-- A hunk more. -/
theorem HkOwn.push {B : Nat} {W W4 : World} {v v' v1 v2 : Value} {hs : List (Hk Tx)} {us : List (Value × Value)} {o : Obj} {k lo : Nat} {t1 t2 : List Tx} (h : HkOwn B W v hs us) (hlo : ∀ x ∈ v :: flatV us, ∀ g, x.ownBlock = some g → g < lo)
    (r1 : W.ownsRow B 9 1 v1 t1.length (t1.map Value.string)) (r2 : W.ownsRow B 9 1 v2 t2.length (t2.map Value.string)) (n1 : ∀ g, v1.ownBlock = some g → lo ≤ g) (n2 : ∀ g, v2.ownBlock = some g → lo ≤ g ∧ v1.ownBlock ≠ some g)
    (hgr : (W.alloc o).grownBy W4 v.ownBlock) (hrow : W4.ownsRow B 41 3 v' (hs.length + 1) (hkCells hs us ++ [.int .i64 k, v1, v2])) (hbk : v'.ownBlock = v.ownBlock ∨ v'.ownBlock = some (W.alloc o).heap.size) :
    HkOwn B W4 v' (hs ++ [⟨k, t1, t2⟩]) (us ++ [(v1, v2)]) := by
  have hvlt : ∀ g, v.ownBlock = some g → g < lo := fun g hg => hlo v (.head _) g hg
  have hult : ∀ x ∈ flatV us, ∀ g, x.ownBlock = some g → g < lo := fun x hx g hg => hlo x (.tail _ hx) g hg
  have keep : ∀ {x : Value} {m : Nat} {cs : List Value}, W.ownsRow B 9 1 x m cs → Apart x v → W4.ownsRow B 9 1 x m cs := fun {x m cs} hr ha => by
    refine (hr.alloc o).kept hgr ?_
    cases hx : x.ownBlock with
    | none => exact .inl rfl
    | some g => exact .inr fun e => ha g hx e.symm
  have a1 : Apart v1 v := fun g hg e => by have := n1 g hg; have := hvlt g e; omega
  have a2 : Apart v2 v := fun g hg e => by have := (n2 g hg).1; have := hvlt g e; omega
  have sz : ∀ {x : Value} {m : Nat} {cs : List Value}, W.ownsRow B 9 1 x m cs → ∀ g, x.ownBlock = some g → g ≠ (W.alloc o).heap.size := fun hr g hg => by
    have := (hr.lt g hg).2
    rw [World.size_alloc]; omega
  have top : ∀ {x : Value} {m : Nat} {cs : List Value}, W.ownsRow B 9 1 x m cs → Apart x v → Apart x v' := fun hr ha g hg e => by
    rcases hbk with e' | e'
    · exact ha g hg (e' ▸ e)
    · rw [e'] at e
      injection e with e
      exact sz hr g hg e.symm
  refine ⟨by simp [h.len], ?_, fun i hi hi' => ?_, ?_, fun x hx => ?_⟩
  · rw [hkCells_snoc _ _ _ _ h.len, List.length_append]; exact hrow
  · by_cases e : i < hs.length
    · have e' : i < us.length := by rw [← h.len]; exact e
      obtain ⟨s1, s2⟩ := h.subs i e e'
      have m1 : us[i].1 ∈ flatV us := flatV_mem.2 ⟨_, List.getElem_mem e', .inl rfl⟩
      have m2 : us[i].2 ∈ flatV us := flatV_mem.2 ⟨_, List.getElem_mem e', .inr rfl⟩
      simp only [List.getElem_append_left e, List.getElem_append_left e']
      exact ⟨keep s1 (h.top _ m1), keep s2 (h.top _ m2)⟩
    · have e1 : i = hs.length := by simp at hi; omega
      subst e1
      have hL := h.len
      simp only [List.getElem_append_right (Nat.le_refl hs.length), List.getElem_append_right (show us.length ≤ hs.length by omega)]
      simp only [hL, Nat.sub_self, List.getElem_cons_zero]
      exact ⟨keep r1 a1, keep r2 a2⟩
  · rw [flatV_snoc, List.pairwise_append]
    refine ⟨h.dis, ?_, fun x hx y hy => ?_⟩
    · refine List.Pairwise.cons (fun y hy => ?_) (List.pairwise_singleton _ _)
      rw [List.mem_singleton] at hy
      subst hy
      exact fun g hg e => (n2 g e).2 hg
    · intro g hg e
      have h1 := hult x hx g hg
      simp only [List.mem_cons, List.not_mem_nil, or_false] at hy
      rcases hy with rfl | rfl
      · have := n1 g e; omega
      · have := (n2 g e).1; omega
  · rw [flatV_snoc, List.mem_append] at hx
    rcases hx with hx | hx
    · obtain ⟨u, hu, e⟩ := flatV_mem.1 hx
      obtain ⟨i, hi, rfl⟩ := List.mem_iff_getElem.1 hu
      have := h.subs i (by rw [h.len]; exact hi) hi
      rcases e with rfl | rfl
      · exact top this.1 (h.top _ hx)
      · exact top this.2 (h.top _ hx)
    · simp only [List.mem_cons, List.not_mem_nil, or_false] at hx
      rcases hx with rfl | rfl
      · exact top r1 a1
      · exact top r2 a2
theorem HkOwn.nil (B : Nat) (W : World) : HkOwn B W (.slice none 0 0) [] [] := ⟨rfl, World.ownsRow_nil _ _ _ _, fun i hi => absurd hi (Nat.not_lt_zero _), .nil, fun x hx => by cases hx⟩
end Go.Proofs.Ytmkjeelmeicjjaa
