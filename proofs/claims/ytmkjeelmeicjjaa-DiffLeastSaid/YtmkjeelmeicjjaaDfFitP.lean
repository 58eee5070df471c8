/- The patch fits, and makes the one out of the other: plain. -/
import Derived.Test.YtmkjeelmeicjjaaDfLinesP
namespace Go.Proofs.Ytmkjeelmeicjjaa
open Go Go.RowKit

section
variable {α : Type}
theorem seg_app (a : List α) (i j k : Nat) (hij : i ≤ j) (hjk : j ≤ k) : seg a i j ++ seg a j k = seg a i k := by
  unfold seg
  apply List.ext_getElem?
  intro n
  rw [List.getElem?_append]
  simp only [List.length_drop, List.length_take, List.getElem?_drop, List.getElem?_take]
  split
  · rename_i h
    rw [if_pos (by omega), if_pos (by omega)]
  · rename_i h
    by_cases h2 : a.length ≤ j
    · have hm : min j a.length = a.length := by omega
      rw [hm] at h ⊢
      have e1 : a[j + (n - (a.length - i))]? = none := List.getElem?_eq_none (by omega)
      have e2 : a[i + n]? = none := List.getElem?_eq_none (by omega)
      rw [e1, e2]
      split <;> split <;> rfl
    · have hm : min j a.length = j := by omega
      rw [hm] at h ⊢
      rw [show j + (n - (j - i)) = i + n by omega]
theorem seg_drop (a : List α) (i j : Nat) (hij : i ≤ j) : seg a i j ++ a.drop j = a.drop i := by
  have h := seg_app a i j (a.length + j) hij (by omega)
  have e : ∀ k, seg a k (a.length + j) = a.drop k := fun k => by unfold seg; rw [List.take_of_length_le (by omega)]
  rw [e, e] at h
  exact h
theorem seg_self (a : List α) (i : Nat) : seg a i i = [] := by unfold seg; rw [List.drop_eq_nil_of_le (by simp; omega)]
theorem seg_one (a : List α) (i : Nat) (h : i < a.length) : seg a i (i + 1) = [a[i]] := by
  unfold seg
  rw [List.take_succ_eq_append_getElem h, List.drop_append_of_le_length (by simp; omega), List.drop_eq_nil_of_le (by simp; omega)]; rfl
/-- A patch applied from a place on. -/
def apl (a : List α) : Nat → List (Hk α) → List α
  | k, [] => a.drop k
  | k, h :: hs => seg a k h.pos ++ (h.new ++ apl a (h.pos + h.old.length) hs)
/-- It fits. -/
def Fit (a : List α) : Nat → Bool → List (Hk α) → Prop
  | _, _, [] => True
  | k, f, h :: hs => k ≤ h.pos ∧ (f = false → k < h.pos) ∧ 0 < h.old.length + h.new.length ∧ h.pos + h.old.length ≤ a.length ∧ h.old = seg a h.pos (h.pos + h.old.length) ∧ Fit a (h.pos + h.old.length) false hs
theorem Ris.ge {a b : List α} {i j : Nat} {q : Nat × Nat} {qs : List (Nat × Nat)} (h : Ris a b i j (q :: qs)) : i ≤ q.1 ∧ j ≤ q.2 ∧ q.1 < a.length ∧ q.2 < b.length ∧ a[q.1]? = b[q.2]? ∧ Ris a b (q.1 + 1) (q.2 + 1) qs := h
theorem hks_fit (a b : List α) : ∀ (qs : List (Nat × Nat)) (i j I J : Nat) (f : Bool), Ris a b i j qs → I ≤ i → J ≤ j → seg a I i = seg b J j → (f = false → I < i) →
    Fit a I f (hks a b i j (qs ++ [(a.length, b.length)])) ∧ apl a I (hks a b i j (qs ++ [(a.length, b.length)])) = b.drop J
  | [], i, j, I, J, f, h, hI, hJ, hs, hf => by
    obtain ⟨h1, h2⟩ := h
    simp only [List.nil_append, hks, List.append_nil]
    split
    · rename_i e
      injection e with e1 e2
      refine ⟨trivial, ?_⟩
      have hb := seg_drop b J j hJ
      have ha := seg_drop a I i hI
      rw [List.drop_eq_nil_of_le (by omega), List.append_nil] at ha hb
      show a.drop I = _
      rw [← ha, ← hb, hs]
    · rename_i e
      have hl1 : (seg a i a.length).length = a.length - i := seg_len _ _ _ (Nat.le_refl _)
      have hl2 : (seg b j b.length).length = b.length - j := seg_len _ _ _ (Nat.le_refl _)
      have hne : 0 < (seg a i a.length).length + (seg b j b.length).length := by
        rw [hl1, hl2]
        rcases Nat.lt_or_ge i a.length with h | h
        · omega
        · rcases Nat.lt_or_ge j b.length with h' | h'
          · omega
          · exact absurd (by rw [show i = a.length by omega, show j = b.length by omega]) e
      have hend : i + (seg a i a.length).length = a.length := by rw [hl1]; omega
      refine ⟨⟨hI, hf, hne, by show i + (seg a i a.length).length ≤ _; omega, ?_, trivial⟩, ?_⟩
      · show seg a i a.length = seg a i (i + (seg a i a.length).length)
        rw [hend]
      · show seg a I i ++ (seg b j b.length ++ a.drop (i + (seg a i a.length).length)) = _
        have hb2 := seg_drop b j b.length h2
        rw [List.drop_length, List.append_nil] at hb2
        rw [hend, List.drop_length, List.append_nil, hs, hb2, seg_drop b J j hJ]
  | q :: qs, i, j, I, J, f, h, hI, hJ, hs, hf => by
    obtain ⟨h1, h2, h3, h4, h5, h6⟩ := h.ge
    rw [List.getElem?_eq_getElem h3, List.getElem?_eq_getElem h4] at h5
    injection h5 with h5
    obtain ⟨x, y⟩ := q
    simp only at h1 h2 h3 h4 h5 h6
    simp only [List.cons_append, hks]
    split
    · rename_i e
      injection e with e1 e2
      subst e1 e2
      rw [List.nil_append]
      refine hks_fit a b qs (x + 1) (y + 1) I J f h6 (by omega) (by omega) ?_ (fun e => by have := hf e; omega)
      rw [← seg_app a I x (x + 1) hI (by omega), ← seg_app b J y (y + 1) hJ (by omega), hs, seg_one a x h3, seg_one b y h4, h5]
    · rename_i e
      have hl1 : (seg a i x).length = x - i := seg_len _ _ _ (by omega)
      have hl2 : (seg b j y).length = y - j := seg_len _ _ _ (by omega)
      have hne : 0 < (seg a i x).length + (seg b j y).length := by
        rw [hl1, hl2]
        rcases Nat.lt_or_ge i x with h | h
        · omega
        · rcases Nat.lt_or_ge j y with h' | h'
          · omega
          · exact absurd (by rw [show i = x by omega, show j = y by omega]) e
      have hend : i + (seg a i x).length = x := by rw [hl1]; omega
      obtain ⟨r1, r2⟩ := hks_fit a b qs (x + 1) (y + 1) x y false h6 (by omega) (by omega) (by rw [seg_one a x h3, seg_one b y h4, h5]) (fun _ => by omega)
      refine ⟨⟨hI, hf, hne, by show i + (seg a i x).length ≤ _; omega, ?_, ?_⟩, ?_⟩
      · show seg a i x = seg a i (i + (seg a i x).length)
        rw [hend]
      · show Fit a (i + (seg a i x).length) false _
        rw [hend]; exact r1
      · show seg a I i ++ (seg b j y ++ apl a (i + (seg a i x).length) _) = _
        rw [hend]
        show seg a I i ++ (seg b j y ++ apl a x (hks a b (x + 1) (y + 1) (qs ++ [(a.length, b.length)]))) = _
        rw [r2, hs, seg_drop b j y h2, seg_drop b J j hJ]
theorem hks_sums (a b : List α) : ∀ (qs : List (Nat × Nat)) (i j : Nat), Ris a b i j qs →
    ((hks a b i j (qs ++ [(a.length, b.length)])).map (·.old.length)).sum + qs.length + i = a.length ∧ ((hks a b i j (qs ++ [(a.length, b.length)])).map (·.new.length)).sum + qs.length + j = b.length
  | [], i, j, h => by
    obtain ⟨h1, h2⟩ := h
    simp only [List.nil_append, hks, List.append_nil]
    split
    · rename_i e
      injection e with e1 e2
      simp; omega
    · have hl1 : (seg a i a.length).length = a.length - i := seg_len _ _ _ (Nat.le_refl _)
      have hl2 : (seg b j b.length).length = b.length - j := seg_len _ _ _ (Nat.le_refl _)
      simp only [List.map_cons, List.map_nil, List.sum_cons, List.sum_nil, hl1, hl2]
      simp; omega
  | q :: qs, i, j, h => by
    obtain ⟨h1, h2, h3, h4, h5, h6⟩ := h.ge
    obtain ⟨r1, r2⟩ := hks_sums a b qs (q.1 + 1) (q.2 + 1) h6
    simp only [List.cons_append, hks, List.map_append, List.sum_append, List.length_cons]
    split
    · rename_i e
      rw [e] at r1 r2 ⊢
      simp only [List.map_nil, List.sum_nil]
      simp only at r1 r2
      omega
    · have hl1 : (seg a i q.1).length = q.1 - i := seg_len _ _ _ (by omega)
      have hl2 : (seg b j q.2).length = q.2 - j := seg_len _ _ _ (by omega)
      simp only [List.map_cons, List.map_nil, List.sum_cons, List.sum_nil, hl1, hl2]
      omega
end
theorem patch_fit (a b : List Tx) : Fit a 0 true (patch a b) ∧ apl a 0 (patch a b) = b := by
  have := hks_fit a b (comm a b) 0 0 0 0 true (comm_ris a b) (Nat.le_refl _) (Nat.le_refl _) (by rw [seg_self, seg_self]) (fun e => by cases e)
  rwa [List.drop_zero] at this
theorem patch_sums (a b : List Tx) : ((patch a b).map (·.old.length)).sum + (comm a b).length = a.length ∧ ((patch a b).map (·.new.length)).sum + (comm a b).length = b.length := by
  have := hks_sums a b (comm a b) 0 0 (comm_ris a b)
  rwa [Nat.add_zero, Nat.add_zero] at this
theorem pre_self : ∀ (a : List Tx), pre a a = a.length
  | [] => rfl
  | x :: a => by simp [pre, pre_self a]
theorem patch_none (a b : List Tx) : patch a b = [] ↔ a = b := by
  constructor
  · intro h
    have := (patch_fit a b).2
    rw [h] at this
    simpa [apl] using this
  · rintro rfl
    have h1 := (patch_sums a a).1
    have h2 := (patch_sums a a).2
    have h3 : (comm a a).length = a.length := by
      rw [comm_eq]
      have hs : suf a a = 0 := by
        have := (suf_le a a).1
        rw [pre_self] at this
        omega
      have hm := midQ_len a a
      rw [pre_self] at hm
      simp only [List.length_append, diagP_len, sh, List.length_map]
      rw [pre_self]
      omega
    have hf := (patch_fit a a).1
    cases hp : patch a a with
    | nil => rfl
    | cons h hs =>
      rw [hp] at h1 h2 hf
      obtain ⟨_, _, hne, _⟩ := hf
      simp only [List.map_cons, List.sum_cons] at h1 h2
      omega
theorem comm_ge (a b : List Tx) : pre a b + suf a b ≤ (comm a b).length := by
  rw [comm_eq]
  simp only [List.length_append, diagP_len]
  omega
end Go.Proofs.Ytmkjeelmeicjjaa
