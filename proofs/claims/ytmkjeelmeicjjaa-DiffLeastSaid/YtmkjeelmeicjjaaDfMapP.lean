/- Only which texts are alike counts: plain. Rows of the call's own: what their slices are. -/
import Derived.Test.YtmkjeelmeicjjaaDfLinesP
namespace Go.Proofs.Ytmkjeelmeicjjaa
open Go Go.RowKit

section
variable {α β : Type}
theorem lcs_map [DecidableEq α] [DecidableEq β] (f : α → β) (hf : ∀ x y, f x = f y → x = y) : ∀ (xs ys : List α), lcs (xs.map f) (ys.map f) = lcs xs ys
  | [], ys => by simp [lcs]
  | x :: xs, [] => by simp [lcs]
  | x :: xs, y :: ys => by
    have h1 := lcs_map f hf xs ys
    have h2 := lcs_map f hf xs (y :: ys)
    have h3 := lcs_map f hf (x :: xs) ys
    simp only [List.map_cons] at h2 h3 ⊢
    rw [lcs_cons, lcs_cons, h1, h2, h3]
    by_cases e : x = y
    · rw [if_pos e, if_pos (by rw [e])]
    · rw [if_neg e, if_neg (fun h => e (hf _ _ h))]
termination_by xs ys => xs.length + ys.length
theorem wlk_map [DecidableEq α] [DecidableEq β] (f : α → β) (hf : ∀ x y, f x = f y → x = y) : ∀ (i j : Nat) (xs ys : List α), wlk i j (xs.map f) (ys.map f) = wlk i j xs ys
  | _, _, [], ys => by simp [wlk]
  | _, _, x :: xs, [] => by simp [wlk]
  | i, j, x :: xs, y :: ys => by
    have h1 := wlk_map f hf (i + 1) (j + 1) xs ys
    have h2 := wlk_map f hf (i + 1) j xs (y :: ys)
    have h3 := wlk_map f hf i (j + 1) (x :: xs) ys
    have l2 := lcs_map f hf xs (y :: ys)
    have l3 := lcs_map f hf (x :: xs) ys
    simp only [List.map_cons] at h2 h3 l2 l3 ⊢
    rw [wlk_cons, wlk_cons, h1, h2, h3, l2, l3]
    by_cases e : x = y
    · rw [if_pos e, if_pos (by rw [e])]
    · rw [if_neg e, if_neg (fun h => e (hf _ _ h))]
termination_by _ _ xs ys => xs.length + ys.length
theorem pre_map [DecidableEq α] [DecidableEq β] (f : α → β) (hf : ∀ x y, f x = f y → x = y) : ∀ (xs ys : List α), pre (xs.map f) (ys.map f) = pre xs ys
  | [], _ => by simp [pre]
  | _ :: _, [] => by simp [pre]
  | x :: xs, y :: ys => by
    simp only [List.map_cons, pre, pre_map f hf xs ys]
    by_cases e : x = y
    · rw [if_pos e, if_pos (by rw [e])]
    · rw [if_neg e, if_neg (fun h => e (hf _ _ h))]
theorem suf_map [DecidableEq α] [DecidableEq β] (f : α → β) (hf : ∀ x y, f x = f y → x = y) (a b : List α) : suf (a.map f) (b.map f) = suf a b := by
  unfold suf
  rw [pre_map f hf, ← List.map_drop, ← List.map_drop, ← List.map_reverse, ← List.map_reverse, pre_map f hf]
theorem comm_map [DecidableEq α] [DecidableEq β] (f : α → β) (hf : ∀ x y, f x = f y → x = y) (a b : List α) : comm (a.map f) (b.map f) = comm a b := by
  have hm : ∀ (l : List α) (p s : Nat), mid (l.map f) p s = (mid l p s).map f := fun l p s => by
    unfold mid
    rw [List.length_map, ← List.map_drop, ← List.map_take]
  unfold comm midPairs
  rw [pre_map f hf, suf_map f hf, hm, hm, List.length_map, List.length_map, List.length_map, List.length_map, wlk_map f hf]
def Hk.map (f : α → β) (h : Hk α) : Hk β := ⟨h.pos, h.old.map f, h.new.map f⟩
theorem hks_map (f : α → β) (a b : List α) : ∀ (i j : Nat) (qs : List (Nat × Nat)), hks (a.map f) (b.map f) i j qs = (hks a b i j qs).map (Hk.map f)
  | _, _, [] => rfl
  | i, j, q :: qs => by
    simp only [hks]
    rw [hks_map f a b, List.map_append]
    congr 1
    split
    · rfl
    · simp [Hk.map, seg, List.map_drop, List.map_take]
theorem patch_map [DecidableEq α] [DecidableEq β] (f : α → β) (hf : ∀ x y, f x = f y → x = y) (a b : List α) : patch (a.map f) (b.map f) = (patch a b).map (Hk.map f) := by
  unfold patch
  rw [comm_map f hf, List.length_map, List.length_map, hks_map]
end
theorem app_inj (u : Tx) (x y : Tx) (h : u ++ x = u ++ y) : x = y := by
  have h1 : (u ++ x).data = (u ++ y).data := by rw [h]
  rw [ByteArray.data_append, ByteArray.data_append] at h1
  cases x with
  | mk d => cases y with
    | mk d' => congr 1; exact Array.append_right_inj u.data |>.1 h1
/-- A slice of the call's own. -/
theorem own_facts {W : World} {B z : Nat} {e : TypeId} {p : Option Addr} {n c : Nat} {cs : List Value} (h : W.ownsRow B e z (.slice p n c) n cs) : (p = none → n = 0 ∧ c = 0) ∧ n ≤ c := by
  rcases h.2 with ⟨hv, h0⟩ | ⟨g, cap, cur, hv, _, _, hc, _⟩
  · injection hv with h1 h2 h3
    exact ⟨fun _ => ⟨h0, h3⟩, by omega⟩
  · injection hv with h1 h2 h3
    exact ⟨fun e => (by rw [h1] at e; cases e), by omega⟩
end Go.Proofs.Ytmkjeelmeicjjaa
