/- Parts of lists and of rows. -/
import Derived.Test.YtjmnbnlhahbcjaaDfRows
import Derived.Deep.CutBlock
import Derived.Deep.DeepCutAuto
namespace Go.Proofs.Ytjmnbnlhahbcjaa
open Go Go.RowKit

section
variable {α : Type}
theorem seg_app (a : List α) (i j k : Nat) (hij : i ≤ j) (hjk : j ≤ k) : seg a i j ++ seg a j k = seg a i k := by
  unfold seg
  apply List.ext_getElem?
  intro n
  rw [List.getElem?_append]
  simp only [List.length_drop, List.length_take, List.getElem?_drop, List.getElem?_take]
  split
  · rename_i h
    rw [if_pos (by omega), if_pos (by omega)]
  · rename_i h
    by_cases h2 : a.length ≤ j
    · have hm : min j a.length = a.length := by omega
      rw [hm] at h ⊢
      have e1 : a[j + (n - (a.length - i))]? = none := List.getElem?_eq_none (by omega)
      have e2 : a[i + n]? = none := List.getElem?_eq_none (by omega)
      rw [e1, e2]
      split <;> split <;> rfl
    · have hm : min j a.length = j := by omega
      rw [hm] at h ⊢
      rw [show j + (n - (j - i)) = i + n by omega]
theorem seg_drop (a : List α) (i j : Nat) (hij : i ≤ j) : seg a i j ++ a.drop j = a.drop i := by
  have h := seg_app a i j (a.length + j) hij (by omega)
  have e : ∀ k, seg a k (a.length + j) = a.drop k := fun k => by unfold seg; rw [List.take_of_length_le (by omega)]
  rw [e, e] at h
  exact h
theorem seg_self (a : List α) (i : Nat) : seg a i i = [] := by unfold seg; rw [List.drop_eq_nil_of_le (by simp; omega)]
theorem seg_one (a : List α) (i : Nat) (h : i < a.length) : seg a i (i + 1) = [a[i]] := by
  unfold seg
  rw [List.take_succ_eq_append_getElem h, List.drop_append_of_le_length (by simp; omega), List.drop_eq_nil_of_le (by simp; omega)]; rfl
end
theorem tl_ne {x y : ByteArray} (h : ¬ x = y) : (x.toList == y.toList) = false := by
  refine beq_false_of_ne fun e => h ?_
  rw [ByteArray.toList_eq, ByteArray.toList_eq] at e
  cases x with
  | mk d => cases y with
    | mk d' => congr 1; apply Array.toList_inj.1; exact e
theorem get_ne {a b : List Tx} {k : Nat} (ha : k < a.length) (hb : k < b.length) : a[k]? = b[k]? ↔ a[k] = b[k] := by
  rw [List.getElem?_eq_getElem ha, List.getElem?_eq_getElem hb]; simp
theorem StrRow.part {w : World} {b off : Nat} {xs : List Tx} (h : StrRow w (some ⟨b, off, none⟩) xs) (i k : Nat) : StrRow w (some ⟨b, off + i, none⟩) ((xs.drop i).take k) := fun j hj => by
  have hj' : i + j < xs.length := by simp only [List.length_take, List.length_drop] at hj; omega
  obtain ⟨b', off', e, hb, hc⟩ := h (i + j) hj'
  cases e
  refine ⟨b, off + i, rfl, hb, ?_⟩
  rw [List.getElem_take, List.getElem_drop, show off + i + j = off + (i + j) by omega]
  exact hc
def cutA (p : Option Addr) (c i : Nat) : Option Addr := if c = i then p else p.map (fun x => x.add i)
theorem cut_row {w : World} {p : Option Addr} {xs : List Tx} {n c : Nat} (h : StrRow w p xs) (hn : xs.length = n) (hnc : n ≤ c) (i k : Nat) (hk : i + k ≤ n) : StrRow w (cutA p c i) ((xs.drop i).take k) := by
  unfold cutA
  split
  · intro j hj
    simp only [List.length_take, List.length_drop] at hj
    omega
  · cases p with
    | none =>
      intro j hj
      simp only [List.length_take, List.length_drop] at hj
      obtain ⟨b, off, e, _⟩ := h (i + j) (by omega)
      cases e
    | some ad =>
      obtain ⟨b, off, spot⟩ := ad
      intro j hj
      have hj' : j < k ∧ i + j < xs.length := by simp only [List.length_take, List.length_drop] at hj; omega
      obtain ⟨b', off', e, _⟩ := h (i + j) hj'.2
      cases e
      have := h.part i k j hj
      rwa [Option.map_some, addrAdd]
theorem cut_nil {p : Option Addr} {n c i : Nat} (h : p = none → n = 0 ∧ c = 0) (k : Nat) (hk : i + k ≤ n) (e : cutA p c i = none) : k = 0 ∧ c - i = 0 := by
  have : p = none := by
    unfold cutA at e
    split at e
    · exact e
    · cases p with
      | none => rfl
      | some ad => cases e
  obtain ⟨h1, h2⟩ := h this
  omega
theorem list_ne {xs ys : List Tx} (k : Nat) (h1 : k < xs.length) (h2 : k < ys.length) (h : ¬ xs[k] = ys[k]) : ¬ xs = ys := fun e => by subst e; exact h rfl
theorem list_eq {xs ys : List Tx} (hl : xs.length = ys.length) (h : ∀ j, j < xs.length → xs[j]? = ys[j]?) : xs = ys := by
  apply List.ext_getElem?
  intro i
  by_cases hi : i < xs.length
  · exact h i hi
  · rw [List.getElem?_eq_none (by omega), List.getElem?_eq_none (by omega)]
theorem drop_cut {w : World} {p : Option Addr} {xs : List Tx} {n c : Nat} (h : StrRow w p xs) (hn : xs.length = n) (hnc : n ≤ c) (i : Nat) (hi : i ≤ n) : StrRow w (cutA p c i) (xs.drop i) := by
  have := cut_row h hn hnc i (n - i) (by omega)
  rwa [List.take_of_length_le (by simp; omega)] at this
theorem own_facts {W : World} {B z : Nat} {e : TypeId} {p : Option Addr} {n c : Nat} {cs : List Value} (h : W.ownsRow B e z (.slice p n c) n cs) : (p = none → n = 0 ∧ c = 0) ∧ n ≤ c := by
  rcases h.2 with ⟨hv, h0⟩ | ⟨g, cap, cur, hv, _, _, hc, _⟩
  · injection hv with h1 h2 h3
    exact ⟨fun _ => ⟨h0, h3⟩, by omega⟩
  · injection hv with h1 h2 h3
    exact ⟨fun e => (by rw [h1] at e; cases e), by omega⟩
theorem seg_eq (a : List Tx) (i k : Nat) : seg a i k = (a.drop i).take (k - i) := by unfold seg; rw [List.drop_take]
end Go.Proofs.Ytjmnbnlhahbcjaa
