/- The first place of each text: plain, and as a map holds it. -/
import Derived.Test.YtmkjeelmeicjjaaDfCopy
import Derived.Maps.Keyed
import Derived.Maps.Ext
namespace Go.Proofs.Ytmkjeelmeicjjaa
open Go Go.RowKit Go.Maps

section
variable {α : Type}
def firstOf [DecidableEq α] : List α → α → Nat
  | [], _ => 0
  | y :: ys, x => if y = x then 0 else firstOf ys x + 1
theorem firstOf_lt [DecidableEq α] : ∀ {ts : List α} {x : α}, x ∈ ts → firstOf ts x < ts.length
  | y :: ys, x, h => by
    unfold firstOf
    split
    · simp
    · rename_i e
      have : x ∈ ys := by
        rcases List.mem_cons.1 h with rfl | h
        · exact absurd rfl e
        · exact h
      have := firstOf_lt this
      simp only [List.length_cons]; omega
theorem firstOf_at [DecidableEq α] : ∀ {ts : List α} {x : α}, x ∈ ts → ts[firstOf ts x]? = some x
  | y :: ys, x, h => by
    unfold firstOf
    split
    · rename_i e; simp [e]
    · rename_i e
      have : x ∈ ys := by
        rcases List.mem_cons.1 h with rfl | h
        · exact absurd rfl e
        · exact h
      simpa using firstOf_at this
theorem firstOf_inj [DecidableEq α] {ts : List α} {x y : α} (hx : x ∈ ts) (hy : y ∈ ts) (h : firstOf ts x = firstOf ts y) : x = y := by
  have h1 := firstOf_at hx
  rw [h, firstOf_at hy] at h1
  injection h1 with h1
  exact h1.symm
theorem firstOf_app [DecidableEq α] : ∀ {ts us : List α} {x : α}, x ∈ ts → firstOf (ts ++ us) x = firstOf ts x
  | y :: ys, us, x, h => by
    simp only [List.cons_append, firstOf]
    split
    · rfl
    · rename_i e
      have : x ∈ ys := by
        rcases List.mem_cons.1 h with rfl | h
        · exact absurd rfl e
        · exact h
      rw [firstOf_app this]
theorem firstOf_new [DecidableEq α] : ∀ {ts us : List α} {x : α}, x ∉ ts → firstOf (ts ++ x :: us) x = ts.length
  | [], us, x, _ => by simp [firstOf]
  | y :: ys, us, x, h => by
    simp only [List.cons_append, firstOf, List.length_cons]
    rw [if_neg (fun e => h (by simp [e])), firstOf_new (fun hm => h (.tail _ hm))]
end
/-- A text as a map's key. -/
def kl (s : Tx) : Lit := .string s.data.toList
theorem kl_key (s : Tx) : WideAt.IsKeyLit (kl s) := by simp [WideAt.IsKeyLit, kl]
theorem kl_ne {s t : Tx} (h : s ≠ t) : kl s ≠ kl t := fun e => h (by
  unfold kl at e
  injection e with e
  cases s with
  | mk d => cases t with
    | mk d' => congr 1; exact Array.toList_inj.1 e)
theorem kl_of (s : Tx) (h : s.size ≤ maxLen) : keyOf Try.prog 9 (.string s) = some (kl s) := Go.WideMaps.keyOf_string_mk (P := Try.prog) Try.underlying9 h
theorem txLaw : Keyed Try.prog 9 := string_keyed Try.underlying9
theorem zeroInt (w : World) : (zeroValue 3).run Try.prog w = .ok (.int .i64 0) w := by kernel_rfl
/-- What the map of first places holds. -/
structure FirstIs (D : DataW Unit) (ts : List Tx) : Prop where
  map : IsMap D
  has : ∀ s, Maps.has D (kl s) = true ↔ s ∈ ts
  at' : ∀ s ∈ ts, ∀ z, D.atKey (kl s) z = .lit (.int .i64 (firstOf ts s : Nat))
theorem first_nil : FirstIs (.map []) [] := ⟨⟨[], rfl⟩, fun s => by simp [Maps.has], fun s hs => by simp at hs⟩
theorem FirstIs.old {D : DataW Unit} {ts : List Tx} (h : FirstIs D ts) {s : Tx} (hs : s ∈ ts) : FirstIs D (ts ++ [s]) :=
  ⟨h.map, fun t => by
    rw [h.has, List.mem_append, List.mem_singleton]
    exact ⟨.inl, fun h' => h'.elim id fun e => e ▸ hs⟩, fun t ht z => by
    have ht' : t ∈ ts := by
      rw [List.mem_append, List.mem_singleton] at ht
      exact ht.elim id fun e => e ▸ hs
    rw [firstOf_app ht']; exact h.at' t ht' z⟩
theorem FirstIs.put {D : DataW Unit} {ts : List Tx} (h : FirstIs D ts) {s : Tx} (hs : s ∉ ts) : FirstIs (D.put (kl s) (.lit (.int .i64 (ts.length : Nat)))) (ts ++ [s]) := by
  refine ⟨h.map.put _ _, fun t => ?_, fun t ht z => ?_⟩
  · by_cases e : t = s
    · subst e
      simp [has_put_same h.map (kl_key t)]
    · rw [has_put_other (kl_ne e), h.has]
      simp [e]
  · rw [List.mem_append, List.mem_singleton] at ht
    rcases ht with ht | rfl
    · have hne : t ≠ s := fun e => hs (e ▸ ht)
      rw [atKey_put_other (kl_ne hne), firstOf_app ht]
      exact h.at' t ht z
    · rw [firstOf_new hs]
      exact atKey_put_same h.map (kl_key _) _ _
theorem owns_map_later {w W : World} {b n : Nat} {D : DataW Unit} {R : Value → Option (DataW Unit × List MemPlace)} {k : TypeId} (h : w.ownsMap Try.prog k R b n D) (hb : W.heap[b]? = w.heap[b]?) : W.ownsMap Try.prog k R b n D := by
  obtain ⟨es, clock, hb', Ft, hs, hD⟩ := h
  exact ⟨es, clock, hb.trans hb', Ft, hs, hD⟩
end Go.Proofs.Ytmkjeelmeicjjaa
