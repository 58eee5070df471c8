/- The labels of lines, rising, each once, as the document picks them: plain. -/
import Derived.Test.YtdpikdkhemhmdaaPoClrP
namespace Go.Proofs.Ytdpikdkhemhmdaa
open Go

def le1 : Option Nat → Nat → Bool
  | some b, a => decide (a ≤ b)
  | none, _ => false
def le2 : Option Nat → Nat → Bool
  | some l, a => decide (l ≤ a)
  | none, _ => false
/-- One step of the search for the least number above the last one. -/
def pickF (lst : Option Nat) (o : Option Nat) (a : Nat) : Option Nat := if (le1 lst a || le2 o a) = true then o else some a
def pick (lst : Option Nat) (cs : List Nat) : Option Nat := cs.foldl (pickF lst) none
theorem pick_snoc (lst : Option Nat) (cs : List Nat) (a : Nat) : pick lst (cs ++ [a]) = pickF lst (pick lst cs) a := by simp [pick]
def above (lst : Option Nat) (a : Nat) : Prop := ∀ b, lst = some b → b < a
def PickSpec (lst : Option Nat) (pre : List Nat) (o : Option Nat) : Prop := (∀ l, o = some l → l ∈ pre ∧ above lst l ∧ ∀ a ∈ pre, above lst a → l ≤ a) ∧ (o = none → ∀ a ∈ pre, ¬ above lst a)
theorem pick_one (lst : Option Nat) (cs : List Nat) (o : Option Nat) (a : Nat) (h : PickSpec lst cs o) : PickSpec lst (cs ++ [a]) (pickF lst o a) := by
  obtain ⟨h1, h2⟩ := h
  have hab : le1 lst a = true ↔ ¬ above lst a := by
    cases lst with
    | none => simp [above, le1]
    | some b => simp [above, le1]
  constructor
  · intro l hl
    unfold pickF at hl
    by_cases hc : (le1 lst a || le2 o a) = true
    · rw [if_pos hc] at hl
      obtain ⟨m1, m2, m3⟩ := h1 l hl
      refine ⟨List.mem_append_left _ m1, m2, fun x hx hxa => ?_⟩
      rcases List.mem_append.1 hx with hx | hx
      · exact m3 x hx hxa
      · rw [List.mem_singleton] at hx
        subst hx
        rw [hl] at hc
        simp only [Bool.or_eq_true, le2, decide_eq_true_eq] at hc
        rcases hc with hc | hc
        · exact absurd hxa (hab.1 hc)
        · exact hc
    · rw [if_neg hc] at hl
      injection hl with hl
      subst hl
      simp only [Bool.or_eq_true, not_or] at hc
      have ha : above lst a := Classical.byContradiction fun h => hc.1 (hab.2 h)
      refine ⟨by simp, ha, fun x hx hxa => ?_⟩
      rcases List.mem_append.1 hx with hx | hx
      · cases o with
        | none => exact absurd hxa (h2 rfl x hx)
        | some l =>
          obtain ⟨_, _, m3⟩ := h1 l rfl
          have := m3 x hx hxa
          have h3 := hc.2
          simp only [le2, decide_eq_true_eq] at h3
          omega
      · rw [List.mem_singleton] at hx
        omega
  · intro hn x hx
    unfold pickF at hn
    by_cases hc : (le1 lst a || le2 o a) = true
    · rw [if_pos hc] at hn
      rcases List.mem_append.1 hx with hx | hx
      · exact h2 hn x hx
      · rw [List.mem_singleton] at hx
        subst hx
        rw [hn] at hc
        simp only [Bool.or_eq_true, le2] at hc
        rcases hc with hc | hc
        · exact hab.1 hc
        · cases hc
    · rw [if_neg hc] at hn
      cases hn
theorem pick_fold (lst : Option Nat) : ∀ (cs pre : List Nat) (o : Option Nat), PickSpec lst pre o → PickSpec lst (pre ++ cs) (cs.foldl (pickF lst) o)
  | [], pre, o, h => by rw [List.append_nil]; exact h
  | a :: cs, pre, o, h => by
    have := pick_fold lst cs (pre ++ [a]) _ (pick_one lst pre o a h)
    rw [List.append_assoc] at this
    exact this
theorem pick_spec (lst : Option Nat) (cs : List Nat) : PickSpec lst cs (pick lst cs) := by
  have := pick_fold lst cs [] none ⟨fun l h => (by cases h), fun _ a ha => (by simp at ha)⟩
  rwa [List.nil_append] at this
theorem riseC_at {cs : List Nat} (h : RiseC cs) {i j : Nat} (hi : i < cs.length) (hj : j < cs.length) (hij : i < j) : cs[i] < cs[j] := List.pairwise_iff_getElem.1 h i j hi hj hij
/-- The last of those that are there. -/
def lastK (L : List Nat) (k : Nat) : Option Nat := if k = 0 then none else L[k - 1]?
theorem lastK_above {L : List Nat} (h : RiseC L) {k j : Nat} (hj : j < L.length) (hk : k ≤ L.length) : above (lastK L k) L[j] ↔ k ≤ j := by
  unfold above lastK
  by_cases h0 : k = 0
  · subst h0; simp
  · rw [if_neg h0, List.getElem?_eq_getElem (by omega : k - 1 < L.length)]
    constructor
    · intro hb
      have := hb _ rfl
      by_cases hle : k ≤ j
      · exact hle
      · exfalso
        rcases Nat.lt_or_ge j (k - 1) with h1 | h1
        · have := riseC_at h hj (by omega) h1; omega
        · have e : j = k - 1 := by omega
          subst e; omega
    · intro hle b hb
      injection hb with hb
      subst hb
      exact riseC_at h (by omega) hj (by omega)
theorem pick_next {cs : List Nat} {k : Nat} (hk : k < (onceC cs).length) : pick (lastK (onceC cs) k) cs = some (onceC cs)[k] := by
  have hr := onceC_rise cs
  obtain ⟨h1, h2⟩ := pick_spec (lastK (onceC cs) k) cs
  have hmem : (onceC cs)[k] ∈ cs := (mem_onceC cs _).1 (List.getElem_mem hk)
  have hab := (lastK_above hr hk (Nat.le_of_lt hk)).2 (Nat.le_refl k)
  cases hp : pick (lastK (onceC cs) k) cs with
  | none => exact absurd hab (h2 hp _ hmem)
  | some l =>
    obtain ⟨m1, m2, m3⟩ := h1 l hp
    have hl := (mem_onceC cs l).2 m1
    obtain ⟨j, hj, rfl⟩ := List.getElem_of_mem hl
    have hkj := (lastK_above hr hj (Nat.le_of_lt hk)).1 m2
    have hle := m3 _ hmem hab
    have : j = k := by
      rcases Nat.lt_or_ge k j with h | h
      · have := riseC_at hr hk hj h; omega
      · omega
    subst this; rfl
theorem pick_end (cs : List Nat) : pick (lastK (onceC cs) (onceC cs).length) cs = none := by
  have hr := onceC_rise cs
  obtain ⟨h1, h2⟩ := pick_spec (lastK (onceC cs) (onceC cs).length) cs
  cases hp : pick (lastK (onceC cs) (onceC cs).length) cs with
  | none => rfl
  | some l =>
    obtain ⟨m1, m2, _⟩ := h1 l hp
    obtain ⟨j, hj, rfl⟩ := List.getElem_of_mem ((mem_onceC cs l).2 m1)
    have := (lastK_above hr hj (Nat.le_refl _)).1 m2
    omega
end Go.Proofs.Ytdpikdkhemhmdaa
