/- What is not touched stays: plain. The way through texts and hunks side by side. -/
import Derived.Test.YtjmnbnlhahbcjaaHuApP
import Derived.Test.YtjmnbnlhahbcjaaHuTouch
namespace Go.Proofs.Ytjmnbnlhahbcjaa
open Go Go.RowKit

/-- A place is covered by what some hunk takes away. -/
def Cov (hs : List Hu) (j : Nat) : Prop := ∃ h ∈ hs, h.pos.toNat ≤ j ∧ j < h.pos.toNat + h.old.length
theorem setR_at (l : List Bool) (i j : Nat) : ∀ k, i + k ≤ l.length → ((setR l i k)[j]? = some true ↔ l[j]? = some true ∨ (i ≤ j ∧ j < i + k))
  | 0, _ => by simp only [setR]; constructor; exact Or.inl; rintro (h | h); exact h; omega
  | k + 1, hk => by
    have ih := setR_at l i j k (by omega)
    simp only [setR]
    by_cases e : i + k = j
    · subst e
      rw [List.getElem?_set_self (by rw [setR_len]; omega)]
      constructor
      · exact fun _ => .inr (by omega)
      · exact fun _ => rfl
    · rw [List.getElem?_set_ne e, ih]
      constructor
      · rintro (h | h); exact .inl h; exact .inr (by omega)
      · rintro (h | h); exact .inl h; exact .inr (by omega)
theorem tch_fit (n : Nat) (j : Nat) : ∀ (hs : List Hu) (l : List Bool), l.length = n → (∀ h ∈ hs, h.pos.toNat + h.old.length ≤ n) → ∃ l', tch n hs l = some l' ∧ l'.length = n ∧ (l'[j]? = some true ↔ l[j]? = some true ∨ Cov hs j)
  | [], l, hl, _ => ⟨l, rfl, hl, by constructor; exact Or.inl; rintro (h | ⟨x, hx, _⟩); exact h; cases hx⟩
  | h :: hs, l, hl, hf => by
    have h1 := hf h (.head _)
    obtain ⟨l', e1, e2, e3⟩ := tch_fit n j hs (setR l h.pos.toNat h.old.length) (by rw [setR_len]; exact hl) (fun x hx => hf x (.tail _ hx))
    refine ⟨l', by simp only [tch]; rw [if_neg (by omega)]; exact e1, e2, ?_⟩
    rw [e3, setR_at _ _ _ _ (by omega)]
    constructor
    · rintro ((h2 | h2) | ⟨x, hx, h2⟩)
      · exact .inl h2
      · exact .inr ⟨h, .head _, h2⟩
      · exact .inr ⟨x, .tail _ hx, h2⟩
    · rintro (h2 | ⟨x, hx, h2⟩)
      · exact .inl (.inl h2)
      · rcases List.mem_cons.1 hx with rfl | hx
        · exact .inl (.inr h2)
        · exact .inr ⟨x, hx, h2⟩
theorem FitS.all {a : List Tx} : ∀ {k : Nat} {hs : List Hu}, FitS a k hs → ∀ h ∈ hs, h.pos.toNat + h.old.length ≤ a.length
  | k, h :: hs, f, x, hx => by
    obtain ⟨f1, f2, f3, f4, f5⟩ := f
    rcases List.mem_cons.1 hx with rfl | hx
    · exact f3
    · exact f5.all x hx
/-- What Touched answers where the hunks fit. -/
theorem tchX_fit {a : List Tx} {hs : List Hu} (e : (fitX a hs).2 = 0) (hm : a.length ≤ 1048576) : ∃ L, tchX hs (a.length : Int) = (0, L) ∧ L.length = a.length ∧ ∀ j, L[j]? = some true ↔ Cov hs j := by
  obtain ⟨_, g, _, f⟩ := fitX_zero e
  have hmay : ¬ may 0 hs < hs.length := by rw [(good_may 0 hs).2 g]; omega
  have key := fun j => tch_fit a.length j hs (List.replicate a.length false) (by simp) f.all
  obtain ⟨L, e1, e2, _⟩ := key 0
  refine ⟨L, ?_, e2, fun j => ?_⟩
  · unfold tchX
    rw [if_neg (by rintro (h | h | h); exact hmay h; omega; omega), Int.toNat_natCast, e1]
  · obtain ⟨L', e3, _, e4⟩ := key j
    rw [e1] at e3
    injection e3 with e3
    subst e3
    rw [e4]
    constructor
    · rintro (h | h)
      · rw [List.getElem?_replicate] at h
        split at h <;> simp at h
      · exact h
    · exact Or.inr
theorem good_from : ∀ {l : Int} {hs : List Hu}, Good l hs → ∀ h ∈ hs, l ≤ h.pos
  | l, h :: hs, g, x, hx => by
    obtain ⟨s, g⟩ := g
    have s1 := ((stp_iff l h).1 s).1
    rcases List.mem_cons.1 hx with rfl | hx
    · exact s1
    · have := good_from g x hx
      unfold lst at this
      omega
/-- The way: k texts, what came of them as far as 'at', i hunks, the last of which ends at e. -/
structure Ct (a t : List Tx) (L : List Bool) (hs : List Hu) (k at' i e : Nat) : Prop where
  ile : i ≤ hs.length
  ale : at' ≤ t.length
  rest : t.drop at' = ap a (max k e) (hs.drop i)
  fit : FitS a e (hs.drop i)
  good : ∃ l, Good l (hs.drop i)
  pos : ∀ h ∈ hs.drop i, (k : Int) ≤ h.pos
  mark : ∀ j, k ≤ j → (L[j]? = some true ↔ j < e ∨ Cov (hs.drop i) j)
  ele : e ≤ a.length
theorem Ct.start {a : List Tx} {L : List Bool} {hs : List Hu} (e : (fitX a hs).2 = 0) (hL : ∀ j, L[j]? = some true ↔ Cov hs j) : Ct a (ap a 0 hs) L hs 0 0 0 0 := by
  obtain ⟨_, g, _, f⟩ := fitX_zero e
  refine ⟨Nat.zero_le _, Nat.zero_le _, rfl, f, ⟨0, g⟩, fun h hh => by simpa using good_from g h hh, fun j _ => ?_, Nat.zero_le _⟩
  rw [hL]
  constructor
  · exact Or.inr
  · rintro (h | h)
    · omega
    · exact h
/-- A hunk stands here: what it brings comes. -/
theorem Ct.new {a t : List Tx} {L : List Bool} {hs : List Hu} {k at' i e : Nat} (h : Ct a t L hs k at' i e) (hi : i < hs.length) (hp : hs[i].pos = (k : Int)) :
    at' + hs[i].new.length ≤ t.length ∧ (∀ j, j < hs[i].new.length → t[at' + j]? = hs[i].new[j]?) ∧ Ct a t L hs k (at' + hs[i].new.length) (i + 1) (k + hs[i].old.length) := by
  obtain ⟨ile, ale, rest, fit, ⟨l, good⟩, pos, mark, ele⟩ := h
  rw [List.drop_eq_getElem_cons hi] at rest fit good pos mark
  generalize hs[i] = x at *
  obtain ⟨f1, f2, f3, f4, f5⟩ := fit
  have hk : x.pos.toNat = k := by omega
  rw [hk] at f2 f3 f5
  have hmx : max k e = k := by omega
  rw [hmx] at rest
  simp only [ap, hk, seg_self, List.nil_append] at rest
  have hlen : (t.drop at').length = x.new.length + (ap a (k + x.old.length) (hs.drop (i + 1))).length := by rw [rest, List.length_append]
  rw [List.length_drop] at hlen
  refine ⟨by omega, fun j hj => ?_, by omega, by omega, ?_, f5, ⟨_, good.2⟩, fun y hy => pos y (.tail _ hy), fun j hj => ?_, f3⟩
  · rw [← List.getElem?_drop, rest, List.getElem?_append_left hj]
  · rw [← List.drop_drop, rest, List.drop_left, Nat.max_eq_right (by omega)]
  · rw [mark j hj]
    constructor
    · rintro (h | ⟨y, hy, h⟩)
      · omega
      · rcases List.mem_cons.1 hy with rfl | hy
        · exact .inl (by omega)
        · exact .inr ⟨y, hy, h⟩
    · rintro (h | ⟨y, hy, h⟩)
      · exact .inr ⟨x, .head _, by omega⟩
      · exact .inr ⟨y, .tail _ hy, h⟩
/-- No hunk stands here any more. -/
theorem Ct.past {a t : List Tx} {L : List Bool} {hs : List Hu} {k at' i e : Nat} (h : Ct a t L hs k at' i e) (hn : ∀ hi : i < hs.length, hs[i].pos ≠ (k : Int)) : ∀ y ∈ hs.drop i, (k : Int) + 1 ≤ y.pos := by
  intro y hy
  obtain ⟨ile, ale, rest, fit, ⟨l, good⟩, pos, mark, ele⟩ := h
  by_cases hi : i < hs.length
  · have h0 := hn hi
    rw [List.drop_eq_getElem_cons hi] at good pos hy
    have h1 := pos hs[i] (.head _)
    rcases List.mem_cons.1 hy with rfl | hy
    · omega
    · have h2 := good_from good.2 y hy
      unfold lst at h2
      omega
  · rw [List.drop_eq_nil_of_le (by omega)] at hy
    cases hy
/-- A text that is touched is passed. -/
theorem Ct.skip {a t : List Tx} {L : List Bool} {hs : List Hu} {k at' i e : Nat} (h : Ct a t L hs k at' i e) (hn : ∀ hi : i < hs.length, hs[i].pos ≠ (k : Int)) (hk : k < a.length → L[k]? = some true) (hkm : k ≤ a.length) : Ct a t L hs (k + 1) at' i e := by
  have hp := h.past hn
  obtain ⟨ile, ale, rest, fit, good, pos, mark, ele⟩ := h
  refine ⟨ile, ale, ?_, fit, good, fun y hy => by have := hp y hy; omega, fun j hj => mark j (by omega), ele⟩
  by_cases hlt : k < a.length
  · have h1 := (mark k (Nat.le_refl _)).1 (hk hlt)
    have h2 : k < e := by
      rcases h1 with h1 | ⟨y, hy, h1⟩
      · exact h1
      · have := hp y hy; omega
    rw [rest]
    congr 1
    omega
  · have hd : hs.drop i = [] := by
      cases hc : hs.drop i with
      | nil => rfl
      | cons y ys =>
        rw [hc] at hp fit
        have h1 := hp y (.head _)
        obtain ⟨f1, f2, f3, _⟩ := fit
        omega
    rw [rest, hd]
    simp only [ap]
    rw [List.drop_eq_nil_of_le (by omega), List.drop_eq_nil_of_le (by omega)]
/-- A text that is not touched stands there. -/
theorem Ct.take {a t : List Tx} {L : List Bool} {hs : List Hu} {k at' i e : Nat} (h : Ct a t L hs k at' i e) (hn : ∀ hi : i < hs.length, hs[i].pos ≠ (k : Int)) (hk : ¬ L[k]? = some true) (hkm : k < a.length) :
    at' < t.length ∧ t[at']? = a[k]? ∧ Ct a t L hs (k + 1) (at' + 1) i e := by
  have hp := h.past hn
  obtain ⟨ile, ale, rest, fit, good, pos, mark, ele⟩ := h
  have hke : e ≤ k := by
    rcases Nat.lt_or_ge k e with h1 | h1
    · exact absurd ((mark k (Nat.le_refl _)).2 (.inl h1)) hk
    · exact h1
  have hr : t.drop at' = a[k] :: ap a (k + 1) (hs.drop i) := by
    rw [rest, Nat.max_eq_left hke]
    cases hc : hs.drop i with
    | nil => simp only [ap]; rw [List.drop_eq_getElem_cons hkm]
    | cons y ys =>
      rw [hc] at hp fit
      have h1 := hp y (.head _)
      obtain ⟨f1, f2, f3, _⟩ := fit
      simp only [ap]
      rw [← seg_app a k (k + 1) y.pos.toNat (by omega) (by omega), seg_one _ _ hkm]
      rfl
  have hlen : (t.drop at').length = (ap a (k + 1) (hs.drop i)).length + 1 := by rw [hr, List.length_cons]
  rw [List.length_drop] at hlen
  refine ⟨by omega, ?_, ile, by omega, ?_, fit, good, fun y hy => by have := hp y hy; omega, fun j hj => mark j (by omega), ele⟩
  · have : (t.drop at')[0]? = some a[k] := by rw [hr]; rfl
    rw [List.getElem?_drop, Nat.add_zero] at this
    rw [this, List.getElem?_eq_getElem hkm]
  · rw [← List.drop_drop, hr, Nat.max_eq_left (by omega)]
    rfl
/-- At the end all is done. -/
theorem Ct.done {a t : List Tx} {L : List Bool} {hs : List Hu} {at' i e : Nat} (h : Ct a t L hs (a.length + 1) at' i e) : at' = t.length ∧ i = hs.length := by
  obtain ⟨ile, ale, rest, fit, good, pos, mark, ele⟩ := h
  have hd : hs.drop i = [] := by
    cases hc : hs.drop i with
    | nil => rfl
    | cons y ys =>
      rw [hc] at pos fit
      have h1 := pos y (.head _)
      obtain ⟨f1, f2, f3, _⟩ := fit
      omega
  rw [hd, Nat.max_eq_left (by omega)] at rest
  simp only [ap] at rest
  have e2 : a.drop (a.length + 1) = [] := List.drop_eq_nil_of_le (by omega)
  rw [e2] at rest
  have h1 := congrArg List.length rest
  have h2 := congrArg List.length hd
  simp at h1 h2
  omega
end Go.Proofs.Ytjmnbnlhahbcjaa
