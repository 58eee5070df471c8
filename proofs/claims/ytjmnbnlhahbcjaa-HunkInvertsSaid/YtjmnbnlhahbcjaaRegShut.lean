/- A region that draws its order and writes over what it has read: S holds until one operation, for which all that reads has come up; behind it the rest is walked as it stands. No program. -/
import Derived.Test.YtjmnbnlhahbcjaaRegTree
namespace Go.Proofs.Ytjmnbnlhahbcjaa
open Go Go.RowKit

section
variable {P : Program} {ops : Array Oper} {Q : Exit → Act → World → Prop} {S : World → Prop} {z : Nat}

/-- Whatever comes up: behind each operation ahead of number z, S holds; behind z nothing is asked. -/
def wpUntil (P : Program) (ops : Array Oper) (Q : Exit → Act → World → Prop) (S : World → Prop) (z : Nat) : Nat → Array Bool → Act → World → Prop
  | 0, listed, a, w => Region.ready .any ops listed = [] ∧ Q .normal a w
  | n + 1, listed, a, w => (Region.ready .any ops listed = [] → Q .normal a w) ∧ ∀ i ∈ Region.ready .any ops listed,
      wpOp P ops Q i (fun a' w' => (i = z → wpAny P .any ops Q n (listed.setIfInBounds i true) a' w') ∧ (i ≠ z → S w' ∧ wpUntil P ops Q S z n (listed.setIfInBounds i true) a' w')) a w
theorem until_any : ∀ (n : Nat) (listed : Array Bool) (a : Act) (w : World), wpUntil P ops Q S z n listed a w → wpAny P .any ops Q n listed a w
  | 0, _, _, _, h => h
  | n + 1, _, _, _, h => ⟨h.1, fun i hi => wpOp_mono (fun a' w' h' => by
      by_cases e : i = z
      · exact h'.1 e
      · exact until_any n _ a' w' (h'.2 e).2) (h.2 i hi)⟩
/-- What z waits for, and what yields wherever S holds, may be taken first. -/
theorem until_first {i : Nat} {oi : Oper} {v : Value} (hi : ops[i]? = some oi) (hsel : ∀ (j : Nat) (o : Oper) cs b, ops[j]? = some o → o.op ≠ .select cs b)
    (hQ : ∀ c a w, Q (.panic c) (a.put oi.dst v) w → Q (.panic c) a w) (hiz : i ≠ z) (hz : ∀ o, ops[z]? = some o → ∃ e ∈ o.after, Region.binds .any e = true ∧ e.on = i) :
    ∀ (n : Nat) (listed : Array Bool) (a : Act) (w : World),
      (∀ j oj, ops[j]? = some oj → j ≠ i → listed.getD j true = false → (∀ e ∈ oj.after, Region.binds .any e = true → e.on ≠ i) → oi.apart ops oj = true) →
      i ∈ Region.ready .any ops listed → YieldsIf P ops S oi v a → S w →
      wpUntil P ops Q S z n (listed.setIfInBounds i true) (a.put oi.dst v) w → wpUntil P ops Q S z (n + 1) listed a w := by
  intro n
  induction n with
  | zero =>
    intro listed a w _ hr hy hS H
    refine ⟨fun h => (by rw [h] at hr; cases hr), fun j hj => ?_⟩
    by_cases hji : j = i
    · subst hji
      exact hy.wpOp hi hS ⟨fun e => absurd e hiz, fun _ => ⟨hS, H⟩⟩
    · have h0 := ready_mono hj hji
      rw [H.1] at h0
      cases h0
  | succ n ih =>
    intro listed a w hfree hr hy hS H
    refine ⟨fun h => (by rw [h] at hr; cases hr), fun j hj => ?_⟩
    by_cases hji : j = i
    · subst hji
      exact hy.wpOp hi hS ⟨fun e => absurd e hiz, fun _ => ⟨hS, H⟩⟩
    · obtain ⟨hun, oj, hoj, hall⟩ := mem_ready.1 hj
      have hnot : ∀ e ∈ oj.after, Region.binds .any e = true → e.on ≠ i := fun e he hb heq => by
        have h1 := hall e he hb
        have h0 := (mem_ready.1 hr).1
        rw [heq] at h1
        rcases Nat.lt_or_ge i listed.size with h' | h'
        · simp [h'] at h0 h1; rw [h0] at h1; cases h1
        · simp [Array.getElem?_eq_none h'] at h1
      have hjz : j ≠ z := fun e => by
        subst e
        obtain ⟨e, he, hb, h1⟩ := hz oj hoj
        exact hnot e he hb h1
      have h2 := wpOp_putIf hoj (hfree j oj hoj hji hun hnot) (fun cs b => hsel i oi cs b hi) (fun cs b => hsel j oj cs b hoj) hQ hy (H.2 j (ready_mono hj hji))
      refine wpOp_mono (fun a' w' h3 => ⟨fun e => absurd e hjz, fun _ => ⟨(h3.2.2 hjz).1, ih (listed.setIfInBounds j true) a' w' (fun k ok hk hki hu hno => hfree k ok hk hki ?_ hno) (ready_mono hr (Ne.symm hji)) h3.1 (h3.2.2 hjz).1 ?_⟩⟩) h2
      · by_cases hjk : j = k
        · subst hjk; exact hun
        · rwa [getD_set_ne true hjk] at hu
      · rw [Array.setIfInBounds_comm _ _ hji]
        exact (h3.2.2 hjz).2
/-- What yields in whatever world may be taken first, too. -/
theorem until_pure {i : Nat} {oi : Oper} {v : Value} (hi : ops[i]? = some oi) (hsel : ∀ (j : Nat) (o : Oper) cs b, ops[j]? = some o → o.op ≠ .select cs b)
    (hQ : ∀ c a w, Q (.panic c) (a.put oi.dst v) w → Q (.panic c) a w) (hiz : i ≠ z) :
    ∀ (n : Nat) (listed : Array Bool) (a : Act) (w : World),
      (∀ j oj, ops[j]? = some oj → j ≠ i → listed.getD j true = false → (∀ e ∈ oj.after, Region.binds .any e = true → e.on ≠ i) → oi.apart ops oj = true) →
      i ∈ Region.ready .any ops listed → YieldsIf P ops (fun _ => True) oi v a → S w →
      wpUntil P ops Q S z n (listed.setIfInBounds i true) (a.put oi.dst v) w → wpUntil P ops Q S z (n + 1) listed a w := by
  intro n
  induction n with
  | zero =>
    intro listed a w _ hr hy hS H
    refine ⟨fun h => (by rw [h] at hr; cases hr), fun j hj => ?_⟩
    by_cases hji : j = i
    · subst hji
      exact hy.wpOp hi trivial ⟨fun e => absurd e hiz, fun _ => ⟨hS, H⟩⟩
    · have h0 := ready_mono hj hji
      rw [H.1] at h0
      cases h0
  | succ n ih =>
    intro listed a w hfree hr hy hS H
    refine ⟨fun h => (by rw [h] at hr; cases hr), fun j hj => ?_⟩
    by_cases hji : j = i
    · subst hji
      exact hy.wpOp hi trivial ⟨fun e => absurd e hiz, fun _ => ⟨hS, H⟩⟩
    · obtain ⟨hun, oj, hoj, hall⟩ := mem_ready.1 hj
      have hnot : ∀ e ∈ oj.after, Region.binds .any e = true → e.on ≠ i := fun e he hb heq => by
        have h1 := hall e he hb
        have h0 := (mem_ready.1 hr).1
        rw [heq] at h1
        rcases Nat.lt_or_ge i listed.size with h' | h'
        · simp [h'] at h0 h1; rw [h0] at h1; cases h1
        · simp [Array.getElem?_eq_none h'] at h1
      have hfree' : ∀ k ok, ops[k]? = some ok → k ≠ i → (listed.setIfInBounds j true).getD k true = false → (∀ e ∈ ok.after, Region.binds .any e = true → e.on ≠ i) → oi.apart ops ok = true := fun k ok hk hki hu hno => hfree k ok hk hki (by
        by_cases hjk : j = k
        · subst hjk; exact hun
        · rwa [getD_set_ne true hjk] at hu) hno
      have h2 := wpOp_putIf hoj (hfree j oj hoj hji hun hnot) (fun cs b => hsel i oi cs b hi) (fun cs b => hsel j oj cs b hoj) hQ hy (H.2 j (ready_mono hj hji))
      refine wpOp_mono (fun a' w' h3 => ⟨fun e => ?_, fun e => ⟨(h3.2.2 e).1, ih (listed.setIfInBounds j true) a' w' hfree' (ready_mono hr (Ne.symm hji)) h3.1 (h3.2.2 e).1 ?_⟩⟩) h2
      · refine wpAny_first hi hsel hQ n (listed.setIfInBounds j true) a' w' hfree' (ready_mono hr (Ne.symm hji)) (h3.1.imp (fun ⟨hw, hv⟩ => ⟨hw, fun w => hv w trivial⟩) id) ?_
        rw [Array.setIfInBounds_comm _ _ hji]
        exact h3.2.1 e
      · rw [Array.setIfInBounds_comm _ _ hji]
        exact (h3.2.2 e).2
end
section
variable {P : Program} {l : List Oper} {Q : Exit → Act → World → Prop} {S : World → Prop} {z : Nat} {ord : List (Nat × Bool)}
/-- Does z wait for i? -/
def waitsB (l : List Oper) (z i : Nat) : Bool := match opL l z with
  | some o => o.after.toList.any fun e => Region.binds .any e && (e.on == i)
  | none => false
theorem waitsB_spec {i : Nat} (h : waitsB l z i = true) : ∀ o, l.toArray[z]? = some o → ∃ e ∈ o.after, Region.binds .any e = true ∧ e.on = i := by
  intro o ho
  rw [List.getElem?_toArray, ← opL_get] at ho
  unfold waitsB at h
  rw [ho] at h
  obtain ⟨e, he, hb⟩ := List.any_eq_true.1 h
  simp only [Bool.and_eq_true, beq_iff_eq] at hb
  exact ⟨e, Array.mem_toList_iff.1 he, hb.1, hb.2⟩
/-- The walk in the order that is told, until z; then z, then ord. -/
def wpTz (P : Program) (l : List Oper) (Q : Exit → Act → World → Prop) (S : World → Prop) (z : Nat) (ord : List (Nat × Bool)) : OT → Act → World → Prop
  | .done, a, w => CallAt P l Q (fun _ => True) z a w (wpOrd P l Q (fun _ => True) ord)
  | .take i t, a, w => ∃ o v, opL l i = some o ∧ (YieldsIf P l.toArray (fun _ => True) o v a ∨ waitsB l z i = true ∧ YieldsIf P l.toArray S o v a) ∧ wpTz P l Q S z ord t (a.put o.dst v) w
  | .call i t, a, w => CallAt P l Q S i a w (wpTz P l Q S z ord t)
  | .two i j ti tj, a, w => CallAt P l Q S i a w (wpTz P l Q S z ord ti) ∧ CallAt P l Q S j a w (wpTz P l Q S z ord tj)
def treeZ (l : List Oper) (z : Nat) (ord : List (Nat × Bool)) : OT → Nat → Array Bool → Bool
  | .done, n + 1, listed => decide (Region.ready .any l.toArray listed = [z]) && decide (ord.length = n) && ordB l ord (listed.setIfInBounds z true)
  | .take i t, n + 1, listed => Region.free .any l.toArray listed i && (Region.ready .any l.toArray listed).contains i && decide (i ≠ z) && treeZ l z ord t n (listed.setIfInBounds i true)
  | .call i t, n + 1, listed => decide (Region.ready .any l.toArray listed = [i]) && decide (i ≠ z) && treeZ l z ord t n (listed.setIfInBounds i true)
  | .two i j ti tj, n + 1, listed => decide (Region.ready .any l.toArray listed = [i, j]) && decide (i ≠ z) && decide (j ≠ z) && treeZ l z ord ti n (listed.setIfInBounds i true) && treeZ l z ord tj n (listed.setIfInBounds j true)
  | _, 0, _ => false
theorem tz_any (hs : Region.noSelect l.toArray = true) (hQ : ∀ c (a : Act) d v w, Q (.panic c) (a.put d v) w → Q (.panic c) a w) : ∀ (t : OT) (n : Nat) (listed : Array Bool) (a : Act) (w : World),
    treeZ l z ord t n listed = true → S w → wpTz P l Q S z ord t a w → wpUntil P l.toArray Q S z n listed a w
  | .done, n + 1, listed, a, w, hB, hS, h => by
    simp only [treeZ, Bool.and_eq_true, decide_eq_true_eq] at hB
    obtain ⟨⟨hr, hl⟩, hB'⟩ := hB
    obtain ⟨o, ho, h⟩ := h
    have hi : l.toArray[z]? = some o := by rw [List.getElem?_toArray, ← opL_get]; exact ho
    refine ⟨fun h0 => (by rw [hr] at h0; cases h0), fun i hi' => ?_⟩
    rw [hr, List.mem_singleton] at hi'
    subst hi'
    refine wpOp_step hi (fun K hK => h K (fun a' w' _ hw' => hK a' w' ⟨fun _ => ?_, fun e => absurd rfl e⟩))
    have := wpAny_of_held _ _ _ _ (ord_any hs hQ ord _ a' w' hB' trivial (hw' trivial))
    rwa [hl] at this
  | .take i t, n + 1, listed, a, w, hB, hS, h => by
    simp only [treeZ, Bool.and_eq_true, decide_eq_true_eq] at hB
    obtain ⟨⟨⟨hf, hr⟩, hz⟩, hB'⟩ := hB
    obtain ⟨o, v, ho, hy | ⟨hw, hy⟩, hr'⟩ := h
    all_goals have hi : l.toArray[i]? = some o := by rw [List.getElem?_toArray, ← opL_get]; exact ho
    · exact until_pure hi (Region.noSelect_spec hs) (fun c a w h => hQ c a _ _ w h) hz n listed a w (Region.free_spec hi hf) (by simpa using hr) hy hS (tz_any hs hQ t n _ _ _ hB' hS hr')
    exact until_first hi (Region.noSelect_spec hs) (fun c a w h => hQ c a _ _ w h) hz (waitsB_spec hw) n listed a w (Region.free_spec hi hf) (by simpa using hr) hy hS (tz_any hs hQ t n _ _ _ hB' hS hr')
  | .call i t, n + 1, listed, a, w, hB, hS, h => by
    simp only [treeZ, Bool.and_eq_true, decide_eq_true_eq] at hB
    obtain ⟨⟨hr, hz⟩, hB'⟩ := hB
    obtain ⟨o, ho, h⟩ := h
    have hi : l.toArray[i]? = some o := by rw [List.getElem?_toArray, ← opL_get]; exact ho
    refine ⟨fun h0 => (by rw [hr] at h0; cases h0), fun k hk => ?_⟩
    rw [hr, List.mem_singleton] at hk
    subst hk
    exact wpOp_step hi (fun K hK => h K (fun a' w' hS' hw' => hK a' w' ⟨fun e => absurd e hz, fun _ => ⟨hS', tz_any hs hQ t n _ _ _ hB' hS' (hw' hS')⟩⟩))
  | .two i j ti tj, n + 1, listed, a, w, hB, hS, h => by
    simp only [treeZ, Bool.and_eq_true, decide_eq_true_eq] at hB
    obtain ⟨⟨⟨⟨hr, hzi⟩, hzj⟩, hB1⟩, hB2⟩ := hB
    obtain ⟨⟨o, ho, h1⟩, ⟨o', ho', h2⟩⟩ := h
    have hi : l.toArray[i]? = some o := by rw [List.getElem?_toArray, ← opL_get]; exact ho
    have hj : l.toArray[j]? = some o' := by rw [List.getElem?_toArray, ← opL_get]; exact ho'
    refine ⟨fun h0 => (by rw [hr] at h0; cases h0), fun k hk => ?_⟩
    rw [hr] at hk
    rcases List.mem_cons.1 hk with rfl | hk
    · exact wpOp_step hi (fun K hK => h1 K (fun a' w' hS' hw' => hK a' w' ⟨fun e => absurd e hzi, fun _ => ⟨hS', tz_any hs hQ ti n _ _ _ hB1 hS' (hw' hS')⟩⟩))
    · rw [List.mem_singleton] at hk
      subst hk
      exact wpOp_step hj (fun K hK => h2 K (fun a' w' hS' hw' => hK a' w' ⟨fun e => absurd e hzj, fun _ => ⟨hS', tz_any hs hQ tj n _ _ _ hB2 hS' (hw' hS')⟩⟩))
/-- The region, in the order that is told, z and what comes behind it last. -/
theorem region_tz (S : World → Prop) (t : OT) (z : Nat) (ord : List (Nat × Bool)) {id : Nat} {a : Act} {w : World} (hm : P.follows .mixedOrders = true) (hs : Region.noSelect l.toArray = true) (hB : treeZ l z ord t l.length (Array.replicate l.length false) = true)
    (hS : S w.drew) (h : wpTz P l (NoPanic Q) S z ord t a w.drew) : (Code.region id l.toArray true).wp P Q a w := by
  refine wp_region_noPanic (wp_region_any hm ?_)
  have := until_any _ _ _ _ (tz_any (S := S) (z := z) (ord := ord) hs (fun _ _ _ _ _ h => h) t l.length (Array.replicate l.length false) a w.drew hB hS h)
  simpa using this
theorem tz_take {i : Nat} {t : OT} {a : Act} {w : World} {o : Oper} {v : Value} (ho : opL l i = some o) (hw : Region.wanted o (yielded l.toArray a.tmps) = true) (hv : ∀ w, True → (execOp a.eval o).run P w = .ok (.value v) w) (h : wpTz P l Q S z ord t (a.put o.dst v) w) : wpTz P l Q S z ord (.take i t) a w :=
  ⟨o, v, ho, .inl (.inl ⟨hw, hv⟩), h⟩
theorem tz_load {i : Nat} {t : OT} {a : Act} {w : World} {o : Oper} {v : Value} (ho : opL l i = some o) (hz : waitsB l z i = true) (hw : Region.wanted o (yielded l.toArray a.tmps) = true) (hv : ∀ w, S w → (execOp a.eval o).run P w = .ok (.value v) w) (h : wpTz P l Q S z ord t (a.put o.dst v) w) : wpTz P l Q S z ord (.take i t) a w :=
  ⟨o, v, ho, .inr ⟨hz, .inl ⟨hw, hv⟩⟩, h⟩
theorem tz_call {i : Nat} {t : OT} {a : Act} {w : World} (h : CallAt P l Q S i a w (wpTz P l Q S z ord t)) : wpTz P l Q S z ord (.call i t) a w := h
theorem tz_two {i j : Nat} {ti tj : OT} {a : Act} {w : World} (h1 : CallAt P l Q S i a w (wpTz P l Q S z ord ti)) (h2 : CallAt P l Q S j a w (wpTz P l Q S z ord tj)) : wpTz P l Q S z ord (.two i j ti tj) a w := ⟨h1, h2⟩
theorem tz_last {a : Act} {w : World} (h : CallAt P l Q (fun _ => True) z a w (wpOrd P l Q (fun _ => True) ord)) : wpTz P l Q S z ord .done a w := h
end
end Go.Proofs.Ytjmnbnlhahbcjaa
