/- A region that draws its order, walked in an order that is told, with forks where two operations may come up. No program. -/
import Derived.Test.YtjmnbnlhahbcjaaRegOrd
namespace Go.Proofs.Ytjmnbnlhahbcjaa
open Go Go.RowKit

/-- The order, with its forks. -/
inductive OT where
  | done
  | take (i : Nat) (t : OT)
  | call (i : Nat) (t : OT)
  | two (i j : Nat) (ti tj : OT)

section
variable {P : Program} {l : List Oper} {Q : Exit → Act → World → Prop} {S : World → Prop}

/-- One operation that is called. -/
def CallAt (P : Program) (l : List Oper) (Q : Exit → Act → World → Prop) (S : World → Prop) (i : Nat) (a : Act) (w : World) (R : Act → World → Prop) : Prop :=
  ∃ o, opL l i = some o ∧ ∀ K : Act → World → Prop, Shut (∀ a' w', S w' → (S w' → R a' w') → K a' w') → if Region.wanted o (yielded l.toArray a.tmps) = true then Oper.wp P o a w K Q else K (a.put o.dst undef) w
/-- The walk in the order that is told. -/
def wpTree (P : Program) (l : List Oper) (Q : Exit → Act → World → Prop) (S : World → Prop) : OT → Act → World → Prop
  | .done, a, w => Q .normal a w
  | .take i t, a, w => ∃ o v, opL l i = some o ∧ YieldsIf P l.toArray S o v a ∧ wpTree P l Q S t (a.put o.dst v) w
  | .call i t, a, w => CallAt P l Q S i a w (wpTree P l Q S t)
  | .two i j ti tj, a, w => CallAt P l Q S i a w (wpTree P l Q S ti) ∧ CallAt P l Q S j a w (wpTree P l Q S tj)
/-- May the order be so? -/
def treeB (l : List Oper) : OT → Nat → Array Bool → Bool
  | .done, _, listed => (Region.ready .any l.toArray listed).isEmpty
  | .take i t, n + 1, listed => Region.free .any l.toArray listed i && (Region.ready .any l.toArray listed).contains i && treeB l t n (listed.setIfInBounds i true)
  | .call i t, n + 1, listed => decide (Region.ready .any l.toArray listed = [i]) && treeB l t n (listed.setIfInBounds i true)
  | .two i j ti tj, n + 1, listed => decide (Region.ready .any l.toArray listed = [i, j]) && treeB l ti n (listed.setIfInBounds i true) && treeB l tj n (listed.setIfInBounds j true)
  | _, 0, _ => false

theorem tree_any (hs : Region.noSelect l.toArray = true) (hQ : ∀ c (a : Act) d v w, Q (.panic c) (a.put d v) w → Q (.panic c) a w) : ∀ (t : OT) (n : Nat) (listed : Array Bool) (a : Act) (w : World),
    treeB l t n listed = true → S w → wpTree P l Q S t a w → wpAnyH P .any l.toArray Q S n listed a w
  | .done, n, listed, a, w, hB, _, h => wpAnyH_done (by simpa [treeB] using hB) h _
  | .take i t, n + 1, listed, a, w, hB, hS, h => by
    simp only [treeB, Bool.and_eq_true] at hB
    obtain ⟨⟨hf, hr⟩, hB'⟩ := hB
    obtain ⟨o, v, ho, hy, hr'⟩ := h
    have hi : l.toArray[i]? = some o := by rw [List.getElem?_toArray, ← opL_get]; exact ho
    exact wpAnyH_take hi hs hf hr (fun c a w h => hQ c a _ _ w h) hy hS (tree_any hs hQ t n _ _ _ hB' hS hr')
  | .call i t, n + 1, listed, a, w, hB, hS, h => by
    simp only [treeB, Bool.and_eq_true, decide_eq_true_eq] at hB
    obtain ⟨hr, hB'⟩ := hB
    obtain ⟨o, ho, h⟩ := h
    have hi : l.toArray[i]? = some o := by rw [List.getElem?_toArray, ← opL_get]; exact ho
    refine wpAnyH_ready hr (by simp) (AllReadyH.cons hi (fun K hK => h K ?_) AllReadyH.nil)
    exact fun a' w' hS' hw' => hK.out a' w' hS' (fun hS'' => tree_any hs hQ t n _ _ _ hB' hS'' (hw' hS''))
  | .two i j ti tj, n + 1, listed, a, w, hB, hS, h => by
    simp only [treeB, Bool.and_eq_true, decide_eq_true_eq] at hB
    obtain ⟨⟨hr, hB1⟩, hB2⟩ := hB
    obtain ⟨⟨o, ho, h1⟩, ⟨o', ho', h2⟩⟩ := h
    have hi : l.toArray[i]? = some o := by rw [List.getElem?_toArray, ← opL_get]; exact ho
    have hj : l.toArray[j]? = some o' := by rw [List.getElem?_toArray, ← opL_get]; exact ho'
    refine wpAnyH_ready hr (by simp) (AllReadyH.cons hi (fun K hK => h1 K ?_) (AllReadyH.cons hj (fun K hK => h2 K ?_) AllReadyH.nil))
    · exact fun a' w' hS' hw' => hK.out a' w' hS' (fun hS'' => tree_any hs hQ ti n _ _ _ hB1 hS'' (hw' hS''))
    · exact fun a' w' hS' hw' => hK.out a' w' hS' (fun hS'' => tree_any hs hQ tj n _ _ _ hB2 hS'' (hw' hS''))
/-- The region, in the order that is told. -/
theorem region_tree (S : World → Prop) (t : OT) {id : Nat} {a : Act} {w : World} (hm : P.follows .mixedOrders = true) (hs : Region.noSelect l.toArray = true) (hB : treeB l t l.length (Array.replicate l.length false) = true)
    (hS : S w.drew) (h : wpTree P l (NoPanic Q) S t a w.drew) : (Code.region id l.toArray true).wp P Q a w := by
  refine wp_region_noPanic (wp_region_held_drew hm hS fun hS' => ?_)
  have := tree_any hs (fun _ _ _ _ _ h => h) t l.length (Array.replicate l.length false) a w.drew hB hS' h
  simpa using this
theorem tree_take {i : Nat} {t : OT} {a : Act} {w : World} {o : Oper} {v : Value} (ho : opL l i = some o) (hw : Region.wanted o (yielded l.toArray a.tmps) = true) (hv : ∀ w, S w → (execOp a.eval o).run P w = .ok (.value v) w) (h : wpTree P l Q S t (a.put o.dst v) w) : wpTree P l Q S (.take i t) a w :=
  ⟨o, v, ho, .inl ⟨hw, hv⟩, h⟩
theorem call_at {i : Nat} {R : Act → World → Prop} {a : Act} {w : World} {o : Oper} (ho : opL l i = some o) (hw : Region.wanted o (yielded l.toArray a.tmps) = true) (h : ∀ K : Act → World → Prop, Shut (∀ a' w', S w' → (S w' → R a' w') → K a' w') → Oper.wp P o a w K Q) : CallAt P l Q S i a w R :=
  ⟨o, ho, fun K hK => by rw [if_pos hw]; exact h K hK⟩
theorem tree_call {i : Nat} {t : OT} {a : Act} {w : World} (h : CallAt P l Q S i a w (wpTree P l Q S t)) : wpTree P l Q S (.call i t) a w := h
theorem tree_two {i j : Nat} {ti tj : OT} {a : Act} {w : World} (h1 : CallAt P l Q S i a w (wpTree P l Q S ti)) (h2 : CallAt P l Q S j a w (wpTree P l Q S tj)) : wpTree P l Q S (.two i j ti tj) a w := ⟨h1, h2⟩
theorem tree_end {a : Act} {w : World} (h : Q .normal a w) : wpTree P l (NoPanic Q) S .done a w := NoPanic.normal h
end
end Go.Proofs.Ytjmnbnlhahbcjaa
