/- A region that draws its order, walked once, in an order that is told: what yields in every world that meets S is taken first; a call is taken when nothing else may come up. No program. -/
import Derived.Deep.RegionHeld3
import Derived.RowKit
namespace Go.Proofs.Ytjmnbnlhahbcjaa
open Go Go.RowKit

section
variable {P : Program} {l : List Oper} {Q : Exit → Act → World → Prop} {S : World → Prop}

/-- The operation at a place. -/
def opL : List Oper → Nat → Option Oper
  | [], _ => none
  | o :: _, 0 => some o
  | _ :: r, n + 1 => opL r n
theorem opL_get : ∀ (l : List Oper) (i : Nat), opL l i = l[i]?
  | [], i => by simp [opL]
  | o :: r, 0 => by simp [opL]
  | o :: r, n + 1 => by rw [opL, opL_get r n]; simp
/-- The walk in the order that is told. -/
def wpOrd (P : Program) (l : List Oper) (Q : Exit → Act → World → Prop) (S : World → Prop) : List (Nat × Bool) → Act → World → Prop
  | [], a, w => Q .normal a w
  | (i, true) :: r, a, w => ∃ o v, opL l i = some o ∧ YieldsIf P l.toArray S o v a ∧ wpOrd P l Q S r (a.put o.dst v) w
  | (i, false) :: r, a, w => ∃ o, opL l i = some o ∧ ∀ K : Act → World → Prop, Shut (∀ a' w', S w' → (S w' → wpOrd P l Q S r a' w') → K a' w') → if Region.wanted o (yielded l.toArray a.tmps) = true then Oper.wp P o a w K Q else K (a.put o.dst undef) w
/-- May the order be so? -/
def ordB (l : List Oper) : List (Nat × Bool) → Array Bool → Bool
  | [], listed => (Region.ready .any l.toArray listed).isEmpty
  | (i, true) :: r, listed => Region.free .any l.toArray listed i && (Region.ready .any l.toArray listed).contains i && ordB l r (listed.setIfInBounds i true)
  | (i, false) :: r, listed => decide (Region.ready .any l.toArray listed = [i]) && ordB l r (listed.setIfInBounds i true)

theorem ord_any (hs : Region.noSelect l.toArray = true) (hQ : ∀ c (a : Act) d v w, Q (.panic c) (a.put d v) w → Q (.panic c) a w) : ∀ (ord : List (Nat × Bool)) (listed : Array Bool) (a : Act) (w : World),
    ordB l ord listed = true → S w → wpOrd P l Q S ord a w → wpAnyH P .any l.toArray Q S ord.length listed a w
  | [], listed, a, w, hB, _, h => wpAnyH_done (by simpa [ordB] using hB) h _
  | (i, true) :: r, listed, a, w, hB, hS, h => by
    simp only [ordB, Bool.and_eq_true] at hB
    obtain ⟨⟨hf, hr⟩, hB'⟩ := hB
    obtain ⟨o, v, ho, hy, hr'⟩ := h
    have hi : l.toArray[i]? = some o := by rw [List.getElem?_toArray, ← opL_get]; exact ho
    exact wpAnyH_take hi hs hf hr (fun c a w h => hQ c a _ _ w h) hy hS (ord_any hs hQ r _ _ _ hB' hS hr')
  | (i, false) :: r, listed, a, w, hB, hS, h => by
    simp only [ordB, Bool.and_eq_true, decide_eq_true_eq] at hB
    obtain ⟨hr, hB'⟩ := hB
    obtain ⟨o, ho, h⟩ := h
    have hi : l.toArray[i]? = some o := by rw [List.getElem?_toArray, ← opL_get]; exact ho
    refine wpAnyH_ready hr (by simp) (AllReadyH.cons hi (fun K hK => h K ?_) AllReadyH.nil)
    exact fun a' w' hS' hw' => hK.out a' w' hS' (fun hS'' => ord_any hs hQ r _ _ _ hB' hS'' (hw' hS''))
/-- The region, in the order that is told. (That nothing panics is shown on the way.) -/
theorem region_ord (S : World → Prop) (ord : List (Nat × Bool)) {id : Nat} {a : Act} {w : World} (hm : P.follows .mixedOrders = true) (hs : Region.noSelect l.toArray = true) (hlen : ord.length = l.length) (hB : ordB l ord (Array.replicate l.length false) = true)
    (hS : S w.drew) (h : wpOrd P l (NoPanic Q) S ord a w.drew) : (Code.region id l.toArray true).wp P Q a w := by
  refine wp_region_noPanic (wp_region_held_drew hm hS fun hS' => ?_)
  have := ord_any hs (fun _ _ _ _ _ h => h) ord (Array.replicate l.length false) a w.drew hB hS' h
  rw [hlen] at this
  simpa using this
theorem ord_take {i : Nat} {r : List (Nat × Bool)} {a : Act} {w : World} {o : Oper} {v : Value} (ho : opL l i = some o) (hw : Region.wanted o (yielded l.toArray a.tmps) = true) (hv : ∀ w, S w → (execOp a.eval o).run P w = .ok (.value v) w) (h : wpOrd P l Q S r (a.put o.dst v) w) : wpOrd P l Q S ((i, true) :: r) a w :=
  ⟨o, v, ho, .inl ⟨hw, hv⟩, h⟩
theorem ord_skip {i : Nat} {r : List (Nat × Bool)} {a : Act} {w : World} {o : Oper} (ho : opL l i = some o) (hw : Region.wanted o (yielded l.toArray a.tmps) = false) (h : wpOrd P l Q S r (a.put o.dst undef) w) : wpOrd P l Q S ((i, true) :: r) a w :=
  ⟨o, undef, ho, .inr ⟨hw, rfl⟩, h⟩
theorem ord_call {i : Nat} {r : List (Nat × Bool)} {a : Act} {w : World} {o : Oper} (ho : opL l i = some o) (hw : Region.wanted o (yielded l.toArray a.tmps) = true) (h : ∀ K : Act → World → Prop, Shut (∀ a' w', S w' → (S w' → wpOrd P l Q S r a' w') → K a' w') → Oper.wp P o a w K Q) : wpOrd P l Q S ((i, false) :: r) a w :=
  ⟨o, ho, fun K hK => by rw [if_pos hw]; exact h K hK⟩
theorem ord_end {a : Act} {w : World} (h : Q .normal a w) : wpOrd P l (NoPanic Q) S [] a w := NoPanic.normal h
end
end Go.Proofs.Ytjmnbnlhahbcjaa
