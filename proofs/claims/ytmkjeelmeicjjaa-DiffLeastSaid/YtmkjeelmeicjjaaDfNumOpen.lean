/- A list of numbers that came in, opened. -/
import Derived.Test.YtmkjeelmeicjjaaDfSame
import Derived.ChangeSlices
import Derived.OpenShut
namespace Go.Proofs.Ytmkjeelmeicjjaa
open Go Go.ChangeShapes Go.WideShapes Go.RowKit

theorem lits_len {H : Type} (k : IntKind) (zs : List Int) : (lits k zs : List (DataW H)).length = zs.length := by simp [lits]
theorem open_nums {H : Type} {enc : TypeId × Value → H} {P : Program} {W : World} {base : Nat} {k : IntKind} {t el : TypeId} {v : Value} {d : DataW H} {ps : List MemPlace} (ht : P.underlying t = some (.slice el)) (he : P.underlying el = some (.int k)) (hc : P.cellsOf el = 1) (hv : Value.okWide P W .any base t v)
    (h : DataW.Trod enc P W 0 (fun _ => true) true t v d ps) :
    ∃ (p : Option Addr) (n c : Nat) (xs : List Int), v = .slice p n c ∧ xs.length = n ∧ NumRow k W p xs ∧ (p = none → n = 0 ∧ c = 0) ∧ (∀ x ∈ xs, (Lit.int k x).wf = true) ∧ (n = 0 ∨ ∃ elems spare, d = .slice elems spare ∧ elems.length = n) := by
  obtain ⟨a0, n0, c0, rfl⟩ := okWide_slice ht hv
  obtain ⟨fuel, hf⟩ := h
  rcases Go.ChangeShapes.open_ints ht he hc hf with ⟨hcs, _⟩ | ⟨a, len, cap, zs, hcs, _, hl, _, hlen, hx, hcell, hwf⟩
  · simp [Value.cells] at hcs
    obtain ⟨rfl, rfl, rfl⟩ := hcs
    exact ⟨none, 0, 0, [], rfl, rfl, fun i hi => absurd hi (Nat.not_lt_zero _), fun _ => ⟨rfl, rfl⟩, fun x hx => (by cases hx), .inl rfl⟩
  · simp [Value.cells] at hcs
    obtain ⟨rfl, rfl, rfl⟩ := hcs
    simp only [if_true] at hlen
    simp only [Prod.mk.injEq] at hx
    have htl : (zs.take n0).length = n0 := by rw [List.length_take]; omega
    refine ⟨some a, n0, c0, zs.take n0, rfl, htl, ?_, (fun e => by cases e), fun x hx' => hwf x (List.mem_of_mem_take hx'), .inr ⟨_, _, hx.1, by rw [lits_len, htl]⟩⟩
    intro i hi
    obtain ⟨b, off, rfl, hat⟩ := ints_at hcell (by omega)
    have hi2 : i < zs.length := by omega
    have hcl := hat i hi2
    rw [List.getD_eq_getElem?_getD, List.getElem?_eq_getElem hi2] at hcl
    refine ⟨b, off, rfl, ?_, by rw [hcl, List.getElem_take]; rfl⟩
    have := World.block_lt_of_cell? W _ hcl
    exact this
end Go.Proofs.Ytmkjeelmeicjjaa
