/- Lists of texts that came in, opened. -/
import Derived.Test.YtjmnbnlhahbcjaaHuRows
import Derived.Deep.Strs
import Derived.SizedLaws
namespace Go.Proofs.Ytjmnbnlhahbcjaa
open Go Go.RowKit Go.ChangeShapes Go.WideShapes

theorem strCellsN : Try.prog.cellsOf 9 = 1 := by kernel_rfl
theorem sized_tx {H : Type} {P : Program} {ts : List TypeId} {ds : List (DataW H)} (h : (DataW.weightsEach P ts ds).all (· ≤ reachBytes) = true) {j : Nat} {t : TypeId} {d : DataW H} {n : Nat} (ht : ts[j]? = some t) (hd : ds[j]? = some d) (hn : n ∈ d.weights P t) : n ≤ reachBytes := by
  have := List.all_eq_true.1 h _ (DataW.weights_mem_each ht hd n hn)
  simpa using this
theorem allWeightT {H : Type} {e : TypeId} {n : Nat} : ∀ {ds : List (DataW H)} {d : DataW H}, d ∈ ds → n ∈ d.weights Try.prog e → n ∈ DataW.weightsAll Try.prog e ds
  | x :: ds, d, hd, hn => by
    simp only [DataW.weightsAll, List.mem_append]
    rcases List.mem_cons.1 hd with rfl | hd
    · exact .inl hn
    · exact .inr (allWeightT hd hn)
theorem slWeightT {H : Type} {elems spare : List (DataW H)} {d : DataW H} {n : Nat} (hd : d ∈ elems) (hn : n ∈ d.weights Try.prog 9) : n ∈ (DataW.slice elems spare).weights Try.prog 33 := by
  simp only [DataW.weights, Try.underlying33, List.mem_cons, List.mem_append]
  exact .inr (.inl (allWeightT hd hn))
theorem open_tx_w {H : Type} {enc : TypeId × Value → H} {W : World} {fuel b off : Nat} {cs : List Value} {x : DataW H × List MemPlace} (hc : W.cells? 0 ⟨b, off, none⟩ 1 = some cs)
    (h : DataW.trod enc Try.prog W 0 (fun _ => true) true fuel 9 cs = some x) : ∃ y : Tx, W.cell? ⟨b, off, none⟩ = some (.string y) ∧ y.size ∈ x.1.weights Try.prog 9 := by
  obtain ⟨_, hcl, hat⟩ := World.cells?_some hc
  match cs, hcl with
  | [k0], _ =>
    have e0 := hat 0 (by omega)
    simp only [addrAdd, Nat.add_zero, List.getElem?_cons_zero] at e0
    obtain ⟨s, d3, ey3, ws⟩ := DataW.trod_string Try.underlying9 h
    simp only [List.cons.injEq, and_true] at d3
    subst d3
    refine ⟨s, e0, ?_⟩
    rw [ey3]
    simp [DataW.weights]
set_option maxRecDepth 100000 in
theorem open_txs {H : Type} {enc : TypeId × Value → H} {W : World} {base : Nat} {v : Value} {d : DataW H} {ps : List MemPlace} (hv : Value.okWide Try.prog W .any base 33 v)
    (h : DataW.Trod enc Try.prog W 0 (fun _ => true) true 33 v d ps) :
    ∃ (p : Option Addr) (n c : Nat) (xs : List Tx), v = .slice p n c ∧ xs.length = n ∧ StrRow W p xs ∧ (p = none → n = 0 ∧ c = 0) ∧ n ≤ c ∧ (n = 0 ∨ ∃ elems spare, d = .slice elems spare ∧ elems.length = n) ∧ (∀ x ∈ xs, x.size ∈ d.weights Try.prog 33) := by
  obtain ⟨a0, n0, c0, rfl⟩ := okWide_slice Try.underlying33 hv
  obtain ⟨fuel, hf⟩ := h
  rcases Go.Deep.open_slice Try.underlying33 hf with ⟨hcs, _⟩ | ⟨a, len, cap, m, n, D, Pl, hcs, _, hl, hx0, hmm, hx, hi⟩
  · simp [Value.cells] at hcs
    obtain ⟨rfl, rfl, rfl⟩ := hcs
    exact ⟨none, 0, 0, [], rfl, rfl, fun i hi => absurd hi (Nat.not_lt_zero _), fun _ => ⟨rfl, rfl⟩, Nat.le_refl _, .inl rfl, fun x hx => (by simp at hx)⟩
  · simp [Value.cells] at hcs
    obtain ⟨rfl, rfl, rfl⟩ := hcs
    simp only [if_true] at hmm
    simp only [Prod.mk.injEq] at hx
    by_cases hz : n0 = 0
    · subst hz
      exact ⟨some a, 0, c0, [], rfl, rfl, fun i hi => absurd hi (Nat.not_lt_zero _), (fun e => by cases e), hl, .inl rfl, fun x hx => (by simp at hx)⟩
    · have hspot : ∃ b off, a = ⟨b, off, none⟩ ∧ b < W.heap.size := by
        obtain ⟨cs', hc, ht'⟩ := hi 0 (by omega)
        rw [strCellsN] at hc
        obtain ⟨_, hcl, hat⟩ := World.cells?_some hc
        have e0 := hat 0 (by omega)
        rw [List.getElem?_eq_getElem (by omega)] at e0
        obtain ⟨b, off, spot⟩ := a
        have hspot : spot = none := by simpa [Addr.add] using World.cell?_spot e0
        subst hspot
        refine ⟨b, off, rfl, ?_⟩
        have := World.block_lt_of_cell? W _ e0
        simpa [addrAdd] using this
      obtain ⟨b, off, rfl, hlt⟩ := hspot
      obtain ⟨f, hfn⟩ := Go.Deep.choose_lt (n := n0) (p := fun i (y : Tx) => W.cell? ⟨b, off + i, none⟩ = some (.string y) ∧ y.size ∈ (D i).weights Try.prog 9) (fun i hi' => by
        obtain ⟨cs', hc, ht'⟩ := hi i (by omega)
        rw [strCellsN, addrAdd, Nat.mul_one] at hc
        exact open_tx_w hc ht')
      refine ⟨some ⟨b, off, none⟩, n0, c0, (List.range n0).map f, rfl, by simp, fun i hi' => ?_, (fun e => by cases e), hl, .inr ⟨_, _, hx.1, by simp⟩, fun x hx' => ?_⟩
      · simp only [List.length_map, List.length_range] at hi'
        refine ⟨b, off, rfl, hlt, ?_⟩
        simp only [List.getElem_map, List.getElem_range]
        exact (hfn i hi').1
      · obtain ⟨i, hi', rfl⟩ := List.mem_map.1 hx'
        rw [hx.1]
        exact slWeightT (List.mem_map.2 ⟨i, hi', rfl⟩) (hfn i (List.mem_range.1 hi')).2
end Go.Proofs.Ytjmnbnlhahbcjaa
