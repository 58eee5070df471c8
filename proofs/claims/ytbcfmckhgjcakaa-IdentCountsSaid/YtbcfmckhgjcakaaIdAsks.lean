/- A list of asks that came in, opened. -/
import Derived.Test.YtbcfmckhgjcakaaIdOpen
namespace Go.Proofs.Ytbcfmckhgjcakaa
open Go Go.ChangeShapes Go.WideShapes Go.RowKit Go.Joins

theorem askCells : Try.prog.cellsOf 37 = 2 := by kernel_rfl
def AskAt (W : World) (b o : Nat) (y : Int × Nat) : Prop := W.cell? ⟨b, o, none⟩ = some (.int .i64 y.1) ∧ W.cell? ⟨b, o + 1, none⟩ = some (.int .u64 (y.2 : Int))
theorem open_ask {H : Type} {enc : TypeId × Value → H} {W : World} {fuel b off : Nat} {cs : List Value} {x : DataW H × List MemPlace} (hc : W.cells? 0 ⟨b, off, none⟩ 2 = some cs)
    (h : DataW.trod enc Try.prog W 0 (fun _ => true) true fuel 37 cs = some x) : ∃ y : Int × Nat, AskAt W b off y ∧ y.2 < 18446744073709551616 := by
  obtain ⟨_, hcl, hat⟩ := World.cells?_some hc
  match cs, hcl with
  | [k0, k1], _ =>
    obtain ⟨y0, y1, n', _, _, h0, h1⟩ := trod_struct2 Try.underlying37 h
    have e0 := hat 0 (by omega)
    have e1 := hat 1 (by omega)
    simp only [addrAdd, Nat.add_zero, List.getElem?_cons_zero, List.getElem?_cons_succ] at e0 e1
    have q0 : DataW.trod enc Try.prog W 0 (fun _ => true) true n' 3 [k0] = some y0 := h0
    have q1 : DataW.trod enc Try.prog W 0 (fun _ => true) true n' 24 [k1] = some y1 := h1
    obtain ⟨n, d0, _, wn⟩ := DataW.trod_int Try.underlying3 q0
    obtain ⟨u, d1, _, wu⟩ := DataW.trod_int Try.underlying24 q1
    simp only [List.cons.injEq, and_true] at d0 d1
    subst d0 d1
    obtain ⟨m, rfl, hm⟩ := lab_nat wu
    exact ⟨(n, m), ⟨e0, e1⟩, hm⟩
theorem open_asks {H : Type} {enc : TypeId × Value → H} {W : World} {base : Nat} {v : Value} {d : DataW H} {ps : List MemPlace} (hv : Value.okWide Try.prog W .any base 23 v)
    (h : DataW.Trod enc Try.prog W 0 (fun _ => true) true 23 v d ps) :
    ∃ (p : Option Addr) (n c : Nat) (ks : List (Int × Nat)), v = .slice p n c ∧ ks.length = n ∧ AskRow W p ks ∧ (∀ k ∈ ks, k.2 < 18446744073709551616) ∧ (n = 0 ∨ ∃ elems spare, d = .slice elems spare ∧ elems.length = n) := by
  obtain ⟨a0, n0, c0, rfl⟩ := okWide_slice Try.underlying23 hv
  obtain ⟨fuel, hf⟩ := h
  rcases Go.Deep.open_slice Try.underlying23 hf with ⟨hcs, _⟩ | ⟨a, len, cap, m, n, D, Pl, hcs, _, hl, _, hmm, hx, hi⟩
  · simp [Value.cells] at hcs
    obtain ⟨rfl, rfl, rfl⟩ := hcs
    exact ⟨none, 0, 0, [], rfl, rfl, fun i hi => absurd hi (Nat.not_lt_zero _), fun x hx => (by simp at hx), .inl rfl⟩
  · simp [Value.cells] at hcs
    obtain ⟨rfl, rfl, rfl⟩ := hcs
    simp only [if_true] at hmm
    simp only [Prod.mk.injEq] at hx
    by_cases hz : n0 = 0
    · subst hz
      exact ⟨some a, 0, c0, [], rfl, rfl, fun i hi => absurd hi (Nat.not_lt_zero _), fun x hx => (by simp at hx), .inl rfl⟩
    · have hspot : ∃ b off, a = ⟨b, off, none⟩ ∧ b < W.heap.size := by
        obtain ⟨cs', hc, ht'⟩ := hi 0 (by omega)
        rw [askCells] at hc
        obtain ⟨_, hcl, hat⟩ := World.cells?_some hc
        have e0 := hat 0 (by omega)
        rw [List.getElem?_eq_getElem (by omega)] at e0
        obtain ⟨b, off, spot⟩ := a
        have hspot : spot = none := by simpa [Addr.add] using World.cell?_spot e0
        subst hspot
        refine ⟨b, off, rfl, ?_⟩
        have := World.block_lt_of_cell? W _ e0
        simpa [addrAdd] using this
      obtain ⟨b, off, rfl, hlt⟩ := hspot
      obtain ⟨f, hfn⟩ := Go.Deep.choose_lt (n := n0) (p := fun i (y : Int × Nat) => AskAt W b (off + i * 2) y ∧ y.2 < 18446744073709551616) (fun i hi' => by
        obtain ⟨cs', hc, ht'⟩ := hi i (by omega)
        rw [askCells, addrAdd] at hc
        exact open_ask hc ht')
      refine ⟨some ⟨b, off, none⟩, n0, c0, (List.range n0).map f, rfl, by simp, fun i hi' => ?_, fun x hx' => ?_, .inr ⟨_, _, hx.1, by simp⟩⟩
      · simp only [List.length_map, List.length_range] at hi'
        refine ⟨b, off, rfl, hlt, ?_⟩
        simp only [List.getElem_map, List.getElem_range]
        exact (hfn i hi').1
      · obtain ⟨i, hi', rfl⟩ := List.mem_map.1 hx'
        exact (hfn i (List.mem_range.1 hi')).2
end Go.Proofs.Ytbcfmckhgjcakaa
