/- Lists of lines that came in, opened; how long the texts may be. -/
import Derived.Test.YtdpikdkhemhmdaaIdOpen
import Derived.SizedLaws
namespace Go.Proofs.Ytdpikdkhemhmdaa
open Go Go.ChangeShapes Go.WideShapes Go.RowKit Go.Joins

theorem liWeight {H : Type} (d0 d1 d2 d3 : DataW H) {n : Nat} (h : n ∈ d3.weights Try.prog 9) : n ∈ (DataW.agg [d0, d1, d2, d3]).weights Try.prog 26 := by
  simp only [DataW.weights, Try.underlying26, List.map_cons, List.map_nil, DataW.weightsEach, List.mem_append]
  exact .inr (.inr (.inr (.inl h)))
theorem allWeight {H : Type} {e : TypeId} {n : Nat} : ∀ {ds : List (DataW H)} {d : DataW H}, d ∈ ds → n ∈ d.weights Try.prog e → n ∈ DataW.weightsAll Try.prog e ds
  | x :: ds, d, hd, hn => by
    simp only [DataW.weightsAll, List.mem_append]
    rcases List.mem_cons.1 hd with rfl | hd
    · exact .inl hn
    · exact .inr (allWeight hd hn)
theorem slWeight {H : Type} {elems spare : List (DataW H)} {d : DataW H} {n : Nat} (hd : d ∈ elems) (hn : n ∈ d.weights Try.prog 26) : n ∈ (DataW.slice elems spare).weights Try.prog 22 := by
  simp only [DataW.weights, Try.underlying22, List.mem_cons, List.mem_append]
  exact .inr (.inl (allWeight hd hn))
theorem sized_in {H : Type} {P : Program} {ts : List TypeId} {ds : List (DataW H)} (h : (DataW.weightsEach P ts ds).all (· ≤ reachBytes) = true) {j : Nat} {t : TypeId} {d : DataW H} {n : Nat} (ht : ts[j]? = some t) (hd : ds[j]? = some d) (hn : n ∈ d.weights P t) : n ≤ reachBytes := by
  have := List.all_eq_true.1 h _ (DataW.weights_mem_each ht hd n hn)
  simpa using this
set_option maxRecDepth 100000 in
/-- One line's cells. -/
theorem open_li_w {H : Type} {enc : TypeId × Value → H} {W : World} {fuel b off : Nat} {cs : List Value} {x : DataW H × List MemPlace} (hc : W.cells? 0 ⟨b, off, none⟩ 4 = some cs)
    (h : DataW.trod enc Try.prog W 0 (fun _ => true) true fuel 26 cs = some x) : ∃ y : Li, LiAt W b off y ∧ LiOk y ∧ y.s.size ∈ x.1.weights Try.prog 26 := by
  obtain ⟨_, hcl, hat⟩ := World.cells?_some hc
  match cs, hcl with
  | [k0, k1, k2, k3], _ =>
    obtain ⟨y0, y1, y2, y3, n', ex, _, h0, h1, h2, h3⟩ := trod_struct4 Try.underlying26 h
    have e0 := hat 0 (by omega)
    have e1 := hat 1 (by omega)
    have e2 := hat 2 (by omega)
    have e3 := hat 3 (by omega)
    simp only [addrAdd, Nat.add_zero, List.getElem?_cons_zero, List.getElem?_cons_succ] at e0 e1 e2 e3
    have q0 : DataW.trod enc Try.prog W 0 (fun _ => true) true n' 24 [k0] = some y0 := h0
    have q1 : DataW.trod enc Try.prog W 0 (fun _ => true) true n' 3 [k1] = some y1 := h1
    have q2 : DataW.trod enc Try.prog W 0 (fun _ => true) true n' 3 [k2] = some y2 := h2
    have q3 : DataW.trod enc Try.prog W 0 (fun _ => true) true n' 9 [k3] = some y3 := h3
    obtain ⟨u, d0, _, wu⟩ := DataW.trod_int Try.underlying24 q0
    obtain ⟨n, d1, _, wn⟩ := DataW.trod_int Try.underlying3 q1
    obtain ⟨r, d2, _, wr⟩ := DataW.trod_int Try.underlying3 q2
    obtain ⟨s, d3, ey3, ws⟩ := DataW.trod_string Try.underlying9 q3
    simp only [List.cons.injEq, and_true] at d0 d1 d2 d3
    subst d0 d1 d2 d3
    obtain ⟨m, rfl, hm⟩ := lab_nat wu
    refine ⟨⟨m, n, r, s⟩, ⟨e0, e1, e2, e3⟩, ⟨hm, wn, wr, ws⟩, ?_⟩
    rw [ex]
    refine liWeight _ _ _ _ ?_
    rw [ey3]
    simp [DataW.weights]
set_option maxRecDepth 100000 in
theorem open_lis_w {H : Type} {enc : TypeId × Value → H} {W : World} {base : Nat} {v : Value} {d : DataW H} {ps : List MemPlace} (hv : Value.okWide Try.prog W .any base 22 v)
    (h : DataW.Trod enc Try.prog W 0 (fun _ => true) true 22 v d ps) :
    ∃ (p : Option Addr) (n c : Nat) (xs : List Li), v = .slice p n c ∧ xs.length = n ∧ LiRow W p xs ∧ (p = none → n = 0 ∧ c = 0) ∧ (∀ x ∈ xs, LiOk x) ∧ (n = 0 ∨ ∃ elems spare, d = .slice elems spare ∧ elems.length = n) ∧ (∀ x ∈ xs, x.s.size ∈ d.weights Try.prog 22) := by
  obtain ⟨a0, n0, c0, rfl⟩ := okWide_slice Try.underlying22 hv
  obtain ⟨fuel, hf⟩ := h
  rcases Go.Deep.open_slice Try.underlying22 hf with ⟨hcs, _⟩ | ⟨a, len, cap, m, n, D, Pl, hcs, _, hl, _, hmm, hx, hi⟩
  · simp [Value.cells] at hcs
    obtain ⟨rfl, rfl, rfl⟩ := hcs
    exact ⟨none, 0, 0, [], rfl, rfl, fun i hi => absurd hi (Nat.not_lt_zero _), fun _ => ⟨rfl, rfl⟩, fun x hx => (by simp at hx), .inl rfl, fun x hx => (by simp at hx)⟩
  · simp [Value.cells] at hcs
    obtain ⟨rfl, rfl, rfl⟩ := hcs
    simp only [if_true] at hmm
    simp only [Prod.mk.injEq] at hx
    by_cases hz : n0 = 0
    · subst hz
      exact ⟨some a, 0, c0, [], rfl, rfl, fun i hi => absurd hi (Nat.not_lt_zero _), (fun e => by cases e), fun x hx => (by simp at hx), .inl rfl, fun x hx => (by simp at hx)⟩
    · have hspot : ∃ b off, a = ⟨b, off, none⟩ ∧ b < W.heap.size := by
        obtain ⟨cs', hc, ht'⟩ := hi 0 (by omega)
        rw [liCellsN] at hc
        obtain ⟨_, hcl, hat⟩ := World.cells?_some hc
        have e0 := hat 0 (by omega)
        rw [List.getElem?_eq_getElem (by omega)] at e0
        obtain ⟨b, off, spot⟩ := a
        have hspot : spot = none := by simpa [Addr.add] using World.cell?_spot e0
        subst hspot
        refine ⟨b, off, rfl, ?_⟩
        have := World.block_lt_of_cell? W _ e0
        simpa [addrAdd] using this
      obtain ⟨b, off, rfl, hlt⟩ := hspot
      obtain ⟨f, hfn⟩ := Go.Deep.choose_lt (n := n0) (p := fun i (y : Li) => LiAt W b (off + i * 4) y ∧ LiOk y ∧ y.s.size ∈ (D i).weights Try.prog 26) (fun i hi' => by
        obtain ⟨cs', hc, ht'⟩ := hi i (by omega)
        rw [liCellsN, addrAdd] at hc
        exact open_li_w hc ht')
      refine ⟨some ⟨b, off, none⟩, n0, c0, (List.range n0).map f, rfl, by simp, fun i hi' => ?_, (fun e => by cases e), fun x hx' => ?_, .inr ⟨_, _, hx.1, by simp⟩, fun x hx' => ?_⟩
      · simp only [List.length_map, List.length_range] at hi'
        refine ⟨b, off, rfl, hlt, ?_⟩
        simp only [List.getElem_map, List.getElem_range]
        exact (hfn i hi').1
      · obtain ⟨i, hi', rfl⟩ := List.mem_map.1 hx'
        exact (hfn i (List.mem_range.1 hi')).2.1
      · obtain ⟨i, hi', rfl⟩ := List.mem_map.1 hx'
        rw [hx.1]
        exact slWeight (List.mem_map.2 ⟨i, hi', rfl⟩) (hfn i (List.mem_range.1 hi')).2.2
end Go.Proofs.Ytdpikdkhemhmdaa
