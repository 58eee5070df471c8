/- Lists of lines and of asks that came in, opened. -/
import Derived.Test.YtdpikdkhemhmdaaIdCopyL
import Derived.Lib.SmallJoins
namespace Go.Proofs.Ytdpikdkhemhmdaa
open Go Go.ChangeShapes Go.WideShapes Go.RowKit Go.Joins

theorem liCellsN : Try.prog.cellsOf 26 = 4 := by kernel_rfl
theorem lab_nat {n : Int} (h : (Lit.int .u64 n).wf = true) : ∃ a : Nat, n = (a : Int) ∧ a < 18446744073709551616 := by
  simp [Lit.wf, IntKind.min, IntKind.max, IntKind.signed, IntKind.bits] at h
  exact ⟨n.toNat, by omega, by omega⟩
set_option maxRecDepth 100000 in
/-- One line's cells. -/
theorem open_li {H : Type} {enc : TypeId × Value → H} {W : World} {fuel b off : Nat} {cs : List Value} {x : DataW H × List MemPlace} (hc : W.cells? 0 ⟨b, off, none⟩ 4 = some cs)
    (h : DataW.trod enc Try.prog W 0 (fun _ => true) true fuel 26 cs = some x) : ∃ y : Li, LiAt W b off y ∧ LiOk y := by
  obtain ⟨_, hcl, hat⟩ := World.cells?_some hc
  match cs, hcl with
  | [k0, k1, k2, k3], _ =>
    obtain ⟨y0, y1, y2, y3, n', _, _, h0, h1, h2, h3⟩ := trod_struct4 Try.underlying26 h
    have e0 := hat 0 (by omega)
    have e1 := hat 1 (by omega)
    have e2 := hat 2 (by omega)
    have e3 := hat 3 (by omega)
    simp only [addrAdd, Nat.add_zero, List.getElem?_cons_zero, List.getElem?_cons_succ] at e0 e1 e2 e3
    have q0 : DataW.trod enc Try.prog W 0 (fun _ => true) true n' 24 [k0] = some y0 := h0
    have q1 : DataW.trod enc Try.prog W 0 (fun _ => true) true n' 3 [k1] = some y1 := h1
    have q2 : DataW.trod enc Try.prog W 0 (fun _ => true) true n' 3 [k2] = some y2 := h2
    have q3 : DataW.trod enc Try.prog W 0 (fun _ => true) true n' 9 [k3] = some y3 := h3
    obtain ⟨u, d0, _, wu⟩ := DataW.trod_int Try.underlying24 q0
    obtain ⟨n, d1, _, wn⟩ := DataW.trod_int Try.underlying3 q1
    obtain ⟨r, d2, _, wr⟩ := DataW.trod_int Try.underlying3 q2
    obtain ⟨s, d3, _, ws⟩ := DataW.trod_string Try.underlying9 q3
    simp only [List.cons.injEq, and_true] at d0 d1 d2 d3
    subst d0 d1 d2 d3
    obtain ⟨m, rfl, hm⟩ := lab_nat wu
    exact ⟨⟨m, n, r, s⟩, ⟨e0, e1, e2, e3⟩, ⟨hm, wn, wr, ws⟩⟩
set_option maxRecDepth 100000 in
theorem open_lis {H : Type} {enc : TypeId × Value → H} {W : World} {base : Nat} {v : Value} {d : DataW H} {ps : List MemPlace} (hv : Value.okWide Try.prog W .any base 22 v)
    (h : DataW.Trod enc Try.prog W 0 (fun _ => true) true 22 v d ps) :
    ∃ (p : Option Addr) (n c : Nat) (xs : List Li), v = .slice p n c ∧ xs.length = n ∧ LiRow W p xs ∧ (p = none → n = 0 ∧ c = 0) ∧ (∀ x ∈ xs, LiOk x) ∧ (n = 0 ∨ ∃ elems spare, d = .slice elems spare ∧ elems.length = n) := by
  obtain ⟨a0, n0, c0, rfl⟩ := okWide_slice Try.underlying22 hv
  obtain ⟨fuel, hf⟩ := h
  rcases Go.Deep.open_slice Try.underlying22 hf with ⟨hcs, _⟩ | ⟨a, len, cap, m, n, D, Pl, hcs, _, hl, _, hmm, hx, hi⟩
  · simp [Value.cells] at hcs
    obtain ⟨rfl, rfl, rfl⟩ := hcs
    exact ⟨none, 0, 0, [], rfl, rfl, fun i hi => absurd hi (Nat.not_lt_zero _), fun _ => ⟨rfl, rfl⟩, fun x hx => (by simp at hx), .inl rfl⟩
  · simp [Value.cells] at hcs
    obtain ⟨rfl, rfl, rfl⟩ := hcs
    simp only [if_true] at hmm
    simp only [Prod.mk.injEq] at hx
    by_cases hz : n0 = 0
    · subst hz
      exact ⟨some a, 0, c0, [], rfl, rfl, fun i hi => absurd hi (Nat.not_lt_zero _), (fun e => by cases e), fun x hx => (by simp at hx), .inl rfl⟩
    · have hspot : ∃ b off, a = ⟨b, off, none⟩ ∧ b < W.heap.size := by
        obtain ⟨cs', hc, ht'⟩ := hi 0 (by omega)
        rw [liCellsN] at hc
        obtain ⟨_, hcl, hat⟩ := World.cells?_some hc
        have e0 := hat 0 (by omega)
        rw [List.getElem?_eq_getElem (by omega)] at e0
        obtain ⟨b, off, spot⟩ := a
        have hspot : spot = none := by simpa [Addr.add] using World.cell?_spot e0
        subst hspot
        refine ⟨b, off, rfl, ?_⟩
        have := World.block_lt_of_cell? W _ e0
        simpa [addrAdd] using this
      obtain ⟨b, off, rfl, hlt⟩ := hspot
      obtain ⟨f, hfn⟩ := Go.Deep.choose_lt (n := n0) (p := fun i (y : Li) => LiAt W b (off + i * 4) y ∧ LiOk y) (fun i hi' => by
        obtain ⟨cs', hc, ht'⟩ := hi i (by omega)
        rw [liCellsN, addrAdd] at hc
        exact open_li hc ht')
      refine ⟨some ⟨b, off, none⟩, n0, c0, (List.range n0).map f, rfl, by simp, fun i hi' => ?_, (fun e => by cases e), fun x hx' => ?_, .inr ⟨_, _, hx.1, by simp⟩⟩
      · simp only [List.length_map, List.length_range] at hi'
        refine ⟨b, off, rfl, hlt, ?_⟩
        simp only [List.getElem_map, List.getElem_range]
        exact (hfn i hi').1
      · obtain ⟨i, hi', rfl⟩ := List.mem_map.1 hx'
        exact (hfn i (List.mem_range.1 hi')).2
end Go.Proofs.Ytdpikdkhemhmdaa
