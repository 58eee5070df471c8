/- Lists of hunks that came in, opened; how long their lists and texts may be. -/
import Derived.Test.YtjmnbnlhahbcjaaHuOpen
namespace Go.Proofs.Ytjmnbnlhahbcjaa
open Go Go.RowKit Go.ChangeShapes Go.WideShapes

theorem hkCellsN : Try.prog.cellsOf 47 = 3 := by kernel_rfl
theorem strBytesN : Try.prog.bytesOf 9 = 16 := by kernel_rfl
set_option maxRecDepth 100000 in
/-- A list of texts in a cell. -/
theorem open_txc {H : Type} {enc : TypeId × Value → H} {W : World} {fuel : Nat} {kx : Value} {x : DataW H × List MemPlace} (hf : DataW.trod enc Try.prog W 0 (fun _ => true) true fuel 33 [kx] = some x) :
    ∃ (p : Option Addr) (c : Nat) (xs : List Tx), kx = .slice p xs.length c ∧ TxP W p c xs ∧ (xs.length = 0 ∨ ∃ m, (xs.length + m) * 16 ∈ x.1.weights Try.prog 33) ∧ (∀ t ∈ xs, t.size ∈ x.1.weights Try.prog 33) := by
  rcases Go.Deep.open_slice Try.underlying33 hf with ⟨hcs, _⟩ | ⟨a, len, cap, m, n, D, Pl, hcs, _, hl, hx0, hmm, hx, hi⟩
  · simp only [List.cons.injEq, and_true] at hcs
    subst hcs
    exact ⟨none, 0, [], rfl, ⟨fun i hi => absurd hi (Nat.not_lt_zero _), fun _ => ⟨rfl, rfl⟩, Nat.le_refl _⟩, .inl rfl, fun x hx => (by simp at hx)⟩
  · simp only [List.cons.injEq, and_true] at hcs
    subst hcs
    simp only [if_true] at hmm
    by_cases hz : len = 0
    · subst hz
      exact ⟨some a, cap, [], rfl, ⟨fun i hi => absurd hi (Nat.not_lt_zero _), (fun e => by cases e), by simp⟩, .inl rfl, fun x hx => (by simp at hx)⟩
    · have hspot : ∃ b off, a = ⟨b, off, none⟩ ∧ b < W.heap.size := by
        obtain ⟨cs', hc, ht'⟩ := hi 0 (by omega)
        rw [strCellsN] at hc
        obtain ⟨_, hcl, hat⟩ := World.cells?_some hc
        have e0 := hat 0 (by omega)
        rw [List.getElem?_eq_getElem (by omega)] at e0
        obtain ⟨b, off, spot⟩ := a
        have hspot : spot = none := by simpa [Addr.add] using World.cell?_spot e0
        subst hspot
        refine ⟨b, off, rfl, ?_⟩
        have := World.block_lt_of_cell? W _ e0
        simpa [addrAdd] using this
      obtain ⟨b, off, rfl, hlt⟩ := hspot
      obtain ⟨f, hfn⟩ := Go.Deep.choose_lt (n := len) (p := fun i (y : Tx) => W.cell? ⟨b, off + i, none⟩ = some (.string y) ∧ y.size ∈ (D i).weights Try.prog 9) (fun i hi' => by
        obtain ⟨cs', hc, ht'⟩ := hi i (by omega)
        rw [strCellsN, addrAdd, Nat.mul_one] at hc
        exact open_tx_w hc ht')
      refine ⟨some ⟨b, off, none⟩, cap, (List.range len).map f, by simp, ⟨fun i hi' => ?_, (fun e => by cases e), by simpa using hl⟩, .inr ?_, fun x hx' => ?_⟩
      · simp only [List.length_map, List.length_range] at hi'
        refine ⟨b, off, rfl, hlt, ?_⟩
        simp only [List.getElem_map, List.getElem_range]
        exact (hfn i hi').1
      · rw [hx]
        simp only [DataW.weights, Try.underlying33, strBytesN, List.length_map, List.length_range]
        exact ⟨_, List.mem_cons_self ..⟩
      · obtain ⟨i, hi', rfl⟩ := List.mem_map.1 hx'
        rw [hx]
        exact slWeightT (List.mem_map.2 ⟨i, hi', rfl⟩) (hfn i (List.mem_range.1 hi')).2
theorem huWeight1 {H : Type} (d0 d1 d2 : DataW H) {n : Nat} (h : n ∈ d1.weights Try.prog 33) : n ∈ (DataW.agg [d0, d1, d2]).weights Try.prog 47 := by
  simp only [DataW.weights, Try.underlying47, List.map_cons, List.map_nil, DataW.weightsEach, List.mem_append]
  exact .inr (.inl h)
theorem huWeight2 {H : Type} (d0 d1 d2 : DataW H) {n : Nat} (h : n ∈ d2.weights Try.prog 33) : n ∈ (DataW.agg [d0, d1, d2]).weights Try.prog 47 := by
  simp only [DataW.weights, Try.underlying47, List.map_cons, List.map_nil, DataW.weightsEach, List.mem_append]
  exact .inr (.inr (.inl h))
theorem huSlWeight {H : Type} {elems spare : List (DataW H)} {d : DataW H} {n : Nat} (hd : d ∈ elems) (hn : n ∈ d.weights Try.prog 47) : n ∈ (DataW.slice elems spare).weights Try.prog 40 := by
  simp only [DataW.weights, Try.underlying40, List.mem_cons, List.mem_append]
  exact .inr (.inl (allWeightT hd hn))
instance : Inhabited Hu := ⟨⟨0, [], []⟩⟩
/-- What a reach says of a hunk. -/
def HuW (l : List Nat) (y : Hu) : Prop := (y.old.length = 0 ∨ ∃ m, (y.old.length + m) * 16 ∈ l) ∧ (y.new.length = 0 ∨ ∃ m, (y.new.length + m) * 16 ∈ l) ∧ (∀ t ∈ y.old, t.size ∈ l) ∧ ∀ t ∈ y.new, t.size ∈ l
theorem HuW.mono {l l' : List Nat} {y : Hu} (h : HuW l y) (hl : ∀ n ∈ l, n ∈ l') : HuW l' y :=
  ⟨h.1.imp id fun ⟨m, hm⟩ => ⟨m, hl _ hm⟩, h.2.1.imp id fun ⟨m, hm⟩ => ⟨m, hl _ hm⟩, fun t ht => hl _ (h.2.2.1 t ht), fun t ht => hl _ (h.2.2.2 t ht)⟩
theorem HuW.le {l : List Nat} {y : Hu} (h : HuW l y) (hl : ∀ n ∈ l, n ≤ reachBytes) : y.old.length ≤ 8796093021952 ∧ y.new.length ≤ 8796093021952 ∧ (∀ t ∈ y.old, t.size ≤ 140737488355328) ∧ ∀ t ∈ y.new, t.size ≤ 140737488355328 := by
  simp only [reachBytes] at hl
  refine ⟨?_, ?_, fun t ht => by have := hl _ (h.2.2.1 t ht); omega, fun t ht => by have := hl _ (h.2.2.2 t ht); omega⟩
  · rcases h.1 with e | ⟨m, hm⟩
    · omega
    · have := hl _ hm; omega
  · rcases h.2.1 with e | ⟨m, hm⟩
    · omega
    · have := hl _ hm; omega
/-- A hunk in three cells. -/
def HuAt (W : World) (b off : Nat) (y : Hu) : Prop := W.cell? ⟨b, off, none⟩ = some (.int .i64 y.pos) ∧ (∃ p1 c1, W.cell? ⟨b, off + 1, none⟩ = some (.slice p1 y.old.length c1) ∧ TxP W p1 c1 y.old) ∧ ∃ p2 c2, W.cell? ⟨b, off + 2, none⟩ = some (.slice p2 y.new.length c2) ∧ TxP W p2 c2 y.new
def i64ok (k : Int) : Prop := (Lit.int .i64 k).wf = true
set_option maxRecDepth 100000 in
theorem open_hu {H : Type} {enc : TypeId × Value → H} {W : World} {fuel b off : Nat} {cs : List Value} {x : DataW H × List MemPlace} (hc : W.cells? 0 ⟨b, off, none⟩ 3 = some cs)
    (h : DataW.trod enc Try.prog W 0 (fun _ => true) true fuel 47 cs = some x) : ∃ y : Hu, HuAt W b off y ∧ HuW (x.1.weights Try.prog 47) y ∧ i64ok y.pos := by
  obtain ⟨_, hcl, hat⟩ := World.cells?_some hc
  match cs, hcl with
  | [k0, k1, k2], _ =>
    obtain ⟨y0, y1, y2, n', ex, _, h0, h1, h2⟩ := Go.Deep.trod_struct3 Try.underlying47 h
    have e0 := hat 0 (by omega)
    have e1 := hat 1 (by omega)
    have e2 := hat 2 (by omega)
    simp only [addrAdd, Nat.add_zero, List.getElem?_cons_zero, List.getElem?_cons_succ] at e0 e1 e2
    have q0 : DataW.trod enc Try.prog W 0 (fun _ => true) true n' 3 [k0] = some y0 := h0
    have q1 : DataW.trod enc Try.prog W 0 (fun _ => true) true n' 33 [k1] = some y1 := h1
    have q2 : DataW.trod enc Try.prog W 0 (fun _ => true) true n' 33 [k2] = some y2 := h2
    obtain ⟨u, d0, _, wu⟩ := DataW.trod_int Try.underlying3 q0
    obtain ⟨p1, c1, old, rfl, r1, s1, t1⟩ := open_txc q1
    obtain ⟨p2, c2, new, rfl, r2, s2, t2⟩ := open_txc q2
    simp only [List.cons.injEq, and_true] at d0
    subst d0
    refine ⟨⟨u, old, new⟩, ⟨e0, ⟨p1, c1, e1, r1⟩, p2, c2, e2, r2⟩, ?_, wu⟩
    rw [ex]
    exact ⟨s1.imp id fun ⟨m, hm⟩ => ⟨m, huWeight1 _ _ _ hm⟩, s2.imp id fun ⟨m, hm⟩ => ⟨m, huWeight2 _ _ _ hm⟩, fun t ht => huWeight1 _ _ _ (t1 t ht), fun t ht => huWeight2 _ _ _ (t2 t ht)⟩
set_option maxRecDepth 100000 in
theorem open_hus {H : Type} {enc : TypeId × Value → H} {W : World} {base : Nat} {v : Value} {d : DataW H} {ps : List MemPlace} (hv : Value.okWide Try.prog W .any base 40 v)
    (h : DataW.Trod enc Try.prog W 0 (fun _ => true) true 40 v d ps) :
    ∃ (p : Option Addr) (n c : Nat) (hs : List Hu), v = .slice p n c ∧ hs.length = n ∧ HuRow W p hs ∧ (n = 0 ∨ ∃ elems spare, d = .slice elems spare ∧ elems.length = n) ∧ (∀ y ∈ hs, HuW (d.weights Try.prog 40) y) ∧ (∀ y ∈ hs, i64ok y.pos) := by
  obtain ⟨a0, n0, c0, rfl⟩ := okWide_slice Try.underlying40 hv
  obtain ⟨fuel, hf⟩ := h
  rcases Go.Deep.open_slice Try.underlying40 hf with ⟨hcs, _⟩ | ⟨a, len, cap, m, n, D, Pl, hcs, _, hl, _, hmm, hx, hi⟩
  · simp [Value.cells] at hcs
    obtain ⟨rfl, rfl, rfl⟩ := hcs
    exact ⟨none, 0, 0, [], rfl, rfl, fun i hi => absurd hi (Nat.not_lt_zero _), .inl rfl, fun x hx => (by simp at hx), fun x hx => (by simp at hx)⟩
  · simp [Value.cells] at hcs
    obtain ⟨rfl, rfl, rfl⟩ := hcs
    simp only [if_true] at hmm
    simp only [Prod.mk.injEq] at hx
    by_cases hz : n0 = 0
    · subst hz
      exact ⟨some a, 0, c0, [], rfl, rfl, fun i hi => absurd hi (Nat.not_lt_zero _), .inl rfl, fun x hx => (by simp at hx), fun x hx => (by simp at hx)⟩
    · have hspot : ∃ b off, a = ⟨b, off, none⟩ ∧ b < W.heap.size := by
        obtain ⟨cs', hc, ht'⟩ := hi 0 (by omega)
        rw [hkCellsN] at hc
        obtain ⟨_, hcl, hat⟩ := World.cells?_some hc
        have e0 := hat 0 (by omega)
        rw [List.getElem?_eq_getElem (by omega)] at e0
        obtain ⟨b, off, spot⟩ := a
        have hspot : spot = none := by simpa [Addr.add] using World.cell?_spot e0
        subst hspot
        refine ⟨b, off, rfl, ?_⟩
        have := World.block_lt_of_cell? W _ e0
        simpa [addrAdd] using this
      obtain ⟨b, off, rfl, hlt⟩ := hspot
      obtain ⟨f, hfn⟩ := Go.Deep.choose_lt (n := n0) (p := fun i (y : Hu) => HuAt W b (off + i * 3) y ∧ HuW ((D i).weights Try.prog 47) y ∧ i64ok y.pos) (fun i hi' => by
        obtain ⟨cs', hc, ht'⟩ := hi i (by omega)
        rw [hkCellsN, addrAdd] at hc
        exact open_hu hc ht')
      refine ⟨some ⟨b, off, none⟩, n0, c0, (List.range n0).map f, rfl, by simp, fun i hi' => ?_, .inr ⟨_, _, hx.1, by simp⟩, fun x hx' => ?_, fun x hx' => ?_⟩
      · simp only [List.length_map, List.length_range] at hi'
        obtain ⟨a1, a2, a3⟩ := (hfn i hi').1
        refine ⟨b, off, rfl, hlt, ?_⟩
        simp only [List.getElem_map, List.getElem_range]
        exact ⟨a1, a2, a3⟩
      · obtain ⟨i, hi', rfl⟩ := List.mem_map.1 hx'
        rw [hx.1]
        exact (hfn i (List.mem_range.1 hi')).2.1.mono fun n hn => huSlWeight (List.mem_map.2 ⟨i, hi', rfl⟩) hn
      · obtain ⟨i, hi', rfl⟩ := List.mem_map.1 hx'
        exact (hfn i (List.mem_range.1 hi')).2.2
end Go.Proofs.Ytjmnbnlhahbcjaa
