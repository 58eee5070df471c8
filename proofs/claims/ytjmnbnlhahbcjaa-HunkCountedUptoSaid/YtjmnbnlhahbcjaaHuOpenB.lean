/- Lists of hunks and of texts that came in, opened: how much they hold together. -/
import Derived.Test.YtjmnbnlhahbcjaaHuOpenH
import Derived.Test.YtjmnbnlhahbcjaaHuApP
namespace Go.Proofs.Ytjmnbnlhahbcjaa
open Go Go.RowKit Go.ChangeShapes Go.WideShapes

theorem bk_mem {H : Type} {d : DataW H} : ∀ {l : List (DataW H)}, d ∈ l → Rows.uptoBulk d ≤ Rows.uptoBulkAll l
  | x :: l, h => by
    simp only [Rows.uptoBulkAll]
    rcases List.mem_cons.1 h with rfl | h
    · omega
    · have := bk_mem h; omega
theorem bk_one {H : Type} (d : DataW H) : 1 ≤ Rows.uptoBulk d := by
  cases d with
  | lit l => cases l <;> simp [Rows.uptoBulk]
  | _ => simp [Rows.uptoBulk]
theorem bk_sum {H α : Type} {D : α → DataW H} {f : α → Nat} : ∀ {L : List α}, (∀ i ∈ L, f i ≤ Rows.uptoBulk (D i)) → (L.map f).sum ≤ Rows.uptoBulkAll (L.map D)
  | [], _ => by simp
  | x :: L, h => by
    have h1 := h x (.head _)
    have h2 := bk_sum (L := L) (fun i hi => h i (.tail _ hi))
    simp only [List.map_cons, List.sum_cons, Rows.uptoBulkAll]
    omega
theorem bk_len {H : Type} : ∀ (l : List (DataW H)), l.length ≤ Rows.uptoBulkAll l
  | [] => by simp
  | x :: l => by
    have := bk_one x
    have := bk_len l
    simp only [List.length_cons, Rows.uptoBulkAll]
    omega
set_option maxRecDepth 100000 in
theorem open_tx_b {H : Type} {enc : TypeId × Value → H} {W : World} {fuel b off : Nat} {cs : List Value} {x : DataW H × List MemPlace} (hc : W.cells? 0 ⟨b, off, none⟩ 1 = some cs)
    (h : DataW.trod enc Try.prog W 0 (fun _ => true) true fuel 9 cs = some x) : ∃ y : Tx, W.cell? ⟨b, off, none⟩ = some (.string y) ∧ y.size ≤ Rows.uptoBulk x.1 := by
  obtain ⟨_, hcl, hat⟩ := World.cells?_some hc
  match cs, hcl with
  | [k0], _ =>
    have e0 := hat 0 (by omega)
    simp only [addrAdd, Nat.add_zero, List.getElem?_cons_zero] at e0
    obtain ⟨s, d3, ey3, ws⟩ := DataW.trod_string Try.underlying9 h
    simp only [List.cons.injEq, and_true] at d3
    subst d3
    refine ⟨s, e0, ?_⟩
    rw [ey3]
    have e : s.data.toList.length = s.size := by rw [Array.length_toList]; rfl
    simp only [Rows.uptoBulk]
    omega
set_option maxRecDepth 100000 in
theorem open_txc_b {H : Type} {enc : TypeId × Value → H} {W : World} {fuel : Nat} {kx : Value} {x : DataW H × List MemPlace} (hf : DataW.trod enc Try.prog W 0 (fun _ => true) true fuel 33 [kx] = some x) :
    ∃ (p : Option Addr) (c : Nat) (xs : List Tx), kx = .slice p xs.length c ∧ TxP W p c xs ∧ xs.length ≤ Rows.uptoBulk x.1 ∧ (∀ t ∈ xs, t.size ≤ Rows.uptoBulk x.1) := by
  rcases Go.Deep.open_slice Try.underlying33 hf with ⟨hcs, _⟩ | ⟨a, len, cap, m, n, D, Pl, hcs, _, hl, hx0, hmm, hx, hi⟩
  · simp only [List.cons.injEq, and_true] at hcs
    subst hcs
    exact ⟨none, 0, [], rfl, ⟨fun _ hi => absurd hi (Nat.not_lt_zero _), fun _ => ⟨rfl, rfl⟩, Nat.le_refl _⟩, Nat.zero_le _, fun x hx => (by simp at hx)⟩
  · simp only [List.cons.injEq, and_true] at hcs
    subst hcs
    simp only [if_true] at hmm
    by_cases hz : len = 0
    · subst hz
      exact ⟨some a, cap, [], rfl, ⟨fun _ hi => absurd hi (Nat.not_lt_zero _), (fun e => by cases e), by simp⟩, Nat.zero_le _, fun x hx => (by simp at hx)⟩
    · have hspot : ∃ b off, a = ⟨b, off, none⟩ ∧ b < W.heap.size := by
        obtain ⟨cs', hc, ht'⟩ := hi 0 (by omega)
        rw [strCellsN] at hc
        obtain ⟨_, hcl, hat⟩ := World.cells?_some hc
        have e0 := hat 0 (by omega)
        rw [List.getElem?_eq_getElem (by omega)] at e0
        obtain ⟨b, off, spot⟩ := a
        have hspot : spot = none := by simpa [Addr.add] using World.cell?_spot e0
        subst hspot
        refine ⟨b, off, rfl, ?_⟩
        have := World.block_lt_of_cell? W _ e0
        simpa [addrAdd] using this
      obtain ⟨b, off, rfl, hlt⟩ := hspot
      obtain ⟨f, hfn⟩ := Go.Deep.choose_lt (n := len) (p := fun i (y : Tx) => W.cell? ⟨b, off + i, none⟩ = some (.string y) ∧ y.size ≤ Rows.uptoBulk (D i)) (fun i hi' => by
        obtain ⟨cs', hc, ht'⟩ := hi i (by omega)
        rw [strCellsN, addrAdd, Nat.mul_one] at hc
        exact open_tx_b hc ht')
      refine ⟨some ⟨b, off, none⟩, cap, (List.range len).map f, by simp, ⟨fun i hi' => ?_, (fun e => by cases e), by simpa using hl⟩, ?_, fun x hx' => ?_⟩
      · simp only [List.length_map, List.length_range] at hi'
        refine ⟨b, off, rfl, hlt, ?_⟩
        simp only [List.getElem_map, List.getElem_range]
        exact (hfn i hi').1
      · rw [hx]
        have := bk_len ((List.range len).map D)
        simp only [Rows.uptoBulk, List.length_map, List.length_range] at this ⊢
        omega
      · obtain ⟨i, hi', rfl⟩ := List.mem_map.1 hx'
        rw [hx]
        have h1 := (hfn i (List.mem_range.1 hi')).2
        have h2 := bk_mem (List.mem_map.2 ⟨i, hi', rfl⟩ : D i ∈ (List.range len).map D)
        simp only [Rows.uptoBulk]
        omega
/-- What a bulk says of a hunk. -/
def HuK (n : Nat) (y : Hu) : Prop := y.old.length + y.new.length ≤ n ∧ (∀ t ∈ y.old, t.size ≤ n) ∧ ∀ t ∈ y.new, t.size ≤ n
set_option maxRecDepth 100000 in
theorem open_hu_b {H : Type} {enc : TypeId × Value → H} {W : World} {fuel b off : Nat} {cs : List Value} {x : DataW H × List MemPlace} (hc : W.cells? 0 ⟨b, off, none⟩ 3 = some cs)
    (h : DataW.trod enc Try.prog W 0 (fun _ => true) true fuel 47 cs = some x) : ∃ y : Hu, HuAt W b off y ∧ HuK (Rows.uptoBulk x.1) y := by
  obtain ⟨_, hcl, hat⟩ := World.cells?_some hc
  match cs, hcl with
  | [k0, k1, k2], _ =>
    obtain ⟨y0, y1, y2, n', ex, _, h0, h1, h2⟩ := Go.Deep.trod_struct3 Try.underlying47 h
    have e0 := hat 0 (by omega)
    have e1 := hat 1 (by omega)
    have e2 := hat 2 (by omega)
    simp only [addrAdd, Nat.add_zero, List.getElem?_cons_zero, List.getElem?_cons_succ] at e0 e1 e2
    have q0 : DataW.trod enc Try.prog W 0 (fun _ => true) true n' 3 [k0] = some y0 := h0
    have q1 : DataW.trod enc Try.prog W 0 (fun _ => true) true n' 33 [k1] = some y1 := h1
    have q2 : DataW.trod enc Try.prog W 0 (fun _ => true) true n' 33 [k2] = some y2 := h2
    obtain ⟨u, d0, _, wu⟩ := DataW.trod_int Try.underlying3 q0
    obtain ⟨p1, c1, old, rfl, r1, s1, t1⟩ := open_txc_b q1
    obtain ⟨p2, c2, new, rfl, r2, s2, t2⟩ := open_txc_b q2
    simp only [List.cons.injEq, and_true] at d0
    subst d0
    refine ⟨⟨u, old, new⟩, ⟨e0, ⟨p1, c1, e1, r1⟩, p2, c2, e2, r2⟩, ?_⟩
    have e3 : Rows.uptoBulk x.1 = Rows.uptoBulk y0.1 + (Rows.uptoBulk y1.1 + (Rows.uptoBulk y2.1 + 0)) + 1 := by rw [ex]; simp only [Rows.uptoBulk, Rows.uptoBulkAll]
    rw [e3]
    exact ⟨by dsimp only; omega, fun t ht => by have := t1 t ht; omega, fun t ht => by have := t2 t ht; omega⟩
set_option maxRecDepth 100000 in
theorem open_hus_b {H : Type} {enc : TypeId × Value → H} {W : World} {base : Nat} {v : Value} {d : DataW H} {ps : List MemPlace} (hv : Value.okWide Try.prog W .any base 40 v)
    (h : DataW.Trod enc Try.prog W 0 (fun _ => true) true 40 v d ps) :
    ∃ (p : Option Addr) (n c : Nat) (hs : List Hu), v = .slice p n c ∧ hs.length = n ∧ HuRow W p hs ∧ n ≤ Rows.uptoBulk d ∧ goesN hs + comesN hs ≤ Rows.uptoBulk d ∧ (∀ y ∈ hs, HuK (Rows.uptoBulk d) y) := by
  obtain ⟨a0, n0, c0, rfl⟩ := okWide_slice Try.underlying40 hv
  obtain ⟨fuel, hf⟩ := h
  rcases Go.Deep.open_slice Try.underlying40 hf with ⟨hcs, _⟩ | ⟨a, len, cap, m, n, D, Pl, hcs, _, hl, _, hmm, hx, hi⟩
  · simp [Value.cells] at hcs
    obtain ⟨rfl, rfl, rfl⟩ := hcs
    exact ⟨none, 0, 0, [], rfl, rfl, fun _ hi => absurd hi (Nat.not_lt_zero _), Nat.zero_le _, Nat.zero_le _, fun x hx => (by simp at hx)⟩
  · simp [Value.cells] at hcs
    obtain ⟨rfl, rfl, rfl⟩ := hcs
    simp only [if_true] at hmm
    simp only [Prod.mk.injEq] at hx
    by_cases hz : n0 = 0
    · subst hz
      exact ⟨some a, 0, c0, [], rfl, rfl, fun _ hi => absurd hi (Nat.not_lt_zero _), Nat.zero_le _, Nat.zero_le _, fun x hx => (by simp at hx)⟩
    · have hspot : ∃ b off, a = ⟨b, off, none⟩ ∧ b < W.heap.size := by
        obtain ⟨cs', hc, ht'⟩ := hi 0 (by omega)
        rw [hkCellsN] at hc
        obtain ⟨_, hcl, hat⟩ := World.cells?_some hc
        have e0 := hat 0 (by omega)
        rw [List.getElem?_eq_getElem (by omega)] at e0
        obtain ⟨b, off, spot⟩ := a
        have hspot : spot = none := by simpa [Addr.add] using World.cell?_spot e0
        subst hspot
        refine ⟨b, off, rfl, ?_⟩
        have := World.block_lt_of_cell? W _ e0
        simpa [addrAdd] using this
      obtain ⟨b, off, rfl, hlt⟩ := hspot
      obtain ⟨f, hfn⟩ := Go.Deep.choose_lt (n := n0) (p := fun i (y : Hu) => HuAt W b (off + i * 3) y ∧ HuK (Rows.uptoBulk (D i)) y) (fun i hi' => by
        obtain ⟨cs', hc, ht'⟩ := hi i (by omega)
        rw [hkCellsN, addrAdd] at hc
        exact open_hu_b hc ht')
      have hd : Rows.uptoBulkAll ((List.range n0).map D) + 1 ≤ Rows.uptoBulk d := by
        rw [hx.1]
        simp only [Rows.uptoBulk]
        omega
      refine ⟨some ⟨b, off, none⟩, n0, c0, (List.range n0).map f, rfl, by simp, fun i hi' => ?_, ?_, ?_, fun x hx' => ?_⟩
      · simp only [List.length_map, List.length_range] at hi'
        obtain ⟨a1, a2, a3⟩ := (hfn i hi').1
        refine ⟨b, off, rfl, hlt, ?_⟩
        simp only [List.getElem_map, List.getElem_range]
        exact ⟨a1, a2, a3⟩
      · have := bk_len ((List.range n0).map D)
        simp only [List.length_map, List.length_range] at this
        omega
      · have h1 := bk_sum (L := List.range n0) (D := D) (f := fun i => (f i).old.length + (f i).new.length) (fun i hi' => (hfn i (List.mem_range.1 hi')).2.1)
        have h2 : ∀ (L : List Nat), goesN (L.map f) + comesN (L.map f) = (L.map (fun i => (f i).old.length + (f i).new.length)).sum := fun L => by
          induction L with
          | nil => rfl
          | cons x L ih =>
            simp only [goesN, comesN, List.map_cons, List.sum_cons] at ih ⊢
            omega
        rw [h2]
        omega
      · obtain ⟨i, hi', rfl⟩ := List.mem_map.1 hx'
        obtain ⟨k1, k2, k3⟩ := (hfn i (List.mem_range.1 hi')).2
        have h2 := bk_mem (List.mem_map.2 ⟨i, hi', rfl⟩ : D i ∈ (List.range n0).map D)
        exact ⟨by omega, fun t ht => by have := k2 t ht; omega, fun t ht => by have := k3 t ht; omega⟩
set_option maxRecDepth 100000 in
theorem open_txs_b {H : Type} {enc : TypeId × Value → H} {W : World} {base : Nat} {v : Value} {d : DataW H} {ps : List MemPlace} (hv : Value.okWide Try.prog W .any base 33 v)
    (h : DataW.Trod enc Try.prog W 0 (fun _ => true) true 33 v d ps) :
    ∃ (p : Option Addr) (n c : Nat) (xs : List Tx), v = .slice p n c ∧ xs.length = n ∧ TxP W p c xs ∧ n ≤ Rows.uptoBulk d := by
  obtain ⟨a0, n0, c0, rfl⟩ := okWide_slice Try.underlying33 hv
  obtain ⟨fuel, hf⟩ := h
  have hf' : DataW.trod enc Try.prog W 0 (fun _ => true) true fuel 33 [.slice a0 n0 c0] = some (d, ps) := hf
  obtain ⟨p, c, xs, e, r, s, _⟩ := open_txc_b hf'
  injection e with e1 e2 e3
  subst e1 e2 e3
  exact ⟨a0, xs.length, c0, xs, rfl, rfl, r, s⟩
theorem hub_k {hs : List Hu} {n : Nat} (hn : n ≤ 1048576) (h : ∀ y ∈ hs, HuK n y) : HuB hs := fun y hy => by
  obtain ⟨k1, k2, k3⟩ := h y hy
  exact ⟨by omega, by omega, fun t ht => by have := k2 t ht; omega, fun t ht => by have := k3 t ht; omega⟩
end Go.Proofs.Ytjmnbnlhahbcjaa
