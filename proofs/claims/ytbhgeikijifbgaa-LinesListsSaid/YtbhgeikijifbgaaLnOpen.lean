/- A list of lines that came in, opened. -/
import Derived.Test.YtbhgeikijifbgaaTxRow
import Derived.Lib.SmallJoins
namespace Go.Proofs.Ytbhgeikijifbgaa
open Go Go.ChangeShapes Go.WideShapes Go.RowKit Go.Joins

instance : Inhabited Ln := ⟨⟨0, 0, 0, ByteArray.empty⟩⟩
theorem lnCells : Try.prog.cellsOf 25 = 4 := by kernel_rfl

theorem bulk_pos {H : Type} (d : DataW H) : 1 ≤ Rows.uptoBulk d := by
  cases d with
  | lit l => cases l <;> simp [Rows.uptoBulk]
  | _ => simp [Rows.uptoBulk]
theorem bulk_len {H : Type} : ∀ ds : List (DataW H), ds.length ≤ Rows.uptoBulkAll ds
  | [] => Nat.zero_le _
  | d :: ds => by
    have h1 := bulk_pos d
    have h2 := bulk_len ds
    rw [List.length_cons, Rows.uptoBulkAll]; omega

/-- One line's cells. -/
theorem open_line {H : Type} {enc : TypeId × Value → H} {W : World} {fuel b off : Nat} {cs : List Value} {x : DataW H × List MemPlace} (hc : W.cells? 0 ⟨b, off, none⟩ 4 = some cs)
    (h : DataW.trod enc Try.prog W 0 (fun _ => true) true fuel 25 cs = some x) : ∃ y : Ln, LnAt W b off y := by
  obtain ⟨_, hcl, hat⟩ := World.cells?_some hc
  match cs, hcl with
  | [k0, k1, k2, k3], _ =>
    obtain ⟨y0, y1, y2, y3, n', _, _, h0, h1, h2, h3⟩ := trod_struct4 Try.underlying25 h
    have e0 := hat 0 (by omega)
    have e1 := hat 1 (by omega)
    have e2 := hat 2 (by omega)
    have e3 := hat 3 (by omega)
    simp only [addr_add, Nat.add_zero, List.getElem?_cons_zero, List.getElem?_cons_succ] at e0 e1 e2 e3
    have q0 : DataW.trod enc Try.prog W 0 (fun _ => true) true n' 23 [k0] = some y0 := h0
    have q1 : DataW.trod enc Try.prog W 0 (fun _ => true) true n' 3 [k1] = some y1 := h1
    have q2 : DataW.trod enc Try.prog W 0 (fun _ => true) true n' 3 [k2] = some y2 := h2
    have q3 : DataW.trod enc Try.prog W 0 (fun _ => true) true n' 9 [k3] = some y3 := h3
    obtain ⟨u, d0, _, _⟩ := DataW.trod_int Try.underlying23 q0
    obtain ⟨n, d1, _, _⟩ := DataW.trod_int Try.underlying3 q1
    obtain ⟨r, d2, _, _⟩ := DataW.trod_int Try.underlying3 q2
    obtain ⟨s, d3, _, _⟩ := DataW.trod_string Try.underlying9 q3
    simp only [List.cons.injEq, and_true] at d0 d1 d2 d3
    subst d0 d1 d2 d3
    exact ⟨⟨u, n, r, s⟩, e0, e1, e2, e3⟩

theorem open_lines {H : Type} {enc : TypeId × Value → H} {W : World} {base : Nat} {v : Value} {d : DataW H} {ps : List MemPlace} (hv : Value.okWide Try.prog W .any base 30 v)
    (h : DataW.Trod enc Try.prog W 0 (fun _ => true) true 30 v d ps) :
    ∃ (p : Option Addr) (n c : Nat) (xs : List Ln), v = .slice p n c ∧ xs.length = n ∧ LnRow W p xs ∧ (p = none → n = 0 ∧ c = 0) ∧ n ≤ Rows.uptoBulk d ∧ (n = 0 ∨ ∃ elems spare, d = .slice elems spare ∧ elems.length = n) := by
  obtain ⟨a0, n0, c0, rfl⟩ := okWide_slice Try.underlying30 hv
  obtain ⟨fuel, hf⟩ := h
  rcases Go.Deep.open_slice Try.underlying30 hf with ⟨hcs, _⟩ | ⟨a, len, cap, m, n, D, Pl, hcs, _, hl, _, hmm, hx, hi⟩
  · simp [Value.cells] at hcs
    obtain ⟨rfl, rfl, rfl⟩ := hcs
    exact ⟨none, 0, 0, [], rfl, rfl, fun i hi => absurd hi (Nat.not_lt_zero _), fun _ => ⟨rfl, rfl⟩, Nat.zero_le _, .inl rfl⟩
  · simp [Value.cells] at hcs
    obtain ⟨rfl, rfl, rfl⟩ := hcs
    simp only [if_true] at hmm
    simp only [Prod.mk.injEq] at hx
    have hbk : n0 ≤ Rows.uptoBulk d := by
      rw [hx.1, Rows.uptoBulk]
      have h1 := bulk_len ((List.range n0).map D)
      rw [List.length_map, List.length_range] at h1
      omega
    by_cases hz : n0 = 0
    · subst hz
      exact ⟨some a, 0, c0, [], rfl, rfl, fun i hi => absurd hi (Nat.not_lt_zero _), (fun e => by cases e), Nat.zero_le _, .inl rfl⟩
    · have hspot : ∃ b off, a = ⟨b, off, none⟩ ∧ b < W.heap.size := by
        obtain ⟨cs', hc, ht'⟩ := hi 0 (by omega)
        rw [lnCells] at hc
        obtain ⟨_, hcl, hat⟩ := World.cells?_some hc
        have e0 := hat 0 (by omega)
        rw [List.getElem?_eq_getElem (by omega)] at e0
        obtain ⟨b, off, spot⟩ := a
        have hspot : spot = none := by simpa [Addr.add] using World.cell?_spot e0
        subst hspot
        refine ⟨b, off, rfl, ?_⟩
        have := World.block_lt_of_cell? W _ e0
        simpa [addr_add] using this
      obtain ⟨b, off, rfl, hlt⟩ := hspot
      obtain ⟨f, hfn⟩ := Go.Deep.choose_lt (n := n0) (p := fun i (y : Ln) => LnAt W b (off + i * 4) y) (fun i hi' => by
        obtain ⟨cs', hc, ht'⟩ := hi i (by omega)
        rw [lnCells, addr_add] at hc
        exact open_line hc ht')
      refine ⟨some ⟨b, off, none⟩, n0, c0, (List.range n0).map f, rfl, by simp, fun i hi' => ?_, (fun e => by cases e), hbk, .inr ⟨_, _, hx.1, by simp⟩⟩
      simp only [List.length_map, List.length_range] at hi'
      refine ⟨b, off, rfl, hlt, ?_⟩
      simp only [List.getElem_map, List.getElem_range]
      exact hfn i hi'
end Go.Proofs.Ytbhgeikijifbgaa
