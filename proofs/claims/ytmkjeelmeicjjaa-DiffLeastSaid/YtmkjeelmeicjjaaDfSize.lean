/- Size, and the document's Size: by contracts; a list of hunks that came in, opened. -/
import Derived.Test.YtmkjeelmeicjjaaDfRows
import Derived.Deep.Strs
namespace Go.Proofs.Ytmkjeelmeicjjaa
open Go Go.RowKit Go.ChangeShapes Go.WideShapes

/-- The slice at p holds hunks with texts of these numbers. -/
def SzRow (w : World) (p : Option Addr) (ns : List (Nat × Nat)) : Prop := ∀ i (h : i < ns.length), ∃ b off k p1 c1 p2 c2, p = some ⟨b, off, none⟩ ∧ b < w.heap.size ∧ w.cell? ⟨b, off + i * 3, none⟩ = some (.int .i64 k) ∧
  w.cell? ⟨b, off + i * 3 + 1, none⟩ = some (.slice p1 ns[i].1 c1) ∧ w.cell? ⟨b, off + i * 3 + 2, none⟩ = some (.slice p2 ns[i].2 c2)
theorem SzRow.at {w : World} {p : Option Addr} {ns : List (Nat × Nat)} (h : SzRow w p ns) (i : Nat) (hi : i < ns.length) : ∃ b off k p1 c1 p2 c2, p = some ⟨b, off, none⟩ ∧ ∀ W, Below w.heap.size w W →
    W.cell? ⟨b, off + i * 3, none⟩ = some (.int .i64 k) ∧ W.cell? ⟨b, off + i * 3 + 1, none⟩ = some (.slice p1 ns[i].1 c1) ∧ W.cell? ⟨b, off + i * 3 + 2, none⟩ = some (.slice p2 ns[i].2 c2) := by
  obtain ⟨b, off, k, p1, c1, p2, c2, e, hlt, h0, h1, h2⟩ := h i hi
  exact ⟨b, off, k, p1, c1, p2, c2, e, fun W hb => ⟨(hb.cell (p := ⟨b, off + i * 3, none⟩) hlt).trans h0, (hb.cell (p := ⟨b, off + i * 3 + 1, none⟩) hlt).trans h1, (hb.cell (p := ⟨b, off + i * 3 + 2, none⟩) hlt).trans h2⟩⟩
def sumI (l : List Nat) : Int := l.foldl (fun (s : Int) (n : Nat) => wrap64 (s + (n : Int))) 0
theorem sumI_snoc (l : List Nat) (n : Nat) : sumI (l ++ [n]) = wrap64 (sumI l + (n : Int)) := by simp [sumI]
theorem sumI_take (l : List Nat) (k : Nat) (h : k < l.length) : sumI (l.take (k + 1)) = wrap64 (sumI (l.take k) + (l[k] : Int)) := by rw [List.take_succ_eq_append_getElem h, sumI_snoc]
set_option maxRecDepth 100000 in
set_option maxHeartbeats 4000000 in
theorem size_sz (w : World) (p : Option Addr) (n c : Nat) (ns : List (Nat × Nat)) (hn : ns.length = n) (hnm : n ≤ 3518437208883) (hr : SzRow w p ns) :
    Calls Try.prog 21 #[.slice p n c] w fun e w' => e = .returned (.tuple #[.int .i64 (sumI (ns.map (·.1))), .int .i64 (sumI (ns.map (·.2)))]) ∧ Below w.heap.size w w' := by
  have HN := Lib.hid hn
  have HR := Lib.hid hr
  clear hn hr
  go_enter Try.func21, Try.ntmps21
  go_wp2
  go_loopg [2, 3, 8] n (fun g u v vi wr => ∃ k : Nat, k + g = n ∧ vi = .int .i64 k ∧ Below w.heap.size w wr ∧ u = .int .i64 (sumI ((ns.take k).map (·.1))) ∧ v = .int .i64 (sumI ((ns.take k).map (·.2))))
  case atStart => exact ⟨0, by omega, rfl, Below.refl _ _, rfl, rfl⟩
  case round =>
    obtain ⟨k, hk, rfl, hbr, rfl, rfl⟩ := hrel
    have hsr := hbr.size
    by_cases hlt : k < n
    · have hlt' : k < ns.length := by rw [HN.out]; exact hlt
      obtain ⟨b1, o1, kk, q1, d1, q2, d2, rfl, h1c⟩ := HR.out.at k hlt'
      obtain ⟨g0, g1, g2⟩ := h1c wr hbr
      have hsn1 : Hid (wrap64 (sumI ((ns.take k).map (·.1)) + (ns[k].1 : Int)) = sumI ((ns.take (k + 1)).map (·.1))) := by
        show _ = _
        rw [List.take_succ_eq_append_getElem hlt', List.map_append]; exact (sumI_snoc _ _).symm
      have hsn2 : Hid (wrap64 (sumI ((ns.take k).map (·.2)) + (ns[k].2 : Int)) = sumI ((ns.take (k + 1)).map (·.2))) := by
        show _ = _
        rw [List.take_succ_eq_append_getElem hlt', List.map_append]; exact (sumI_snoc _ _).symm
      have hkI : (k : Int) < (n : Int) := by omega
      have hk0 : (0 : Int) ≤ (k : Int) := by omega
      generalize ns[k].1 = x1 at *
      generalize ns[k].2 = x2 at *
      generalize sumI ((ns.take k).map (·.1)) = s1 at *
      generalize sumI ((ns.take k).map (·.2)) = s2 at *
      have HB := Lib.hid hbr
      clear h1c hbr HR
      go_wp2_with fail
      go_roundg (gk - 1)
      case rel => exact ⟨k + 1, by omega, by go_num, HB.out.alloc hsr _, by rw [← hsn1.out], by rw [← hsn2.out]⟩
      case measure => omega
    · obtain rfl : k = n := by omega
      have hall : ns.take k = ns := by rw [← HN.out]; exact List.take_length
      have HB := Lib.hid hbr
      clear hbr
      rw [hall]
      go_wp2_with fail
      go_ret2
      exact ⟨rfl, HB.out⟩
set_option maxRecDepth 100000 in
set_option maxHeartbeats 4000000 in
theorem refSize_sz (w : World) (p : Option Addr) (n c : Nat) (ns : List (Nat × Nat)) (hn : ns.length = n) (hnm : n ≤ 3518437208883) (hr : SzRow w p ns) :
    Calls Try.prog 27 #[.slice p n c] w fun e w' => e = .returned (.tuple #[.int .i64 (sumI (ns.map (·.1))), .int .i64 (sumI (ns.map (·.2)))]) ∧ Below w.heap.size w w' := by
  have HN := Lib.hid hn
  have HR := Lib.hid hr
  clear hn hr
  go_enter Try.func27, Try.ntmps27
  go_wp2
  go_loopg [4, 5, 6] n (fun g u v vi wr => ∃ k : Nat, k + g = n ∧ vi = .int .i64 k ∧ Below w.heap.size w wr ∧ u = .int .i64 (sumI ((ns.take k).map (·.1))) ∧ v = .int .i64 (sumI ((ns.take k).map (·.2))))
  case atStart => exact ⟨0, by omega, rfl, Below.refl _ _, rfl, rfl⟩
  case round =>
    obtain ⟨k, hk, rfl, hbr, rfl, rfl⟩ := hrel
    have hsr := hbr.size
    by_cases hlt : k < n
    · have hlt' : k < ns.length := by rw [HN.out]; exact hlt
      obtain ⟨b1, o1, kk, q1, d1, q2, d2, rfl, h1c⟩ := HR.out.at k hlt'
      obtain ⟨g0, g1, g2⟩ := h1c wr hbr
      have hsn1 : Hid (wrap64 (sumI ((ns.take k).map (·.1)) + (ns[k].1 : Int)) = sumI ((ns.take (k + 1)).map (·.1))) := by
        show _ = _
        rw [List.take_succ_eq_append_getElem hlt', List.map_append]; exact (sumI_snoc _ _).symm
      have hsn2 : Hid (wrap64 (sumI ((ns.take k).map (·.2)) + (ns[k].2 : Int)) = sumI ((ns.take (k + 1)).map (·.2))) := by
        show _ = _
        rw [List.take_succ_eq_append_getElem hlt', List.map_append]; exact (sumI_snoc _ _).symm
      have hkI : (k : Int) < (n : Int) := by omega
      have hk0 : (0 : Int) ≤ (k : Int) := by omega
      generalize ns[k].1 = x1 at *
      generalize ns[k].2 = x2 at *
      generalize sumI ((ns.take k).map (·.1)) = s1 at *
      generalize sumI ((ns.take k).map (·.2)) = s2 at *
      have HB := Lib.hid hbr
      clear h1c hbr HR
      go_wp2_with fail
      go_roundg (gk - 1)
      case rel => exact ⟨k + 1, by omega, by go_num, HB.out, by rw [← hsn1.out], by rw [← hsn2.out]⟩
      case measure => omega
    · obtain rfl : k = n := by omega
      have hall : ns.take k = ns := by rw [← HN.out]; exact List.take_length
      have HB := Lib.hid hbr
      clear hbr
      rw [hall]
      go_wp2_with fail
      go_ret2
      exact ⟨rfl, HB.out⟩
theorem diffSizes_any (w : World) (p : Option Addr) (n c : Nat) (ns : List (Nat × Nat)) (hn : ns.length = n) (hnm : n ≤ 3518437208883) (hr : SzRow w p ns) :
    Calls Try.prog 6 #[.slice p n c] w fun e w' => e = .returned (.bool true) ∧ Below w.heap.size w w' := by
  have cA := fun W (hb : Below w.heap.size w W) => size_sz W p n c ns hn hnm (fun i hi => by
    obtain ⟨b, off, k, p1, c1, p2, c2, e, hlt, h0, h1, h2⟩ := hr i hi
    exact ⟨b, off, k, p1, c1, p2, c2, e, Nat.lt_of_lt_of_le hlt hb.size, (hb.cell (p := ⟨b, off + i * 3, none⟩) hlt).trans h0, (hb.cell (p := ⟨b, off + i * 3 + 1, none⟩) hlt).trans h1, (hb.cell (p := ⟨b, off + i * 3 + 2, none⟩) hlt).trans h2⟩)
  have cB := fun W (hb : Below w.heap.size w W) => refSize_sz W p n c ns hn hnm (fun i hi => by
    obtain ⟨b, off, k, p1, c1, p2, c2, e, hlt, h0, h1, h2⟩ := hr i hi
    exact ⟨b, off, k, p1, c1, p2, c2, e, Nat.lt_of_lt_of_le hlt hb.size, (hb.cell (p := ⟨b, off + i * 3, none⟩) hlt).trans h0, (hb.cell (p := ⟨b, off + i * 3 + 1, none⟩) hlt).trans h1, (hb.cell (p := ⟨b, off + i * 3 + 2, none⟩) hlt).trans h2⟩)
  clear hn hr
  generalize sumI (ns.map (·.1)) = s1 at *
  generalize sumI (ns.map (·.2)) = s2 at *
  go_enter Try.func6, Try.ntmps6
  go_wp2_with fail
  refine (cA _ (Below.refl _ _)).mono ?_
  rintro e w2 ⟨rfl, hb2⟩
  go_wp2_with fail
  refine (cB _ hb2).mono ?_
  rintro e w3 ⟨rfl, hb3⟩
  go_wp2_with fail
  go_ret
  exact ⟨rfl, hb2.trans (hb3.mono hb2.size)⟩
theorem hkCellsN : Try.prog.cellsOf 41 = 3 := by kernel_rfl
set_option maxRecDepth 100000 in
/-- One hunk's cells. -/
theorem open_hk {H : Type} {enc : TypeId × Value → H} {W : World} {fuel b off : Nat} {cs : List Value} {x : DataW H × List MemPlace} (hc : W.cells? 0 ⟨b, off, none⟩ 3 = some cs)
    (h : DataW.trod enc Try.prog W 0 (fun _ => true) true fuel 41 cs = some x) : ∃ y : Nat × Nat, ∃ k p1 c1 p2 c2, W.cell? ⟨b, off, none⟩ = some (.int .i64 k) ∧ W.cell? ⟨b, off + 1, none⟩ = some (.slice p1 y.1 c1) ∧ W.cell? ⟨b, off + 2, none⟩ = some (.slice p2 y.2 c2) := by
  obtain ⟨_, hcl, hat⟩ := World.cells?_some hc
  match cs, hcl with
  | [k0, k1, k2], _ =>
    obtain ⟨y0, y1, y2, n', _, _, h0, h1, h2⟩ := Go.Deep.trod_struct3 Try.underlying41 h
    have e0 := hat 0 (by omega)
    have e1 := hat 1 (by omega)
    have e2 := hat 2 (by omega)
    simp only [addrAdd, Nat.add_zero, List.getElem?_cons_zero, List.getElem?_cons_succ] at e0 e1 e2
    have q0 : DataW.trod enc Try.prog W 0 (fun _ => true) true n' 3 [k0] = some y0 := h0
    have q1 : DataW.trod enc Try.prog W 0 (fun _ => true) true n' 34 [k1] = some y1 := h1
    have q2 : DataW.trod enc Try.prog W 0 (fun _ => true) true n' 34 [k2] = some y2 := h2
    obtain ⟨u, d0, _, wu⟩ := DataW.trod_int Try.underlying3 q0
    have hs : ∀ (kx : Value) (y : DataW H × List MemPlace), DataW.trod enc Try.prog W 0 (fun _ => true) true n' 34 [kx] = some y → ∃ p n c, kx = .slice p n c := fun kx y hy => by
      rcases Go.Deep.open_slice Try.underlying34 hy with ⟨hcs, _⟩ | ⟨a, len, cap, m, n, D, Pl, hcs, _⟩
      · simp only [List.cons.injEq, and_true] at hcs
        exact ⟨none, 0, 0, hcs⟩
      · simp only [List.cons.injEq, and_true] at hcs
        exact ⟨_, _, _, hcs⟩
    obtain ⟨a1, n1, m1, rfl⟩ := hs _ _ q1
    obtain ⟨a2, n2, m2, rfl⟩ := hs _ _ q2
    simp only [List.cons.injEq, and_true] at d0
    subst d0
    exact ⟨(n1, n2), u, a1, m1, a2, m2, e0, e1, e2⟩
set_option maxRecDepth 100000 in
theorem open_szs {H : Type} {enc : TypeId × Value → H} {W : World} {base : Nat} {v : Value} {d : DataW H} {ps : List MemPlace} (hv : Value.okWide Try.prog W .any base 36 v)
    (h : DataW.Trod enc Try.prog W 0 (fun _ => true) true 36 v d ps) :
    ∃ (p : Option Addr) (n c : Nat) (ns : List (Nat × Nat)), v = .slice p n c ∧ ns.length = n ∧ SzRow W p ns ∧ (n = 0 ∨ ∃ elems spare, d = .slice elems spare ∧ elems.length = n) := by
  obtain ⟨a0, n0, c0, rfl⟩ := okWide_slice Try.underlying36 hv
  obtain ⟨fuel, hf⟩ := h
  rcases Go.Deep.open_slice Try.underlying36 hf with ⟨hcs, _⟩ | ⟨a, len, cap, m, n, D, Pl, hcs, _, hl, _, hmm, hx, hi⟩
  · simp [Value.cells] at hcs
    obtain ⟨rfl, rfl, rfl⟩ := hcs
    exact ⟨none, 0, 0, [], rfl, rfl, fun i hi => absurd hi (Nat.not_lt_zero _), .inl rfl⟩
  · simp [Value.cells] at hcs
    obtain ⟨rfl, rfl, rfl⟩ := hcs
    simp only [if_true] at hmm
    simp only [Prod.mk.injEq] at hx
    by_cases hz : n0 = 0
    · subst hz
      exact ⟨some a, 0, c0, [], rfl, rfl, fun i hi => absurd hi (Nat.not_lt_zero _), .inl rfl⟩
    · have hspot : ∃ b off, a = ⟨b, off, none⟩ ∧ b < W.heap.size := by
        obtain ⟨cs', hc, ht'⟩ := hi 0 (by omega)
        rw [hkCellsN] at hc
        obtain ⟨_, hcl, hat⟩ := World.cells?_some hc
        have e0 := hat 0 (by omega)
        rw [List.getElem?_eq_getElem (by omega)] at e0
        obtain ⟨b, off, spot⟩ := a
        have hspot : spot = none := by simpa [Addr.add] using World.cell?_spot e0
        subst hspot
        refine ⟨b, off, rfl, ?_⟩
        have := World.block_lt_of_cell? W _ e0
        simpa [addrAdd] using this
      obtain ⟨b, off, rfl, hlt⟩ := hspot
      obtain ⟨f, hfn⟩ := Go.Deep.choose_lt (n := n0) (p := fun i (y : Nat × Nat) => ∃ k p1 c1 p2 c2, W.cell? ⟨b, off + i * 3, none⟩ = some (.int .i64 k) ∧ W.cell? ⟨b, off + i * 3 + 1, none⟩ = some (.slice p1 y.1 c1) ∧ W.cell? ⟨b, off + i * 3 + 2, none⟩ = some (.slice p2 y.2 c2)) (fun i hi' => by
        obtain ⟨cs', hc, ht'⟩ := hi i (by omega)
        rw [hkCellsN, addrAdd] at hc
        exact open_hk hc ht')
      refine ⟨some ⟨b, off, none⟩, n0, c0, (List.range n0).map f, rfl, by simp, fun i hi' => ?_, .inr ⟨_, _, hx.1, by simp⟩⟩
      simp only [List.length_map, List.length_range] at hi'
      obtain ⟨k, p1, c1, p2, c2, h0, h1, h2⟩ := hfn i hi'
      refine ⟨b, off, k, p1, c1, p2, c2, rfl, hlt, h0, ?_⟩
      simp only [List.getElem_map, List.getElem_range]
      exact ⟨h1, h2⟩
end Go.Proofs.Ytmkjeelmeicjjaa
