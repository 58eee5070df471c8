/- view.those: the lines that are asked for, in a row of the call's own: by the contract of a range over a function. -/
import Derived.Test.YtdpikdkhemhmdaaViWhere
import Derived.Maps.AppendAt
namespace Go.Proofs.Ytdpikdkhemhmdaa
open Go Go.RowKit Go.Shelf

attribute [local go_sem] Oper.semAt_some

theorem li_parts : ∃ i0, Try.prog.info? 26 = some i0 ∧ i0.zero = some (.agg #[.int .u64 0, .int .i64 0, .int .i64 0, .string ⟨#[]⟩]) ∧ i0.size = 4 ∧ i0.bytes = 40 := info_parts liInfo
/-- A block of cells, as it was laid. -/
theorem cells_own {β : Type} (B : Nat) (cs : Array Value) (t : TypeId) : Own (fun (_ : β) W => W.heap[B]? = some (.cells cs t (0, 0))) := fun s X Y row hs hg hrow =>
  (hg.block B (Array.getElem?_eq_some_iff.1 hs).1 (fun e' => by obtain ⟨o, ho, hc⟩ := hrow B e'.symm; rw [hs] at ho; cases ho; cases hc)).trans hs
theorem Li.vals_one (x : Li) : ∀ u ∈ x.vals, u.oneCell' = true := by
  intro u hu
  simp only [Li.vals, List.mem_cons, List.not_mem_nil, or_false] at hu
  rcases hu with rfl | rfl | rfl | rfl <;> rfl
theorem four_cells {W : World} {b : Nat} {x : Li} {T : TypeId} (h : W.heap[b]? = some (.cells #[.int .u64 x.u, .int .i64 x.n, .int .i64 x.r, .string x.s] T (0, 0))) : LiAt W b 0 x := by
  refine ⟨?_, ?_, ?_, ?_⟩ <;> simp [World.cell?, h]
theorem base_le {W : World} {base base' : Nat} {e : TypeId} {size : Nat} {v : Value} {k : Nat} {xs : List Value} (h : W.ownsRow base e size v k xs) (hb : base' ≤ base) : W.ownsRow base' e size v k xs := by
  refine ⟨h.1, ?_⟩
  rcases h.2 with h' | ⟨g, cap, cur, hv, hB, rest⟩
  · exact .inl h'
  · exact .inr ⟨g, cap, cur, hv, Nat.le_trans hb hB, rest⟩
theorem keepX_appended {W w1 : World} {B n k size : Nat} {e : TypeId} {v u : Value} {o : Obj} {xs : List Value} (hgrow : (W.alloc o).grownBy w1 v.ownBlock) (hrow : W.ownsRow n e size v k xs) (hn : n ≤ W.heap.size) : KeepX B n W (w1.setCell ⟨B, 0, none⟩ u) := by
  refine ⟨hgrow.os, hgrow.tape, hgrow.output, ?_, fun j hj hB => ?_⟩
  · have := hgrow.size
    simp only [World.size_alloc] at this
    simp; omega
  · refine (Below.heap_setCell _ _ _ j (fun e => hB (by rw [e]))).trans ((hgrow.block j (by simp; omega) (fun e => ?_)).trans (Below.heap_alloc _ _ _ (by omega)))
    have := (hrow.lt j e.symm).1
    omega
set_option maxRecDepth 100000 in
set_option maxHeartbeats 4000000 in
theorem those_any (w : World) (p : Option Addr) (n c : Nat) (xs : List Li) (hn : xs.length = n) (hnm : n ≤ 3518437208883) (hr : LiRow w p xs) (hok : ∀ x ∈ xs, x.u < 18446744073709551616) (g : Nat) (cb : Array Value) (f : Li → Bool) (Ok : World → Prop) (eg : ∀ args W, (callFunc g args).run Try.prog W = .ok (.enter g args) W)
    (hOk : ∀ W, Below w.heap.size w W → Ok W) (hask : AsksL g cb f Ok) :
    Calls Try.prog 45 #[.slice p n c, .func (.func g) #[] cb] w fun e w' => Below w.heap.size w w' ∧ ∃ v, e = .returned v ∧ w'.ownsRow w.heap.size 26 4 v (xs.filter f).length (liCells (xs.filter f)) := by
  obtain ⟨i0, hi, hz0, hz1, hz2⟩ := li_parts
  have cW := fun W => where_any p n c g cb W
  refine (callsIn_wide (n := 6)).1 ?_
  refine callsIn_of_wp_marks Try.func45 rfl trivial ?_ rfl
  simp only [Try.ntmps45, List.size_toArray, List.length_cons, List.length_nil, Nat.reduceAdd, Nat.reduceSub, Array.replicate_succ, Array.replicate_zero, List.push_toArray, List.append_toArray, List.nil_append, List.cons_append]
  have HN := Lib.hid hn
  have HR := Lib.hid hr
  have HK := Lib.hid hok
  have HO := Lib.hid hOk
  have HQ := Lib.hid hask
  clear hn hr hok hOk hask
  gi_wp2
  refine ⟨trivial, (callsIn_wide.2 (cW _)).mono ?_⟩
  rintro e w1 ⟨rfl, rfl⟩
  have bO := ((Boxed.new w 22 (.slice none 0 0)).alloc (.cells #[.slice p n c] 22)).alloc (.cells #[.func (.func g) #[] cb] 62)
  have bL := (Boxed.new (w.alloc (.cells #[.slice none 0 0] 22)) 22 (.slice p n c)).alloc (.cells #[.func (.func g) #[] cb] 62)
  have bQ := Boxed.new ((w.alloc (.cells #[.slice none 0 0] 22)).alloc (.cells #[.slice p n c] 22)) 62 (.func (.func g) #[] cb)
  simp only [World.size_alloc] at bL bQ
  have hB0 : Below w.heap.size w (((w.alloc (.cells #[.slice none 0 0] 22)).alloc (.cells #[.slice p n c] 22)).alloc (.cells #[.func (.func g) #[] cb] 62)) := (((Below.refl _ w).alloc (Nat.le_refl _) _).alloc (by simp) _).alloc (by simp; omega) _
  have hsz : (((w.alloc (.cells #[.slice none 0 0] 22)).alloc (.cells #[.slice p n c] 22)).alloc (.cells #[.func (.func g) #[] cb] 62)).heap.size = w.heap.size + 3 := by simp
  gi_wp2
  obtain ⟨W0, hW0⟩ : ∃ W0, ((w.alloc (.cells #[.slice none 0 0] 22)).alloc (.cells #[.slice p n c] 22)).alloc (.cells #[.func (.func g) #[] cb] 62) = W0 := ⟨_, rfl⟩
  rw [hW0] at bO bL bQ hB0 hsz ⊢
  clear hW0 cW
  have hat : ∀ i (h : i < xs.length), ∃ b off, p = some ⟨b, off, none⟩ ∧ b < W0.heap.size ∧ b ≠ w.heap.size ∧ LiAt W0 b (off + i * 4) xs[i] := fun i hi => by
    obtain ⟨b, off, e, hlt, hc⟩ := HR.out i hi
    exact ⟨b, off, e, by omega, by omega, hc.below hB0 hlt⟩
  have hask : AsksL g cb f (KeepX w.heap.size W0.heap.size W0) := fun x W hx hW => HQ.out x W hx (HO.out W (hB0.trans (hW.below (by omega))))
  refine wpIn_rangeFunc_ownH (N := n) rfl (by decide) (gf := 66) (lb := #[.pointer (some ⟨w.heap.size + 1, 0, none⟩), .pointer (some ⟨w.heap.size + 1 + 1, 0, none⟩)]) rfl trivial (enters_of Try.func66 (by kernel_rfl) rfl)
    (where_stops 5 (by decide) (w.heap.size + 1) (w.heap.size + 1 + 1) p n c xs HN.out hnm g cb f w.heap.size W0 eg hask HK.out bL.cell (by omega) bQ.cell (by omega) (by omega) hat) keepX_t (keepX_b (Nat.le_refl _)) (Below.refl _ _) (fun _ => rfl)
    (fun pre W => (∃ v, Boxed W w.heap.size 22 v ∧ W.ownsRow W0.heap.size 26 4 v pre.length (liCells (pre.map (·.x))) ∧ True) ∧ Below w.heap.size W0 W)
    (fun _ _ _ => False)
    (OwnFrom.and (Own.from (holdsRow_own W0.heap.size w.heap.size 22 26 4 (fun pre : List Ent => pre.length) (fun pre => liCells (pre.map (·.x))) (fun _ _ => True)) _) (ownFrom_below (by omega) (by omega)))
    (fun _ _ _ _ _ hs _ _ => hs)
    ⟨⟨_, bO, World.ownsRow_nil _ _ _ _, trivial⟩, Below.refl _ _⟩
    (fun y a' W => ∃ Bx, w.heap.size < Bx ∧ W.heap[Bx]? = some (.cells #[.int .u64 y.x.u, .int .i64 y.x.n, .int .i64 y.x.r, .string y.x.s] 26 (0, 0)) ∧ a' = { tmps := #[.slice p n c, .func (.func g) #[] cb, undef, undef, .slice none 0 0, .pointer (some ⟨w.heap.size, 0, none⟩), undef, .pointer (some ⟨Bx, 0, none⟩), .slice p n c, .func (.func g) #[] cb, .func (.func 66) #[] #[.pointer (some ⟨w.heap.size + 1, 0, none⟩), .pointer (some ⟨w.heap.size + 1 + 1, 0, none⟩)], .int .i64 y.i, y.x.agg, undef, undef, undef, undef, undef], defers := [] })
    (fun y a' => fun s A C row ⟨Bx, h1, h2, h3⟩ hg hrow => ⟨Bx, h1, cells_own Bx _ _ () A C row h2 hg (fun r e => (hrow r e).2), h3⟩)
    ?assign ?body ?done ?stop
  case assign =>
    rintro l pre y W K ⟨⟨v, hv, hrow, _⟩, hB⟩ hK
    have hcs := hv.lt
    have hBs := hB.size
    have HKK := Lib.hid hK
    have HV := Lib.hid hv
    have HRW := Lib.hid hrow
    clear hK hv hrow
    unfold encE Li.agg
    gi_wp2
    refine HKK.out _ _ ((KeepsOthers.alloc _ _).from _) ((KeepX.refl _ _ _).alloc hBs _) ⟨⟨v, HV.out.alloc _, HRW.out.alloc _, trivial⟩, hB.alloc (by omega) _⟩ ⟨W.heap.size, hcs, World.alloc_heap_new W _, rfl⟩
  case body =>
    rintro l pre y a' W hl _ ⟨⟨v, hv, hrow, _⟩, hB⟩ ⟨Bx, hBx, hcx, rfl⟩ hlt
    have hc := hv.cell
    obtain ⟨x0, x1, x2, x3⟩ := four_cells hcx
    simp only [Nat.zero_add] at x0 x1 x2 x3
    unfold Li.agg
    have hBs := hB.size
    have hxl : Bx < W.heap.size := (Array.getElem?_eq_some_iff.1 hcx).1
    have HC := Lib.hid (Li.vals_one y.x)
    gi_wp2_with (gi_at_builtin; refine wpListIn_append_own _ rfl _ _ 22 rfl W0.heap.size 26 i0 (.agg #[.int .u64 0, .int .i64 0, .int .i64 0, .string ⟨#[]⟩]) 4 40 Try.underlying22 hi hz0 hz1 hz2 rfl (by decide) _ _ _ rfl (hrow.alloc _) ⟨W.heap.size, 0, none⟩ 1 1 y.x.vals rfl rfl (cells_four W y.x _) HC.out (by unfold maxLen; omega) (by omega) (by simp; omega) ?_; intro v' w1 hown' hgrow _; obtain ⟨g', cap', rfl⟩ := ownsRow_succ hown'; obtain ⟨hv1, hv2, hr2, hk2, hb2⟩ := hv.appended (by decide) (base_le hrow (show w.heap.size ≤ W0.heap.size by omega)) (by omega) (Nat.le_refl _) (base_le hown' (show w.heap.size ≤ W0.heap.size by omega)) hgrow; have hx2 := keepX_appended (B := w.heap.size) (u := .slice (some ⟨g', 0, none⟩) (pre.length + 1) cap') hgrow hrow hBs; have hc1 := hv1.cell; have hf1 := hv1.frozen)
    have hr3 := hown'.kept (grownBy_setCell' w1 w.heap.size (.slice (some ⟨g', 0, none⟩) (pre.length + 1) cap')) (.inr (hv1.not_row (by decide) hown').symm)
    refine ⟨hk2.from _, hx2, ⟨_, hv2, ?_, trivial⟩, hB.trans hb2⟩
    rw [List.map_append, List.map_cons, List.map_nil, liCells_snoc, List.length_append]
    exact hr3
  case done => 
    rintro D ys W hD rfl ⟨⟨v, hv, hrow, _⟩, hB⟩ hK
    have hc := hv.cell
    gi_wp2
    refine ⟨by simp, .inl ⟨_, _, rfl, run_takeDeferred hK, ?_⟩⟩
    rw [show (entF f xs).length = (xs.filter f).length by rw [← entF_x f xs, List.length_map], entF_x] at hrow
    exact ⟨_, results_tmp rfl _ _ _, (hB0.trans hB).trans (belowK_b (w := w) (Nat.le_refl _) W D _ _ (by omega) hK rfl rfl), v, rfl, base_le (ownsRow_putObj hrow _ hK rfl) (by omega)⟩
  case stop =>
    rintro D c pre W _ _ h _
    exact h.elim
end Go.Proofs.Ytdpikdkhemhmdaa
