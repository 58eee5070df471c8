/- The law LabelBetween by a walk over the contracts. -/
import Derived.RangeFuncFrom
import Derived.RangeFuncBox
import Derived.Maps.AppendAt
import Derived.Test.YtglpkadpohbfmaaLbIter
import Derived.Test.YtglpkadpohbfmaaLbRefBetween
import Derived.Test.YtglpkadpohbfmaaLbLists
import Derived.Test.YtglpkadpohbfmaaFuncNil
namespace Go.Proofs.Ytglpkadpohbfmaa
open Go.RowKit Go.Shelf

attribute [local go_sem] Oper.semAt_some

theorem boxed_later {W W' : World} {B : Nat} {t : TypeId} {v : Value} (h : Boxed W B t v) (hb : Below W.heap.size W W') : Boxed W' B t v := (hb.block B h.lt).trans h

set_option maxRecDepth 100000 in
set_option maxHeartbeats 4000000 in
theorem labelBetween_big (a b : Nat) (leave : Int) (w : World) (ha : a < 18446744073709551616) (hb : b < 18446744073709551616) (hle : 16 < cnt (lessN b a)) :
    Calls Try.prog 4 #[.int .u64 a, .int .u64 b, .int .i64 leave] w fun e w' => e = .returned (.bool true) ∧ Below w.heap.size w w' := by
  have hB0 : Below w.heap.size w ((w.alloc (.cells #[.int .i64 leave] 3)).alloc (.cells #[.bool false] 4)) := ((Below.refl _ _).alloc (Nat.le_refl _) _).alloc (by simp) _
  have c1 := Boxed.new (w.alloc (.cells #[.int .i64 leave] 3)) 4 (.bool false)
  simp only [World.size_alloc] at c1
  have cC := fun W => count_any a W ha
  have hcnt : cnt a = (listTo a 64).length := rfl
  rw [hcnt] at cC
  have hnil := nil_nil
  refine (callsIn_wide (n := 3)).1 ?_
  refine callsIn_of_wp_marks Try.func4 rfl trivial ?_ rfl
  simp only [Try.ntmps4, List.size_toArray, List.length_cons, List.length_nil, Nat.reduceAdd, Nat.reduceSub, Array.replicate_succ, Array.replicate_zero, List.push_toArray, List.append_toArray, List.nil_append, List.cons_append]
  have H1 := Lib.hid c1; have HB0 := Lib.hid hB0
  clear c1 hB0 hcnt
  gi_wp2
  refine ⟨trivial, (callsIn_wide.2 (cC _)).mono ?_⟩
  rintro e w' ⟨rfl, rfl⟩
  gi_wp2
  refine ⟨trivial, (callsIn_wide.2 (refList_any a _ ha)).mono ?_⟩
  rintro e w2 ⟨pl, cl, rfl, hb2, hrr⟩
  have hbw2 := HB0.out.trans (hb2.mono HB0.out.size)
  have g1 := boxed_later H1.out hb2
  clear hrr H1 HB0 hb2 cC
  gi_wp2
  refine ⟨trivial, (callsIn_wide.2 (refBetween_big a b w2 ha hb hle)).mono ?_⟩
  rintro e w3 ⟨rfl, hb3⟩
  have hbw3 := hbw2.trans (hb3.mono hbw2.size)
  have g1 := boxed_later g1 hb3
  have hbw4 := hbw3.alloc hbw3.size (.cells #[.slice none 0 0] 23)
  have g1 := g1.alloc (.cells #[.slice none 0 0] 23)
  have HB4 := Lib.hid hbw4
  have HG := Lib.hid g1
  clear hbw2 hb3 hbw3 hbw4 g1
  gi_wp2
  refine ⟨trivial, (callsIn_wide.2 (between_big a b _ ha hb hle)).mono ?_⟩
  rintro e w5 ⟨rfl, hb5⟩
  have hbw5 := HB4.out.trans (hb5.mono HB4.out.size)
  have g1 := boxed_later HG.out hb5
  have k1 := g1.cell
  have f1 := g1.frozen
  clear g1 HG HB4 hb5
  gi_wp2
  have hc5 := World.cell?_setCell_same' w5 ⟨w.heap.size + 1, 0, none⟩ (.bool true) (by rw [k1]; rfl)
  refine ⟨.bool true, ?_, rfl, hbw5.setCell (p := ⟨w.heap.size + 1, 0, none⟩) (by simp) _⟩
  simp [results, Try.f4, go_sem, hc5]

theorem betw_max (a b : Nat) (h : cnt (lessN b a) ≤ 16) : (betw a b).length ≤ 65536 := by
  cases hb : belowB a b
  · rw [betw_none a b hb]; decide
  · rw [betw_len a b hb]
    exact Nat.pow_le_pow_right (by decide : 2 > 0) h
/-- Between two rounds of the first loop: how many; what lay stays. -/
def NInv (M : Nat) (wk : World) (pre : List Nat64) (W : World) : Prop := Boxed W M 3 (.int .i64 pre.length) ∧ Below wk.heap.size wk W
theorem ninv_own (M B : Nat) (wk : World) (h : wk.heap.size ≤ B) : OwnFrom B (NInv M wk) := OwnFrom.and (Own.from (boxed_own _ _ _) _) (ownFrom_below (Nat.le_refl _) h)
def NOut (wk : World) (c : Code) (_ : List Nat64) (W : World) : Prop := c = .exit 0 ∧ Below wk.heap.size wk W
theorem nout_own (wk : World) (B : Nat) (c : Code) (h : wk.heap.size ≤ B) : OwnFrom B (NOut wk c) := OwnFrom.and (ownFrom_pure _ _) (ownFrom_below (Nat.le_refl _) h)

/-- Between two rounds of the second loop: what has come, in a row of the call's own. -/
def labsOf (l : List Nat64) : List Value := l.map fun x => .int .u64 (x.val : Nat)
theorem labs_snoc (l : List Nat64) (x : Nat64) : labsOf (l ++ [x]) = labsOf l ++ [.int .u64 (x.val : Nat)] := by unfold labsOf; rw [List.map_append]; rfl
def GInv (G : Nat) (W0 : World) (pre : List Nat64) (W : World) : Prop := (∃ v, Boxed W G 23 v ∧ W.ownsRow G 25 1 v pre.length (labsOf pre) ∧ True) ∧ Below G W0 W
theorem ginv_own (G B : Nat) (W0 : World) (hG : G ≤ W0.heap.size) (h : G ≤ B) : OwnFrom B (GInv G W0) :=
  OwnFrom.and (Own.from (holdsRow_own G G 23 25 1 (fun pre : List Nat64 => pre.length) (fun pre => labsOf pre) (fun _ _ => True)) _) (ownFrom_below hG h)

set_option maxRecDepth 100000 in
set_option maxHeartbeats 8000000 in
theorem labelBetween_ok (a b : Nat) (leave : Int) (w : World) (ha : a < 18446744073709551616) (hb : b < 18446744073709551616) (hle : cnt (lessN b a) ≤ 16) :
    Calls Try.prog 4 #[.int .u64 a, .int .u64 b, .int .i64 leave] w fun e w' => e = .returned (.bool true) ∧ Below w.heap.size w w' := by
  have hB0 : Below w.heap.size w ((w.alloc (.cells #[.int .i64 leave] 3)).alloc (.cells #[.bool false] 4)) := ((Below.refl _ _).alloc (Nat.le_refl _) _).alloc (by simp) _
  have c0 := (Boxed.new w 3 (.int .i64 leave)).alloc (.cells #[.bool false] 4)
  have c1 := Boxed.new (w.alloc (.cells #[.int .i64 leave] 3)) 4 (.bool false)
  simp only [World.size_alloc] at c1
  obtain ⟨i0, hi, hz0, hz1, hz2⟩ := info_parts labInfo
  have cC := fun W => count_any a W ha
  have hcnt : cnt a = (listTo a 64).length := rfl
  rw [hcnt] at cC
  refine (callsIn_wide (n := 3)).1 ?_
  refine callsIn_of_wp_marks Try.func4 rfl trivial ?_ rfl
  simp only [Try.ntmps4, List.size_toArray, List.length_cons, List.length_nil, Nat.reduceAdd, Nat.reduceSub, Array.replicate_succ, Array.replicate_zero, List.push_toArray, List.append_toArray, List.nil_append, List.cons_append]
  have H0 := Lib.hid c0; have H1 := Lib.hid c1; have HB0 := Lib.hid hB0
  clear c0 c1 hB0 hcnt
  gi_wp2
  refine ⟨trivial, (callsIn_wide.2 (cC _)).mono ?_⟩
  rintro e w' ⟨rfl, rfl⟩
  gi_wp2
  refine ⟨trivial, (callsIn_wide.2 (refList_any a _ ha)).mono ?_⟩
  rintro e w2 ⟨pl, cl, rfl, hb2, hrr⟩
  have hbw2 := HB0.out.trans (hb2.mono HB0.out.size)
  have g0 := boxed_later H0.out hb2
  have g1 := boxed_later H1.out hb2
  clear hrr H0 H1 HB0 hb2 cC
  gi_wp2
  refine ⟨trivial, (callsIn_wide.2 (refBetween_any a b w2 ha hb hle)).mono ?_⟩
  rintro e w3 ⟨pw, nw, cw, rfl, hnw, hrow, hb3⟩
  have hbw3 := hbw2.trans (hb3.mono hbw2.size)
  have g0 := (boxed_later g0 hb3).alloc (.cells #[.slice pw nw cw] 23)
  have g1 := (boxed_later g1 hb3).alloc (.cells #[.slice pw nw cw] 23)
  have g2 := Boxed.new w3 23 (.slice pw nw cw)
  have hbw4 := hbw3.alloc hbw3.size (.cells #[.slice pw nw cw] 23)
  have hrow4 := hrow.later ((Below.refl _ _).alloc (Nat.le_refl _) (.cells #[.slice pw nw cw] 23))
  have HB4 := Lib.hid hbw4
  have G0 := Lib.hid g0; have G1 := Lib.hid g1; have G2 := Lib.hid g2
  have HNW := Lib.hid hnw
  clear hbw2 hb3 hbw3 hbw4 hrow g0 g1 g2 hnw
  gi_wp2
  refine ⟨trivial, (callsIn_wide.2 (between_ok a b _ ha hb hle)).mono ?_⟩
  rintro e w5 ⟨rfl, hBx, hb5⟩
  have hbw5 := HB4.out.trans (hb5.mono HB4.out.size)
  have g0 := boxed_later G0.out hb5
  have g1 := boxed_later G1.out hb5
  have g2 := boxed_later G2.out hb5
  have hrow5 := hrow4.later hb5
  have hfn := seq_nil 23
  have hlt5 := hBx.lt
  generalize (w3.alloc (.cells #[.slice pw nw cw] 23)).heap.size = BB at *
  have hB5 := Lib.hid hbw5
  have G0 := Lib.hid g0; have G1 := Lib.hid g1; have G2 := Lib.hid g2
  have HX := Lib.hid hBx
  clear HB4 hb5 hrow4 g0 g1 g2 hbw5 hBx
  gi_wp2
  have bM := Boxed.new w5 3 (.int .i64 0)
  have hb6 : Below w5.heap.size w5 (w5.alloc (.cells #[.int .i64 0] 3)) := (Below.refl _ _).alloc (Nat.le_refl _) _
  have hN := betw_max a b hle
  refine wpIn_rangeFunc_ownF rfl (by decide) (gf := 23) (lb := #[.pointer (some ⟨BB, 0, none⟩), .pointer (some ⟨BB + 1, 0, none⟩), .pointer (some ⟨BB + 2, 0, none⟩)]) rfl trivial (enters_of Try.func23 (by kernel_rfl) rfl)
    (between_stops 2 (by decide) BB w5.heap.size a b ha hb _ (HX.out.later hb6) hlt5) belowK_t (belowK_b (by simp)) (Below.refl _ _) (fun _ => rfl)
    (NInv w5.heap.size w5) (NOut w5) (ninv_own _ _ _ (by simp)) (fun c => nout_own _ _ _ (by simp)) ⟨bM, hb6⟩ ?a1 ?assign ?body ?done ?stop
  case assign =>
    intro l x W K hK
    gi_wp2
    exact hK
  case body =>
    rintro l pre x W ⟨bN, hB⟩ hlt
    have g0 := boxed_later G0.out hB
    have k0 := g0.cell; have kN := bN.cell; have fN := bN.frozen
    have hsz := bN.lt
    have hpn : pre.length ≤ 17592186044416 := by omega
    have hp0 : (0 : Int) ≤ (pre.length : Int) := Int.natCast_nonneg _
    have GO : Hid (NInv w5.heap.size w5 (pre ++ [x]) (W.setCell ⟨w5.heap.size, 0, none⟩ (.int .i64 ((pre.length : Int) + 1)))) := by
      have el : ((pre ++ [x]).length : Int) = (pre.length : Int) + 1 := by simp
      show NInv _ _ _ _
      unfold NInv
      rw [el]
      exact ⟨bN.set _, hB.setCell (p := ⟨w5.heap.size, 0, none⟩) (Nat.le_refl _) _⟩
    have hBs : Below w5.heap.size w5 (W.setCell ⟨w5.heap.size, 0, none⟩ (.int .i64 ((pre.length : Int) + 1))) := hB.setCell (p := ⟨w5.heap.size, 0, none⟩) (Nat.le_refl _) _
    have hKp : Below w5.heap.size W (W.setCell ⟨w5.heap.size, 0, none⟩ (.int .i64 ((pre.length : Int) + 1))) := (Below.refl _ _).setCell (p := ⟨w5.heap.size, 0, none⟩) (Nat.le_refl _) _
    have HBs := Lib.hid hBs; have HKp := Lib.hid hKp
    have hne : w.heap.size ≠ w5.heap.size := by have := G0.out.lt; omega
    have k0' := (g0.other hne (.int .i64 ((pre.length : Int) + 1))).cell
    clear bM hb6 hN g0 bN hlt hBs hKp hB hne
    generalize pre.length = m at *
    gi_wp2
    · exact ⟨KeepsOthers.setCell _ _ _, rfl, HBs.out⟩
    · exact ⟨KeepsOthers.setCell _ _ _, HKp.out, GO.out⟩
  case done =>
    rintro D0 xs0 W hD hS ⟨bN, hB⟩ hK
    clear bM hb6 hS bN
    gi_wp2
    have hsW := hB.size
    have g1 := boxed_later G1.out hB
    have g2 := boxed_later G2.out hB
    have hX := HX.out.later hB
    have hrowW := hrow5.later hB
    have hl1 : w.heap.size + 1 < W.heap.size := g1.lt
    have hl2 : w3.heap.size < W.heap.size := g2.lt
    have hlx := hX.lt
    have bG := Boxed.new W 23 (.slice none 0 0)
    have hb7 : Below W.heap.size W (W.alloc (.cells #[.slice none 0 0] 23)) := (Below.refl _ _).alloc (Nat.le_refl _) _
    refine wpIn_rangeFunc_ownF rfl (by decide) (gf := 23) (lb := #[.pointer (some ⟨BB, 0, none⟩), .pointer (some ⟨BB + 1, 0, none⟩), .pointer (some ⟨BB + 2, 0, none⟩)]) rfl trivial (enters_of Try.func23 (by kernel_rfl) rfl)
      (between_stops 2 (by decide) BB W.heap.size a b ha hb _ (hX.later hb7) hlx) belowK_t (belowK_b (by simp)) (Below.refl _ _) (fun _ => rfl)
      (GInv W.heap.size W) (fun _ _ _ => False) (ginv_own _ _ _ (Nat.le_refl _) (by simp)) (fun _ _ _ _ _ hs _ _ => hs) ⟨⟨_, bG, World.ownsRow_nil _ _ _ _, trivial⟩, hb7⟩ ?a2A ?assign2A ?body2A ?done2A ?stop2A
    case assign2A =>
      intro l x W1 K hK
      gi_wp2
      exact hK
    case body2A =>
      rintro l pre x W1 ⟨⟨v, hv, hrow, _⟩, hB1⟩ hlt
      have hc := hv.cell
      have hw2 := ((boxed_later g2 hB1).cell)
      have hsz1 := hB1.size
      have hcmp : (pre.length : Int) + 1 ≤ (nw : Int) := by have := HNW.out; omega
      have hpn : pre.length ≤ 17592186044400 := by omega
      clear bG hb7 hN hX hrowW hrow5
      gi_wp2_with (gi_at_builtin; refine wpListIn_append_own _ rfl _ _ 23 rfl W.heap.size 25 i0 (.int .u64 0) 1 8 Try.underlying23 hi hz0 hz1 hz2 rfl (by decide) _ _ _ rfl (hrow.alloc _) ⟨W1.heap.size, 0, none⟩ 1 1 [.int .u64 (x.val : Nat)] rfl rfl (cell_one_new _ _ _) (by simp [Value.oneCell']) (by unfold maxLen; omega) (by omega) (by simp; omega) ?_; intro v' w1 hown' hgrow _; obtain ⟨g', cap', rfl⟩ := ownsRow_succ hown'; obtain ⟨hv1, hv2, hr2, hk2, hb2⟩ := hv.appended (by decide) hrow hsz1 (Nat.le_refl _) hown' hgrow; have hc1 := hv1.cell; have hf1 := hv1.frozen; have hw3 := (hb2.cell (p := ⟨w3.heap.size, 0, none⟩) hl2).trans hw2; have hc2 := hv2.cell)
      exact ⟨hk2, hb2, ⟨_, hv2, by rw [labs_snoc, show (pre ++ [x]).length = pre.length + 1 by simp]; exact hr2, trivial⟩, hB1.trans hb2⟩
    case done2A =>
      rintro D2 ys W2 hD2 hS2 ⟨⟨v, hv, hro, _⟩, hB2⟩ hK2
      obtain ⟨pg, cg, rfl⟩ := own_slice hro
      have hD0 : D0 < W.heap.size := (Array.getElem?_eq_some_iff.1 hK).1
      have hK0 : W2.heap[D0]? = some (.deferred (some [])) := (hB2.block D0 hD0).trans hK
      have hyl : ys.length = (betw a b).length := by rw [← hS2]; unfold valsOf; rw [List.length_map]
      have hlabs : labsOf ys = nums .u64 ((betw a b).map fun x : Nat => (x : Int)) := by
        rw [← hS2]; unfold labsOf nums valsOf; rw [List.map_map, List.map_map]; rfl
      rw [hlabs] at hro
      have hrg := nums_row' hro
      have hbig : Below w.heap.size w W2 := hB5.out.trans ((hB.trans (hB2.mono hB.size)).mono hB5.out.size)
      have h1' := boxed_later g1 hB2
      have k1 := h1'.cell
      have f1 := h1'.frozen
      have k2 := (boxed_later g2 hB2).cell
      have kG := hv.cell
      have cL := labels_any W2 pg pw ys.length nw cg cw _ hrg (hrowW.later hB2) (by rw [List.length_map, hyl]) (by rw [List.length_map, HNW.out]) (by rw [List.length_map]; omega)
      have HBIG := Lib.hid hbig
      clear hyl hlabs hrg h1' hv hro hX hrowW hrow5 hb7 hbig g1 g2 bG hS2
      gi_wp2
      refine ⟨trivial, (callsIn_wide.2 cL).mono ?_⟩
      rintro e W3 ⟨rfl, hb3⟩
      have k1' := (hb3.cell (p := ⟨w.heap.size + 1, 0, none⟩) (World.block_lt_of_cell? W2 _ k1)).trans k1
      have f1' := (hb3.frozen (p := ⟨w.heap.size + 1, 0, none⟩) (World.block_lt_of_cell? W2 _ k1)).trans f1
      have hbig3 := HBIG.out.trans (hb3.mono HBIG.out.size)
      have j2 := (hb3.block D2 (Array.getElem?_eq_some_iff.1 hK2).1).trans hK2
      have j0 := (hb3.block D0 (Array.getElem?_eq_some_iff.1 hK0).1).trans hK0
      clear cL hb3 HBIG
      gi_wp2
      have i2 := (KeepsOthers.setCell W3 ⟨w.heap.size + 1, 0, none⟩ (.bool true)).same D2 _ j2 rfl
      have i0 := (KeepsOthers.setCell W3 ⟨w.heap.size + 1, 0, none⟩ (.bool true)).same D0 _ j0 rfl
      have hwW : w.heap.size ≤ W.heap.size := by omega
      have hD2' : W.heap.size < D2 := by have h := hD2; rw [World.size_alloc] at h; omega
      have hD0' : w5.heap.size < D0 := by have h := hD; rw [World.size_alloc] at h; omega
      have h5 := hB5.out.size
      have hdD : D0 ≠ D2 := by omega
      have m0 : ((W3.setCell ⟨w.heap.size + 1, 0, none⟩ (.bool true)).putObj D2 (.deferred none)).heap[D0]? = some (.deferred (some [])) := (World.putObj_heap_other hdD).trans i0
      have kc := World.cell?_setCell_same' W3 ⟨w.heap.size + 1, 0, none⟩ (.bool true) (by rw [k1']; rfl)
      have kc2 := cell_kept kc (grownBy_putObj' _ D2 (.deferred none)) (fun r e => by cases e; exact ⟨_, i2, rfl⟩)
      have kc3 := cell_kept kc2 (grownBy_putObj' _ D0 (.deferred none)) (fun r e => by cases e; exact ⟨_, m0, rfl⟩)
      have hbe := hbig3.setCell (p := ⟨w.heap.size + 1, 0, none⟩) (by simp) (.bool true)
      have hbe2 := hbe.trans (belowK_b (w := w) (Nat.le_refl _) _ D2 _ (.deferred none) (by omega) i2 rfl rfl)
      have hbe3 := hbe2.trans (belowK_b (w := w) (Nat.le_refl _) _ D0 _ (.deferred none) (by omega) m0 rfl rfl)
      refine ⟨by simp, .inl ⟨_, _, rfl, run_takeDeferred i2, ?_⟩⟩
      refine ⟨by simp, .inl ⟨_, _, rfl, run_takeDeferred m0, ?_⟩⟩
      refine ⟨.bool true, ?_, rfl, hbe3⟩
      simp [results, Try.f4, go_sem, kc3]
    case stop2A =>
      rintro D c pre W1 _ _ h _
      exact h.elim
  case stop =>
    rintro D0 c0 xs0 W hD hS ⟨rfl, hB⟩ hK
    clear bM hb6 hS
    gi_wp2
    have hsW := hB.size
    have g1 := boxed_later G1.out hB
    have g2 := boxed_later G2.out hB
    have hX := HX.out.later hB
    have hrowW := hrow5.later hB
    have hl1 : w.heap.size + 1 < W.heap.size := g1.lt
    have hl2 : w3.heap.size < W.heap.size := g2.lt
    have hlx := hX.lt
    have bG := Boxed.new W 23 (.slice none 0 0)
    have hb7 : Below W.heap.size W (W.alloc (.cells #[.slice none 0 0] 23)) := (Below.refl _ _).alloc (Nat.le_refl _) _
    refine wpIn_rangeFunc_ownF rfl (by decide) (gf := 23) (lb := #[.pointer (some ⟨BB, 0, none⟩), .pointer (some ⟨BB + 1, 0, none⟩), .pointer (some ⟨BB + 2, 0, none⟩)]) rfl trivial (enters_of Try.func23 (by kernel_rfl) rfl)
      (between_stops 2 (by decide) BB W.heap.size a b ha hb _ (hX.later hb7) hlx) belowK_t (belowK_b (by simp)) (Below.refl _ _) (fun _ => rfl)
      (GInv W.heap.size W) (fun _ _ _ => False) (ginv_own _ _ _ (Nat.le_refl _) (by simp)) (fun _ _ _ _ _ hs _ _ => hs) ⟨⟨_, bG, World.ownsRow_nil _ _ _ _, trivial⟩, hb7⟩ ?a2B ?assign2B ?body2B ?done2B ?stop2B
    case assign2B =>
      intro l x W1 K hK
      gi_wp2
      exact hK
    case body2B =>
      rintro l pre x W1 ⟨⟨v, hv, hrow, _⟩, hB1⟩ hlt
      have hc := hv.cell
      have hw2 := ((boxed_later g2 hB1).cell)
      have hsz1 := hB1.size
      have hcmp : (pre.length : Int) + 1 ≤ (nw : Int) := by have := HNW.out; omega
      have hpn : pre.length ≤ 17592186044400 := by omega
      clear bG hb7 hN hX hrowW hrow5
      gi_wp2_with (gi_at_builtin; refine wpListIn_append_own _ rfl _ _ 23 rfl W.heap.size 25 i0 (.int .u64 0) 1 8 Try.underlying23 hi hz0 hz1 hz2 rfl (by decide) _ _ _ rfl (hrow.alloc _) ⟨W1.heap.size, 0, none⟩ 1 1 [.int .u64 (x.val : Nat)] rfl rfl (cell_one_new _ _ _) (by simp [Value.oneCell']) (by unfold maxLen; omega) (by omega) (by simp; omega) ?_; intro v' w1 hown' hgrow _; obtain ⟨g', cap', rfl⟩ := ownsRow_succ hown'; obtain ⟨hv1, hv2, hr2, hk2, hb2⟩ := hv.appended (by decide) hrow hsz1 (Nat.le_refl _) hown' hgrow; have hc1 := hv1.cell; have hf1 := hv1.frozen; have hw3 := (hb2.cell (p := ⟨w3.heap.size, 0, none⟩) hl2).trans hw2; have hc2 := hv2.cell)
      exact ⟨hk2, hb2, ⟨_, hv2, by rw [labs_snoc, show (pre ++ [x]).length = pre.length + 1 by simp]; exact hr2, trivial⟩, hB1.trans hb2⟩
    case done2B =>
      rintro D2 ys W2 hD2 hS2 ⟨⟨v, hv, hro, _⟩, hB2⟩ hK2
      obtain ⟨pg, cg, rfl⟩ := own_slice hro
      have hD0 : D0 < W.heap.size := (Array.getElem?_eq_some_iff.1 hK).1
      have hK0 : W2.heap[D0]? = some (.deferred (some [])) := (hB2.block D0 hD0).trans hK
      have hyl : ys.length = (betw a b).length := by rw [← hS2]; unfold valsOf; rw [List.length_map]
      have hlabs : labsOf ys = nums .u64 ((betw a b).map fun x : Nat => (x : Int)) := by
        rw [← hS2]; unfold labsOf nums valsOf; rw [List.map_map, List.map_map]; rfl
      rw [hlabs] at hro
      have hrg := nums_row' hro
      have hbig : Below w.heap.size w W2 := hB5.out.trans ((hB.trans (hB2.mono hB.size)).mono hB5.out.size)
      have h1' := boxed_later g1 hB2
      have k1 := h1'.cell
      have f1 := h1'.frozen
      have k2 := (boxed_later g2 hB2).cell
      have kG := hv.cell
      have cL := labels_any W2 pg pw ys.length nw cg cw _ hrg (hrowW.later hB2) (by rw [List.length_map, hyl]) (by rw [List.length_map, HNW.out]) (by rw [List.length_map]; omega)
      have HBIG := Lib.hid hbig
      clear hyl hlabs hrg h1' hv hro hX hrowW hrow5 hb7 hbig g1 g2 bG hS2
      gi_wp2
      refine ⟨trivial, (callsIn_wide.2 cL).mono ?_⟩
      rintro e W3 ⟨rfl, hb3⟩
      have k1' := (hb3.cell (p := ⟨w.heap.size + 1, 0, none⟩) (World.block_lt_of_cell? W2 _ k1)).trans k1
      have f1' := (hb3.frozen (p := ⟨w.heap.size + 1, 0, none⟩) (World.block_lt_of_cell? W2 _ k1)).trans f1
      have hbig3 := HBIG.out.trans (hb3.mono HBIG.out.size)
      have j2 := (hb3.block D2 (Array.getElem?_eq_some_iff.1 hK2).1).trans hK2
      have j0 := (hb3.block D0 (Array.getElem?_eq_some_iff.1 hK0).1).trans hK0
      clear cL hb3 HBIG
      gi_wp2
      have i2 := (KeepsOthers.setCell W3 ⟨w.heap.size + 1, 0, none⟩ (.bool true)).same D2 _ j2 rfl
      have i0 := (KeepsOthers.setCell W3 ⟨w.heap.size + 1, 0, none⟩ (.bool true)).same D0 _ j0 rfl
      have hwW : w.heap.size ≤ W.heap.size := by omega
      have hD2' : W.heap.size < D2 := by have h := hD2; rw [World.size_alloc] at h; omega
      have hD0' : w5.heap.size < D0 := by have h := hD; rw [World.size_alloc] at h; omega
      have h5 := hB5.out.size
      have hdD : D0 ≠ D2 := by omega
      have m0 : ((W3.setCell ⟨w.heap.size + 1, 0, none⟩ (.bool true)).putObj D2 (.deferred none)).heap[D0]? = some (.deferred (some [])) := (World.putObj_heap_other hdD).trans i0
      have kc := World.cell?_setCell_same' W3 ⟨w.heap.size + 1, 0, none⟩ (.bool true) (by rw [k1']; rfl)
      have kc2 := cell_kept kc (grownBy_putObj' _ D2 (.deferred none)) (fun r e => by cases e; exact ⟨_, i2, rfl⟩)
      have kc3 := cell_kept kc2 (grownBy_putObj' _ D0 (.deferred none)) (fun r e => by cases e; exact ⟨_, m0, rfl⟩)
      have hbe := hbig3.setCell (p := ⟨w.heap.size + 1, 0, none⟩) (by simp) (.bool true)
      have hbe2 := hbe.trans (belowK_b (w := w) (Nat.le_refl _) _ D2 _ (.deferred none) (by omega) i2 rfl rfl)
      have hbe3 := hbe2.trans (belowK_b (w := w) (Nat.le_refl _) _ D0 _ (.deferred none) (by omega) m0 rfl rfl)
      refine ⟨by simp, .inl ⟨_, _, rfl, run_takeDeferred i2, ?_⟩⟩
      refine ⟨by simp, .inl ⟨_, _, rfl, run_takeDeferred m0, ?_⟩⟩
      refine ⟨.bool true, ?_, rfl, hbe3⟩
      simp [results, Try.f4, go_sem, kc3]
    case stop2B =>
      rintro D c pre W1 _ _ h _
      exact h.elim
theorem labelBetween_any (a b : Nat) (leave : Int) (w : World) (ha : a < 18446744073709551616) (hb : b < 18446744073709551616) :
    Calls Try.prog 4 #[.int .u64 a, .int .u64 b, .int .i64 leave] w fun e w' => e = .returned (.bool true) ∧ Below w.heap.size w w' := by
  by_cases h : cnt (lessN b a) ≤ 16
  · exact labelBetween_ok a b leave w ha hb h
  · exact labelBetween_big a b leave w ha hb (by omega)
end Go.Proofs.Ytglpkadpohbfmaa
