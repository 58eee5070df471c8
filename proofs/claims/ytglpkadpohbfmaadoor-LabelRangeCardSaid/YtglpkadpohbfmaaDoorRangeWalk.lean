/- The law LabelRange by a walk over the contracts. -/
import Derived.RangeFuncFrom
import Derived.RangeFuncBox
import Derived.Test.YtglpkadpohbfmaaDoorLbIter
import Derived.Test.YtglpkadpohbfmaaDoorAwake
import Derived.Test.YtglpkadpohbfmaaDoorLbBoth
import Derived.Test.YtglpkadpohbfmaaDoorFuncNil
namespace Go.Proofs.YtglpkadpohbfmaaDoor
open Go.RowKit Go.Shelf

attribute [local go_sem] Oper.semAt_some

theorem boxed_later {W W' : World} {B : Nat} {t : TypeId} {v : Value} (h : Boxed W B t v) (hb : Below W.heap.size W W') : Boxed W' B t v := (hb.block B h.lt).trans h

/-- Labels between two, rising. -/
def Good (a b : Nat) (l : List Nat) : Prop := (∀ x ∈ l, belowB a x = true ∧ belowB x b = true) ∧ l.Pairwise (· < ·)

theorem not_rise (a b : Nat) (l : List Nat) (x : Nat) (h0 : 0 < l.length) (h : x ≤ l.getLastD 0) : ¬ Good a b (l ++ [x]) := by
  intro hg
  have h1 := List.pairwise_append.1 hg.2
  have hne : l ≠ [] := by intro e; rw [e] at h0; exact absurd h0 (Nat.lt_irrefl _)
  have h2 : l.getLastD 0 = l.getLast hne := by rw [List.getLastD_eq_getLast?, List.getLast?_eq_some_getLast hne]; rfl
  have h3 := h1.2.2 (l.getLast hne) (List.getLast_mem hne) x (by simp)
  rw [h2] at h
  omega
theorem good_betw (a b : Nat) (ha : a < 18446744073709551616) (hb : b < 18446744073709551616) : Good a b (betw a b) := by
  cases h : belowB a b
  · rw [betw_none a b h]
    exact ⟨fun x hx => (by cases hx), List.Pairwise.nil⟩
  · unfold betw
    rw [if_pos h]
    refine ⟨fun x hx => ?_, ?_⟩
    · obtain ⟨j, _, rfl⟩ := List.mem_map.1 hx
      exact ⟨betw_low a b j, betw_high a b j ha hb h⟩
    · rw [List.pairwise_map]
      refine List.Pairwise.imp_of_mem ?_ List.pairwise_lt_range
      intro i j hi hj hij
      exact betw_rise a b i j ha hb hij (List.mem_range.1 hj)
theorem good_prefix {a b : Nat} {l m : List Nat} (hp : l <+: m) (h : Good a b m) : Good a b l :=
  ⟨fun x hx => h.1 x (hp.subset hx), List.Pairwise.sublist hp.sublist h.2⟩
theorem pow_eq (n : Nat) (h : n ≤ 16) : ((2 : Int) ^ n == wrap64 (2 ^ n)) = true := by
  have e : ((2 : Int) ^ n) = ((2 ^ n : Nat) : Int) := (Int.natCast_pow 2 n).symm
  have h2 : 2 ^ n ≤ 65536 := Nat.pow_le_pow_right (by decide : 2 > 0) h
  rw [e, beq_iff_eq]
  generalize 2 ^ n = p at *
  unfold wrap64
  omega
theorem betw_max (a b : Nat) (h : cnt (lessN b a) ≤ 16) : (betw a b).length ≤ 65536 := by
  cases hb : belowB a b
  · rw [betw_none a b hb]; decide
  · rw [betw_len a b hb]
    exact Nat.pow_le_pow_right (by decide : 2 > 0) h

/-- Between two rounds: the result's box, both ends, how many, the last one. -/
def RInv (R M : Nat) (w : World) (a b : Nat) (pre : List Nat64) (W : World) : Prop :=
  (Boxed W R 4 (.bool false) ∧ Boxed W (R + 1) 24 (.int .u64 a) ∧ Boxed W (R + 1 + 1) 24 (.int .u64 b) ∧ Boxed W M 3 (.int .i64 pre.length) ∧ Boxed W (M + 1) 24 (.int .u64 ((valsOf pre).getLastD 0 : Nat))) ∧ Below w.heap.size w W
theorem rinv_own (M B : Nat) (w : World) (a b : Nat) (h : w.heap.size ≤ B) : OwnFrom B (RInv w.heap.size M w a b) :=
  OwnFrom.and (Own.from (fun s A B row hs hg hr => ⟨boxed_own _ _ (fun _ => _) s A B row hs.1 hg hr, boxed_own _ _ (fun _ => _) s A B row hs.2.1 hg hr, boxed_own _ _ (fun _ => _) s A B row hs.2.2.1 hg hr, boxed_own _ _ (fun _ => _) s A B row hs.2.2.2.1 hg hr, boxed_own _ _ (fun _ => _) s A B row hs.2.2.2.2 hg hr⟩) _) (ownFrom_below (Nat.le_refl _) h)
theorem rinv_next {R M : Nat} {w : World} {a b : Nat} {pre : List Nat64} {W : World} (x : Nat64) (m : Nat) (hm : pre.length = m) (hR : R = w.heap.size) (hM : R + 2 < M) (h : RInv R M w a b pre W) :
    RInv R M w a b (pre ++ [x]) ((W.setCell ⟨M, 0, none⟩ (.int .i64 ((m : Int) + 1))).setCell ⟨M + 1, 0, none⟩ (.int .u64 (x.val : Nat))) := by
  obtain ⟨⟨h0, h1, h2, h3, h4⟩, hB⟩ := h
  have el : ((pre ++ [x]).length : Int) = (m : Int) + 1 := by simp; omega
  have ev : (valsOf (pre ++ [x])).getLastD 0 = x.val := by rw [valsOf_snoc]; simp
  unfold RInv
  rw [el, ev]
  exact ⟨⟨(h0.other (by omega) _).other (by omega) _, (h1.other (by omega) _).other (by omega) _, (h2.other (by omega) _).other (by omega) _, (h3.set _).other (by omega) _, (h4.other (by omega) _).set _⟩,
    (hB.setCell (p := ⟨M, 0, none⟩) (by show w.heap.size ≤ M; omega) _).setCell (p := ⟨M + 1, 0, none⟩) (by show w.heap.size ≤ M + 1; omega) _⟩
def RBad (w : World) (a b : Nat) (c : Code) (pre : List Nat64) (W : World) : Prop := (c = .ret ∧ ¬ Good a b (valsOf pre)) ∧ Below w.heap.size w W
theorem rbad_own (w : World) (a b B : Nat) (c : Code) (h : w.heap.size ≤ B) : OwnFrom B (RBad w a b c) := OwnFrom.and (ownFrom_pure _ _) (ownFrom_below (Nat.le_refl _) h)

set_option maxRecDepth 100000 in
set_option maxHeartbeats 4000000 in
theorem labelRange_ok (a b : Nat) (w : World) (ha : a < 18446744073709551616) (hb : b < 18446744073709551616) (hT : BTab w) (hle : cnt (lessN b a) ≤ 16) :
    Calls Tryd.prog 9 #[.int .u64 a, .int .u64 b] w fun e w' => e = .returned (.bool true) ∧ Below w.heap.size w w' := by
  have hB0 : Below w.heap.size w (((w.alloc (.cells #[.bool false] 4)).alloc (.cells #[.int .u64 a] 24)).alloc (.cells #[.int .u64 b] 24)) := (((Below.refl _ _).alloc (Nat.le_refl _) _).alloc (by simp) _).alloc (by simp; omega) _
  have c0 := ((Boxed.new w 4 (.bool false)).alloc (.cells #[.int .u64 a] 24)).alloc (.cells #[.int .u64 b] 24)
  have c1 := (Boxed.new (w.alloc (.cells #[.bool false] 4)) 24 (.int .u64 a)).alloc (.cells #[.int .u64 b] 24)
  have c2 := Boxed.new ((w.alloc (.cells #[.bool false] 4)).alloc (.cells #[.int .u64 a] 24)) 24 (.int .u64 b)
  simp only [World.size_alloc] at c1 c2
  have cA := awake_any _ (hT.below hB0)
  refine (callsIn_wide (n := 3)).1 ?_
  refine callsIn_of_wp_marks Tryd.func9 rfl trivial ?_ rfl
  simp only [Tryd.ntmps9, List.size_toArray, List.length_cons, List.length_nil, Nat.reduceAdd, Nat.reduceSub, Array.replicate_succ, Array.replicate_zero, List.push_toArray, List.append_toArray, List.nil_append, List.cons_append]
  have H0 := Lib.hid c0; have H1 := Lib.hid c1; have H2 := Lib.hid c2; have HB0 := Lib.hid hB0
  clear c0 c1 c2 hB0
  gi_wp2
  refine ⟨trivial, (callsIn_wide.2 cA).mono ?_⟩
  rintro e w1 ⟨rfl, hb1⟩
  have g0 := boxed_later H0.out hb1
  have g1 := boxed_later H1.out hb1
  have g2 := boxed_later H2.out hb1
  have hbw1 := HB0.out.trans (hb1.mono HB0.out.size)
  have hs1 := hb1.size
  simp only [World.size_alloc] at hs1
  have k1 := g1.cell
  have k2 := g2.cell
  have G0 := Lib.hid g0; have G1 := Lib.hid g1; have G2 := Lib.hid g2
  clear cA hb1 g0 g1 g2 H0 H1 H2 HB0
  gi_wp2
  refine ⟨trivial, (callsIn_wide.2 (between_ok a b w1 ha hb hle)).mono ?_⟩
  rintro e w2 ⟨rfl, hBx, hb2⟩
  have g0 := boxed_later G0.out hb2
  have g1 := boxed_later G1.out hb2
  have g2 := boxed_later G2.out hb2
  have hbw2 := hbw1.trans (hb2.mono hbw1.size)
  clear k1 k2
  have hs2 := hb2.size
  have k1 := g1.cell
  have k2 := g2.cell
  have G0 := Lib.hid g0; have G1 := Lib.hid g1; have G2 := Lib.hid g2
  have HX := Lib.hid hBx
  have hlt2 := hBx.lt
  have hfn := seq_nil 38 #[.pointer (some ⟨w1.heap.size, 0, none⟩), .pointer (some ⟨w1.heap.size + 1, 0, none⟩), .pointer (some ⟨w1.heap.size + 2, 0, none⟩)]
  have cC := fun W => count_any (lessN b a) W (less_lt b a hb)
  have hn16 : ((cnt (lessN b a) : Nat) : Int) ≤ 16 := by omega
  have hn0 : (0 : Int) ≤ ((cnt (lessN b a) : Nat) : Int) := Int.natCast_nonneg _
  clear hb2 g0 g1 g2 hBx hbw1
  gi_wp2_with (first
    | (refine ⟨trivial, ?_⟩; gi_at_call 21; refine (callsIn_wide.2 (less_any _ _ _ (by assumption) (by assumption))).mono ?_; rintro e w' ⟨rfl, rfl⟩)
    | (refine ⟨trivial, ?_⟩; gi_at_call 15; refine (callsIn_wide.2 (cC _)).mono ?_; rintro e w' ⟨rfl, rfl⟩))
  have cB : Calls Tryd.prog 19 #[.int .u64 b, .int .u64 a, .int .i64 3] w2 fun e w' => e = .returned (.int .u64 (lessN b a : Nat)) ∧ Below w2.heap.size w2 w' := by
    have h := refBoth_any b a 3 w2 hb ha (.inr (.inr rfl))
    rw [both_less b a hb ha] at h
    exact h
  refine ⟨trivial, (callsIn_wide.2 cB).mono ?_⟩
  rintro e w3 ⟨rfl, hb3⟩
  clear cB
  gi_wp2
  refine ⟨trivial, (callsIn_wide.2 (refList_any (lessN b a) w3 (less_lt b a hb))).mono ?_⟩
  rintro e w4 ⟨pl, cl, rfl, hb4, hrr⟩
  clear hrr
  have hb24 := hb3.trans (hb4.mono hb3.size)
  have g0 := boxed_later G0.out hb24
  have g1 := boxed_later G1.out hb24
  have g2 := boxed_later G2.out hb24
  have hX4 := HX.out.later hb24
  have hbw4 := hbw2.trans (hb24.mono hbw2.size)
  have hs4 := hb24.size
  have hcnt : (listTo (lessN b a) 64).length = cnt (lessN b a) := rfl
  rw [hcnt]
  clear k1 k2
  have hne : (((cnt (lessN b a) : Nat) : Int) != ((cnt (lessN b a) : Nat) : Int)) = false := by simp
  have k1 := g1.cell
  have k2 := g2.cell
  have HC := Lib.hid hcnt
  clear hcnt hb3 hb4 hb24 HX hbw2
  gi_wp2
  have bM := Boxed.new w4 3 (.int .i64 0)
  have bL := Boxed.new (w4.alloc (.cells #[.int .i64 0] 3)) 24 (.int .u64 0)
  rw [World.size_alloc] at bL
  have hB5 : Below w.heap.size w ((w4.alloc (.cells #[.int .i64 0] 3)).alloc (.cells #[.int .u64 0] 24)) := (hbw4.alloc hbw4.size _).alloc (by have := hbw4.size; simp; omega) _
  refine wpIn_rangeFunc_ownF rfl (by decide) (gf := 38) (lb := #[.pointer (some ⟨w1.heap.size, 0, none⟩), .pointer (some ⟨w1.heap.size + 1, 0, none⟩), .pointer (some ⟨w1.heap.size + 2, 0, none⟩)]) rfl trivial (enters_of Tryd.func38 (by kernel_rfl) rfl)
    (between_stops 2 (by decide) w1.heap.size w4.heap.size a b ha hb _ ((hX4.later ((Below.refl _ _).alloc (Nat.le_refl _) _)).later ((Below.refl _ _).alloc (Nat.le_refl _) _)) (by omega)) belowK_t (belowK_b (by simp; omega)) (Below.refl _ _) (fun _ => rfl)
    (RInv w.heap.size w4.heap.size w a b)
    (RBad w a b)
    (rinv_own _ _ _ _ _ (by simp; omega))
    (fun c => rbad_own _ _ _ _ _ (by simp; omega))
    ⟨⟨(g0.alloc _).alloc _, (g1.alloc _).alloc _, (g2.alloc _).alloc _, bM.alloc _, bL⟩, hB5⟩
    ?a1 ?assign ?body ?done ?stop
  case assign =>
    intro l x W K hK
    gi_wp2
    exact hK
  case body =>
    rintro l pre x W hI hlt
    have HI := Lib.hid hI
    obtain ⟨⟨b0, b1, b2, bM2, bL2⟩, hB⟩ := hI
    clear k1 k2 bM bL hB5 hne hfn cC hn16 hn0 hbw4 G0 G1 G2
    have hbl := betw_max a b hle
    have hxl := x.lt
    have k0 := b0.cell; have k1 := b1.cell; have k2 := b2.cell; have kM := bM2.cell; have kL := bL2.cell
    have f0 := b0.frozen; have fM := bM2.frozen; have fL := bL2.frozen
    have hpn : pre.length ≤ 17592186044416 := by omega
    have hp0 : (0 : Int) ≤ (pre.length : Int) := Int.natCast_nonneg _
    clear b0 b1 b2 bM2 bL2 g0 g1 g2 hX4 hlt hbl
    have HBAD : ∀ (h : ¬ Good a b (valsOf pre ++ [x.val])), Hid (¬ Good a b (valsOf (pre ++ [x]))) := fun h => by
      show ¬ _
      rw [valsOf_snoc]; exact h
    have HGD := Lib.hid (not_rise a b (valsOf pre) x.val)
    have hvl : (valsOf pre).length = pre.length := by unfold valsOf; rw [List.length_map]
    have HVL := Lib.hid hvl
    clear hvl
    generalize (valsOf pre).getLastD 0 = la at *
    obtain ⟨m, hm⟩ : ∃ m, pre.length = m := ⟨_, rfl⟩
    rw [hm] at hpn hp0 kM
    have HGO := Lib.hid (rinv_next x m hm rfl (by omega) HI.out)
    clear HI
    have HMM := Lib.hid hm
    clear hm
    cases h1 : belowB a x.val
    · have BAD := HBAD fun hg => by have := (hg.1 x.val (by simp)).1; rw [h1] at this; cases this
      clear HBAD HGD HGO
      gi_wp2_with (first | (refine ⟨trivial, ?_⟩; gi_at_call 16; refine (CallsIn.inRound l (callsIn_wide.2 (below_any _ _ _ (by assumption) (by assumption)))).mono ?_; rintro e w' ⟨rfl, rfl⟩) | (refine ⟨trivial, ?_⟩))
      exact ⟨KeepsOthers.setCell _ _ _, ⟨rfl, BAD.out⟩, hB.setCell (p := ⟨w.heap.size, 0, none⟩) (Nat.le_refl _) _⟩
    · cases h2 : belowB x.val b
      · have BAD := HBAD fun hg => by have := (hg.1 x.val (by simp)).2; rw [h2] at this; cases this
        clear HBAD HGD HGO
        gi_wp2
        refine ⟨trivial, (CallsIn.inRound l (callsIn_wide.2 (below_any _ _ _ ha hxl))).mono ?_⟩
        rintro e w' ⟨rfl, rfl⟩
        rw [h1]
        gi_wp2
        refine ⟨trivial, (CallsIn.inRound l (callsIn_wide.2 (below_any _ _ _ hxl hb))).mono ?_⟩
        rintro e w' ⟨rfl, rfl⟩
        rw [h2]
        gi_wp2
        exact ⟨KeepsOthers.setCell _ _ _, ⟨rfl, BAD.out⟩, hB.setCell (p := ⟨w.heap.size, 0, none⟩) (Nat.le_refl _) _⟩
      · by_cases h3 : m = 0
        · have hz : ¬ (0 : Int) < (m : Int) := by omega
          have GO := HGO
          clear HBAD HGD HGO h3
          gi_wp2
          refine ⟨trivial, (CallsIn.inRound l (callsIn_wide.2 (below_any _ _ _ ha hxl))).mono ?_⟩
          rintro e w' ⟨rfl, rfl⟩
          rw [h1]
          gi_wp2
          refine ⟨trivial, (CallsIn.inRound l (callsIn_wide.2 (below_any _ _ _ hxl hb))).mono ?_⟩
          rintro e w' ⟨rfl, rfl⟩
          rw [h2]
          gi_wp2
          exact ⟨(KeepsOthers.setCell _ _ _).trans (KeepsOthers.setCell _ _ _), ((Below.refl w4.heap.size W).setCell (p := ⟨w4.heap.size, 0, none⟩) (Nat.le_refl _) _).setCell (p := ⟨w4.heap.size + 1, 0, none⟩) (by simp) _, GO.out⟩
        · have hz : (0 : Int) < (m : Int) := by omega
          by_cases h4 : x.val ≤ la
          · have BAD := HBAD (HGD.out (by rw [HVL.out, HMM.out]; omega) h4)
            clear HBAD HGD HGO
            gi_wp2
            refine ⟨trivial, (CallsIn.inRound l (callsIn_wide.2 (below_any _ _ _ ha hxl))).mono ?_⟩
            rintro e w' ⟨rfl, rfl⟩
            rw [h1]
            gi_wp2
            refine ⟨trivial, (CallsIn.inRound l (callsIn_wide.2 (below_any _ _ _ hxl hb))).mono ?_⟩
            rintro e w' ⟨rfl, rfl⟩
            rw [h2]
            gi_wp2
            exact ⟨KeepsOthers.setCell _ _ _, ⟨rfl, BAD.out⟩, hB.setCell (p := ⟨w.heap.size, 0, none⟩) (Nat.le_refl _) _⟩
          · have GO := HGO
            clear HBAD HGD HGO
            gi_wp2
            refine ⟨trivial, (CallsIn.inRound l (callsIn_wide.2 (below_any _ _ _ ha hxl))).mono ?_⟩
            rintro e w' ⟨rfl, rfl⟩
            rw [h1]
            gi_wp2
            refine ⟨trivial, (CallsIn.inRound l (callsIn_wide.2 (below_any _ _ _ hxl hb))).mono ?_⟩
            rintro e w' ⟨rfl, rfl⟩
            rw [h2]
            gi_wp2
            exact ⟨(KeepsOthers.setCell _ _ _).trans (KeepsOthers.setCell _ _ _), ((Below.refl w4.heap.size W).setCell (p := ⟨w4.heap.size, 0, none⟩) (Nat.le_refl _) _).setCell (p := ⟨w4.heap.size + 1, 0, none⟩) (by simp) _, GO.out⟩
  case done =>
    rintro D ys W hD hS hI hK
    obtain ⟨⟨b0, b1, b2, bM2, bL2⟩, hB⟩ := hI
    have k0 := b0.cell; have k1' := b1.cell; have k2' := b2.cell; have kM := bM2.cell
    have f0 := b0.frozen
    have _hBD : Below w.heap.size W (W.putObj D (.deferred none)) := belowK_b (w := w) (Nat.le_refl _) W D _ _ (by simp at hD; omega) hK rfl rfl
    have hyl : ys.length = (betw a b).length := by rw [← hS]; unfold valsOf; rw [List.length_map]
    clear k1 k2 bM bL hB5 hne hfn cC hbw4 G0 G1 G2 b0 b1 b2 bM2 bL2 g0 g1 g2 hX4 hS
    cases hbl : belowB a b
    · rw [hyl, betw_none a b hbl] at kM
      clear hyl
      gi_wp2
      refine ⟨trivial, (callsIn_wide.2 (below_any _ _ _ ha hb)).mono ?_⟩
      rintro e w' ⟨rfl, rfl⟩
      rw [hbl]
      gi_wp2
      have hK' := (KeepsOthers.setCell W ⟨w.heap.size, 0, none⟩ (.bool true)).same D _ hK rfl
      refine ⟨by simp, .inl ⟨_, _, rfl, run_takeDeferred hK', ?_⟩⟩
      have hc5 := cell_kept (World.cell?_setCell_same' W ⟨w.heap.size, 0, none⟩ (.bool true) (by rw [k0]; rfl)) (grownBy_putObj' _ D (.deferred none)) (fun r e => by cases e; exact ⟨_, hK', rfl⟩)
      refine ⟨.bool true, ?_, rfl, (hB.setCell (p := ⟨w.heap.size, 0, none⟩) (Nat.le_refl _) _).trans (belowK_b (w := w) (Nat.le_refl _) _ D _ _ (by simp at hD; omega) hK' rfl rfl)⟩
      simp [results, Tryd.f9, go_sem, hc5]
    · rw [hyl, betw_len a b hbl] at kM
      clear hyl
      gi_wp2
      refine ⟨trivial, (callsIn_wide.2 (below_any _ _ _ ha hb)).mono ?_⟩
      rintro e w' ⟨rfl, rfl⟩
      rw [hbl]
      gi_wp2
      gi_region
      all_goals gi_wp2
      rw [pow_eq _ hle]
      have hK' := (KeepsOthers.setCell W ⟨w.heap.size, 0, none⟩ (.bool true)).same D _ hK rfl
      have hK2 : ((W.setCell ⟨w.heap.size, 0, none⟩ (.bool true)).drew).heap[D]? = some (.deferred (some [])) := hK'
      refine ⟨by simp, .inl ⟨_, _, rfl, run_takeDeferred hK2, ?_⟩⟩
      have hc5 := cell_kept (W := (W.setCell ⟨w.heap.size, 0, none⟩ (.bool true)).drew) (World.cell?_setCell_same' W ⟨w.heap.size, 0, none⟩ (.bool true) (by rw [k0]; rfl)) (grownBy_putObj' _ D (.deferred none)) (fun r e => by cases e; exact ⟨_, hK2, rfl⟩)
      refine ⟨.bool true, ?_, rfl, ((hB.setCell (p := ⟨w.heap.size, 0, none⟩) (Nat.le_refl _) _).drew).trans (belowK_b (w := w) (Nat.le_refl _) _ D _ _ (by simp at hD; omega) hK2 rfl rfl)⟩
      simp [results, Tryd.f9, go_sem, hc5]
  case stop =>
    rintro D c pre W hD hp ⟨⟨rfl, hbad⟩, hB⟩ hK
    exfalso
    apply hbad
    exact good_prefix hp (good_betw a b ha hb)

set_option maxRecDepth 100000 in
set_option maxHeartbeats 4000000 in
theorem labelRange_big (a b : Nat) (w : World) (ha : a < 18446744073709551616) (hb : b < 18446744073709551616) (hT : BTab w) (hle : 16 < cnt (lessN b a)) :
    Calls Tryd.prog 9 #[.int .u64 a, .int .u64 b] w fun e w' => e = .returned (.bool true) ∧ Below w.heap.size w w' := by
  have hB0 : Below w.heap.size w (((w.alloc (.cells #[.bool false] 4)).alloc (.cells #[.int .u64 a] 24)).alloc (.cells #[.int .u64 b] 24)) := (((Below.refl _ _).alloc (Nat.le_refl _) _).alloc (by simp) _).alloc (by simp; omega) _
  have c0 := ((Boxed.new w 4 (.bool false)).alloc (.cells #[.int .u64 a] 24)).alloc (.cells #[.int .u64 b] 24)
  have c1 := (Boxed.new (w.alloc (.cells #[.bool false] 4)) 24 (.int .u64 a)).alloc (.cells #[.int .u64 b] 24)
  have c2 := Boxed.new ((w.alloc (.cells #[.bool false] 4)).alloc (.cells #[.int .u64 a] 24)) 24 (.int .u64 b)
  simp only [World.size_alloc] at c1 c2
  have cA := awake_any _ (hT.below hB0)
  refine (callsIn_wide (n := 3)).1 ?_
  refine callsIn_of_wp_marks Tryd.func9 rfl trivial ?_ rfl
  simp only [Tryd.ntmps9, List.size_toArray, List.length_cons, List.length_nil, Nat.reduceAdd, Nat.reduceSub, Array.replicate_succ, Array.replicate_zero, List.push_toArray, List.append_toArray, List.nil_append, List.cons_append]
  have H0 := Lib.hid c0; have H1 := Lib.hid c1; have H2 := Lib.hid c2; have HB0 := Lib.hid hB0
  clear c0 c1 c2 hB0
  gi_wp2
  refine ⟨trivial, (callsIn_wide.2 cA).mono ?_⟩
  rintro e w1 ⟨rfl, hb1⟩
  have g0 := boxed_later H0.out hb1
  have g1 := boxed_later H1.out hb1
  have g2 := boxed_later H2.out hb1
  have hbw1 := HB0.out.trans (hb1.mono HB0.out.size)
  have k1 := g1.cell
  have k2 := g2.cell
  have G0 := Lib.hid g0; have G1 := Lib.hid g1; have G2 := Lib.hid g2
  clear cA hb1 g0 g1 g2 H0 H1 H2 HB0
  gi_wp2
  refine ⟨trivial, (callsIn_wide.2 (between_big a b w1 ha hb hle)).mono ?_⟩
  rintro e w2 ⟨rfl, hb2⟩
  have g0 := boxed_later G0.out hb2
  have g1 := boxed_later G1.out hb2
  have g2 := boxed_later G2.out hb2
  have hbw2 := hbw1.trans (hb2.mono hbw1.size)
  clear k1 k2
  have k0 := g0.cell
  have f0 := g0.frozen
  have k1 := g1.cell
  have k2 := g2.cell
  have cC := fun W => count_any (lessN b a) W (less_lt b a hb)
  have hn16 : (16 : Int) < ((cnt (lessN b a) : Nat) : Int) := by omega
  clear hb2 g0 g1 g2 hbw1 G0 G1 G2
  gi_wp2_with (first
    | (refine ⟨trivial, ?_⟩; gi_at_call 21; refine (callsIn_wide.2 (less_any _ _ _ (by assumption) (by assumption))).mono ?_; rintro e w' ⟨rfl, rfl⟩)
    | (refine ⟨trivial, ?_⟩; gi_at_call 15; refine (callsIn_wide.2 (cC _)).mono ?_; rintro e w' ⟨rfl, rfl⟩))
  have hc5 := World.cell?_setCell_same' w2 ⟨w.heap.size, 0, none⟩ (.bool true) (by rw [k0]; rfl)
  refine ⟨.bool true, ?_, rfl, hbw2.setCell (p := ⟨w.heap.size, 0, none⟩) (Nat.le_refl _) _⟩
  simp [results, Tryd.f9, go_sem, hc5]
theorem labelRange_any (a b : Nat) (w : World) (ha : a < 18446744073709551616) (hb : b < 18446744073709551616) (hT : BTab w) :
    Calls Tryd.prog 9 #[.int .u64 a, .int .u64 b] w fun e w' => e = .returned (.bool true) ∧ Below w.heap.size w w' := by
  by_cases h : cnt (lessN b a) ≤ 16
  · exact labelRange_ok a b w ha hb hT h
  · exact labelRange_big a b w ha hb hT (by omega)
end Go.Proofs.YtglpkadpohbfmaaDoor
