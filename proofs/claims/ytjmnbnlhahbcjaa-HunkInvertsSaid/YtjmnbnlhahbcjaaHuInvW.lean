/- hunk.Invert: the walk. -/
import Derived.Test.YtjmnbnlhahbcjaaHuInv
namespace Go.Proofs.Ytjmnbnlhahbcjaa
open Go Go.RowKit

theorem Good.of_may' {hs : List Hu} (h : ¬ may 0 hs < hs.length) : Good 0 hs := (good_may 0 hs).1 (by have := may_le 0 hs; omega)
theorem zero3_at : ∀ (n i : Nat), i < n * 3 → (zero3 n)[i]? = some ((#[Value.int .i64 0, .slice none 0 0, .slice none 0 0] : Array Value)[i % 3]!)
  | 0, i, h => by omega
  | n + 1, 0, _ => rfl
  | n + 1, 1, _ => rfl
  | n + 1, 2, _ => rfl
  | n + 1, i + 3, h => by
    have := zero3_at n i (by omega)
    rw [show (i + 3) % 3 = i % 3 by omega, ← this]
    rfl
theorem made_zero3 (n : Nat) : (madeCells #[Value.int .i64 0, .slice none 0 0, .slice none 0 0] (n * 3)).toList = zero3 n := by
  apply List.ext_getElem?
  intro i
  unfold madeCells
  rw [Array.getElem?_toList]
  by_cases h : i < n * 3
  · rw [zero3_at n i h]
    simp [h]
  · rw [List.getElem?_eq_none (by rw [zero3_len]; omega), Array.getElem?_eq_none (by simp; omega)]
set_option maxRecDepth 100000 in
set_option maxHeartbeats 4000000 in
theorem invert_any (w : World) (p : Option Addr) (n c : Nat) (xs : List Hu) (hn : xs.length = n) (hnb : n ≤ 2513169434900) (hr : HuRow w p xs) (hB : HuB xs) :
    Calls Try.prog 45 #[.slice p n c] w (GivesI w (invX xs)) := by
  obtain ⟨i1, hj, hy0, hy1, hy2⟩ := info_parts hkInfo
  have cC := check_any w p n c xs hn (by omega) hr hB
  have cD := fun W q d (hx : HuRow W q (inv 0 xs)) => check_any W q n d (inv 0 xs) (by rw [inv_len]; exact hn) (by omega) hx (inv_b 0 xs hB)
  have HN := Lib.hid hn
  have HR := Lib.hid hr
  have HHB := Lib.hid hB
  unfold invX
  clear hn hr hB
  by_cases hbad : may 0 xs < xs.length
  · rw [chkX_bad hbad] at cC
    rw [if_pos hbad]
    clear cD
    go_enter Try.func45, Try.ntmps45
    go_wp2_with fail
    refine cC.mono ?_
    rintro e w1 ⟨rfl, hb1⟩
    clear cC
    go_wp2_with fail
    go_ret2
    exact GivesI.none hb1
  · rw [chkX_ok (by have := may_le 0 xs; omega)] at cC
    rw [if_neg hbad]
    have HG := Lib.hid (Good.of_may' hbad)
    obtain ⟨Y, hY⟩ : ∃ Y, (if may 0 (inv 0 xs) < (inv 0 xs).length then ((80, []) : Int × List Hu) else (0, inv 0 xs)) = Y := ⟨_, rfl⟩
    rw [hY]
    have HY := Lib.hid hY
    clear hbad hY
    go_enter Try.func45, Try.ntmps45
    go_wp2_with fail
    refine cC.mono ?_
    rintro e w1 ⟨rfl, hb1⟩
    obtain ⟨w2, hmk, ho2, hgr2⟩ := run_make_full (P := Try.prog) w1 w.heap.size 40 _ i1 (.agg #[.int .i64 0, .slice none 0 0, .slice none 0 0]) 3 Try.underlying40 hj hy0 hy1 .i64 .i64 n (by rw [hy2]; omega) (by unfold maxLen; omega) hb1.size
    have hb2 := hb1.grown hgr2 hb1.size (fun g hg => by cases hg)
    rw [show (.agg #[.int .i64 0, .slice none 0 0, .slice none 0 0] : Value).cells = #[.int .i64 0, .slice none 0 0, .slice none 0 0] from rfl, made_zero3] at ho2
    have HP2 : Hid (PartOwn w.heap.size w2 (.slice (some ⟨w1.heap.size, 0, none⟩) n n) n [] []) := ⟨rfl, Nat.zero_le _, ho2, fun i hi => absurd hi (Nat.not_lt_zero _), .nil, fun x hx => by cases hx⟩
    have HB2 := Lib.hid hb2
    have hg6 := hb1.size
    clear cC hb1 hb2 ho2 hgr2
    go_wp2_with fail
    clear hmk
    generalize w1.heap.size = g6 at *
    go_loopg [7, 25] n (fun g mv vi wr => ∃ (k : Nat) (us : List (Value × Value)), k + g = n ∧ vi = .int .i64 k ∧ mv = .int .i64 (moreX 0 (xs.take k)) ∧ Below w.heap.size w wr ∧ Hid (PartOwn w.heap.size wr (.slice (some ⟨g6, 0, none⟩) n n) n (inv 0 (xs.take k)) us))
    case atStart => exact ⟨0, [], by omega, rfl, rfl, HB2.out, HP2.out⟩
    case round =>
      obtain ⟨k, us, hk, rfl, rfl, hbr, HP⟩ := hrel
      have hsr := hbr.size
      by_cases hlt : k < n
      · have hlt' : k < xs.length := by rw [HN.out]; exact hlt
        obtain ⟨b, off, p1, c1, p2, c2, rfl, t1, t2, hc⟩ := HR.out.at k hlt'
        obtain ⟨g0, g1, g2⟩ := hc wr hbr
        obtain ⟨bo, bn, so, sn⟩ := HHB.out.at k hlt'
        have hkl : (inv 0 (xs.take k)).length = k := by rw [inv_len, List.length_take]; omega
        have hix : Hid (inv 0 (xs.take k) ++ [⟨wrap64 (xs[k].pos + moreX 0 (xs.take k)), xs[k].new, xs[k].old⟩] = inv 0 (xs.take (k + 1))) := by show _ = _; rw [List.take_succ_eq_append_getElem hlt', inv_snoc]
        have hmx : Hid (wrap64 (moreX 0 (xs.take k) + ((xs[k].new.length : Int) - (xs[k].old.length : Int))) = moreX 0 (xs.take (k + 1))) := by show _ = _; rw [List.take_succ_eq_append_getElem hlt', moreX_snoc]
        have hkI : (k : Int) < (n : Int) := by omega
        have hk0 : (0 : Int) ≤ (k : Int) := by omega
        generalize xs[k] = h at *
        obtain ⟨ps, old, new⟩ := h
        dsimp only at *
        generalize moreX 0 (xs.take k) = mo at *
        obtain ⟨lo, hlo'⟩ : ∃ lo, old.length = lo := ⟨_, rfl⟩
        obtain ⟨ln, hln'⟩ : ∃ ln, new.length = ln := ⟨_, rfl⟩
        rw [hlo'] at g1 bo hmx
        rw [hln'] at g2 bn hmx
        have HLO := Lib.hid hlo'
        have HLN := Lib.hid hln'
        have hbx := boxU_new wr ps p1 lo c1 p2 ln c2 wr.heap.size
        have hbw := hbr.alloc hsr (.cells #[.int .i64 ps, .slice p1 lo c1, .slice p2 ln c2] 47)
        have HPW := HP.out.later ((Below.refl wr.heap.size wr).alloc (Nat.le_refl _) (.cells #[.int .i64 ps, .slice p1 lo c1, .slice p2 ln c2] 47))
        have hgb : g6 < wr.heap.size := (HP.out.row.lt g6 rfl).2
        clear hc hlo' hln' HP
        go_upto_region 9 with fail
        generalize wr.alloc (.cells #[.int .i64 ps, .slice p1 lo c1, .slice p2 ln c2] 47) = wb at *
        generalize wr.heap.size = gb at *
        have HBXU := Lib.hid hbx
        have HX := Lib.hid (fun W (hb : Below wb.heap.size wb W) => (hbx.later hb).cells)
        have HP := Lib.hid HPW
        have HBW := Lib.hid hbw
        have hsb := hbw.size
        have cN := fun W (hb : Below wb.heap.size wb W) => copiedH_any W p2 ln c2 new HLN.out (by omega) (t2.later (HBW.out.trans (hb.mono hsb)))
        have cO := fun W (hb : Below wb.heap.size wb W) => copiedH_any W p1 lo c1 old HLO.out (by omega) (t1.later (HBW.out.trans (hb.mono hsb)))
        have hb0 : Below wb.heap.size wb wb.drew := Below.drew (Below.refl _ _)
        clear hbx hbw HPW hbr t1 t2
        refine region_tree (fun W : World => W.cell? ⟨gb, 0, none⟩ = some (.int .i64 ps) ∧ W.cell? ⟨gb, 1, none⟩ = some (.slice p1 lo c1) ∧ W.cell? ⟨gb, 2, none⟩ = some (.slice p2 ln c2)) (.take 0 (.take 1 (.take 2 (.take 3 (.take 4 (.take 5 (.take 6 (.take 7 (.take 9 (.take 10 (.call 8 (.call 11 (.take 12 (.take 13 (.call 14 .done))))))))))))))) (by kernel_rfl) (by kernel_rfl) (by kernel_rfl) (HX.out _ hb0) ?_
        iterate 10 (refine tree_take (v := ?_) rfl (by rfl) ?_ ?_; rotate_left; (focus (intro w hSw; (try dsimp only at hSw); go_simp; (try with_reducible rfl); done)); (try simp (maxSteps := 10000000) only [Act.put, List.setIfInBounds_toArray, List.set_cons_zero, List.set_cons_succ]))

        refine tree_call ?_
        refine call_at rfl (by rfl) (fun K hK => ?_)
        go_simp
        refine (cN _ hb0).mono ?_
        rintro e wA ⟨hbm, va, rfl, ova⟩
        obtain ⟨qa, da, rfl⟩ := row_form ova
        have hbA := hb0.trans (hbm.mono hb0.size)
        have hgA := hbm.size
        go_wp2_with fail
        refine hK.out _ _ (HX.out _ hbA) (fun _ => ?_)
        clear hK
        (try simp (maxSteps := 10000000) only [Act.put, List.setIfInBounds_toArray, List.set_cons_zero, List.set_cons_succ])
        refine tree_call ?_
        refine call_at rfl (by rfl) (fun K hK => ?_)
        go_simp
        refine (cO _ hbA).mono ?_
        rintro e wB ⟨hbm2, vb, rfl, ovb⟩
        obtain ⟨qb, db, rfl⟩ := row_form ovb
        have hbB := hbA.trans (hbm2.mono hbA.size)
        have hbBB := Below.trans hbm (hbm2.mono hbm.size)
        go_wp2_with fail
        refine hK.out _ _ (HX.out _ hbB) (fun _ => ?_)
        clear hK
        (try simp (maxSteps := 10000000) only [Act.put, List.setIfInBounds_toArray, List.set_cons_zero, List.set_cons_succ])
        iterate 2 (refine tree_take (v := ?_) rfl (by rfl) ?_ ?_; rotate_left; (focus (intro w hSw; (try dsimp only at hSw); go_simp; (try with_reducible rfl); done)); (try simp (maxSteps := 10000000) only [Act.put, List.setIfInBounds_toArray, List.set_cons_zero, List.set_cons_succ]))

        refine tree_call ?_
        refine call_at rfl (by rfl) (fun K hK => ?_)
        unfold Oper.wp
        simp only [execOp, Act.eval]
        have HPB := HP.out.later hbB
        have fz := fun j => HPB.row.frozenAt j
        have cz : ∀ j, j < n * 3 → ∃ u, wB.cell? ⟨g6, j, none⟩ = some u := fun j hj => by
          have h := HPB.row.cellAt j hj
          rw [List.getElem?_eq_getElem (by have := HPB.row.1; omega)] at h
          exact ⟨_, h⟩
        obtain ⟨u0, f0⟩ := cz (k * 3) (by omega)
        obtain ⟨u1, f1⟩ := cz (k * 3 + 1) (by omega)
        obtain ⟨u2, f2⟩ := cz (k * 3 + 2) (by omega)
        have z0 := fz (k * 3)
        have z1 := fz (k * 3 + 1)
        have z2 := fz (k * 3 + 2)
        go_simp
        have hput := PartOwn.put (k := IntKind.i64.wrap (ps + mo)) (lo := wb.heap.size) (t1 := new) (t2 := old) HPB (by rw [hkl]; exact hlt) (fun x hx q hq => (HP.out.lt x hx q hq).2)
          (by rw [HLN.out]; exact own_mono (row_later ova hbm2) (show w.heap.size ≤ wb.drew.heap.size from hsb)) (by rw [HLO.out]; exact own_mono ovb (Nat.le_trans hsb hbA.size)) (fun q hq => (ova.lt q hq).1)
          (fun q hq => ⟨Nat.le_trans hbA.size (ovb.lt q hq).1, fun e => by have h1 := (ovb.lt q hq).1; have h2 := (ova.lt q e).2; omega⟩)
        rw [hkl] at hput
        obtain ⟨hp6, hgr⟩ := hput
        have hx6 := (HBXU.out.later hbB).kept hgr (fun e => absurd (Option.some.inj e) (by omega))
        have hb6 : Below w.heap.size w _ := (HBW.out.trans (hbB.mono hsb)).grown hgr (HBW.out.trans (hbB.mono hsb)).size (fun q hq => by injection hq with hq; subst hq; exact hg6)
        rw [Go.IntWalk.i64_left] at hp6 hx6 hb6 ⊢
        refine hK.out _ _ hx6.cells (fun _ => ?_)
        clear hK
        refine tree_end ?_
        have HP6 := Lib.hid hp6
        have HX6 := Lib.hid hx6
        have HB6 := Lib.hid hb6
        generalize ((wB.setCell ⟨g6, k * 3, none⟩ (.int .i64 (wrap64 (ps + mo)))).setCell ⟨g6, k * 3 + 1, none⟩ (.slice qa ln da)).setCell ⟨g6, k * 3 + 2, none⟩ (.slice qb lo db) = W6 at *
        obtain ⟨b0, b1, b2⟩ := HX6.out.cells
        clear hp6 hx6 hb6 hgr HPB fz cz f0 f1 f2 z0 z1 z2 ova ovb hbm hbm2 hbA hbB hbBB cN cO hb0
        go_wp2_with fail
        go_roundg (gk - 1)
        case rel => exact ⟨k + 1, us ++ [((.slice qa ln da, .slice qb lo db) : Value × Value)], by omega, by go_num, by rw [← hmx.out], HB6.out, by show PartOwn _ _ _ _ _ _; rw [← hix.out]; exact HP6.out⟩
        case measure => omega
      · obtain rfl : k = n := by omega
        have hall : xs.take k = xs := List.take_of_length_le (by have := HN.out; omega)
        have hp := HP.out
        rw [hall] at hp
        have ho := hp.whole (by rw [inv_len]; exact HN.out)
        obtain ⟨ph, ch, e1, hrh⟩ := ho.reads
        have hil : (inv 0 xs).length = k := by rw [inv_len]; exact HN.out
        rw [hil] at e1
        injection e1 with e1 e2 e3
        subst e1
        clear e3 hil
        have cD1 := cD wr (some ⟨g6, 0, none⟩) k hrh
        have HO := Lib.hid ho
        have HBR := Lib.hid hbr
        clear HP hp ho hrh hbr cD hall HR HHB HG HB2 HP2
        by_cases hbad : may 0 (inv 0 xs) < (inv 0 xs).length
        · rw [chkX_bad hbad] at cD1
          have hY := HY.out
          rw [if_pos hbad] at hY
          subst hY
          clear hbad HY
          go_wp2_with fail
          refine cD1.mono ?_
          rintro e w3 ⟨rfl, hb3⟩
          have hbw3 := HBR.out.trans (hb3.mono hsr)
          have hgv : GivesI w (80, []) (.returned (.tuple #[.slice none 0 0, .int .i64 80])) w3 := GivesI.none hbw3
          have HGV := Lib.hid hgv
          clear cD1 hb3 hbw3 hgv
          go_wp2_with fail
          go_ret2
          exact HGV.out
        · rw [chkX_ok (by have := may_le 0 (inv 0 xs); omega)] at cD1
          have hY := HY.out
          rw [if_neg hbad] at hY
          subst hY
          clear hbad HY
          go_wp2_with fail
          refine cD1.mono ?_
          rintro e w3 ⟨rfl, hb3⟩
          have hbw3 := HBR.out.trans (hb3.mono hsr)
          have hgv : GivesI w (0, inv 0 xs) (.returned (.tuple #[.slice (some ⟨g6, 0, none⟩) k k, .int .i64 0])) w3 := ⟨hbw3, _, us, rfl, HO.out.later hb3⟩
          have HGV := Lib.hid hgv
          clear cD1 hb3 hbw3 hgv
          go_wp2_with fail
          go_ret2
          exact HGV.out
end Go.Proofs.Ytjmnbnlhahbcjaa
