/- hunk.Apply: by its contract. -/
import Derived.Test.YtjmnbnlhahbcjaaHuApP
namespace Go.Proofs.Ytjmnbnlhahbcjaa
open Go Go.RowKit

theorem strSize : (Try.prog.info? 9).map (·.size) = some 1 := by kernel_rfl
theorem pad_step (O xs : List Tx) (N ol n1 : Nat) (hol : O.length = ol) (hx : xs.length = n1) (h : ol + n1 ≤ N) : (O ++ List.replicate (N - ol) tZ).take ol ++ xs ++ (O ++ List.replicate (N - ol) tZ).drop (ol + n1) = (O ++ xs) ++ List.replicate (N - (ol + n1)) tZ := by
  subst hol hx
  rw [List.take_left, List.drop_append, List.drop_eq_nil_of_le (by omega), List.nil_append, show O.length + xs.length - O.length = xs.length by omega, List.drop_replicate]
  congr 2
  omega
set_option maxRecDepth 100000 in
set_option maxHeartbeats 4000000 in
theorem apply_any (w : World) (q : Option Addr) (m d : Nat) (a : List Tx) (p : Option Addr) (n c : Nat) (hs : List Hu) (hn : hs.length = n) (hnb : n ≤ 2513169434900) (hr : HuRow w p hs) (hB : HuB hs) (hm : a.length = m) (hmb : m ≤ 8796093021952) (hq : TxP w q d a) (hsum : m + comesN hs ≤ 8796093021952) :
    Calls Try.prog 41 #[.slice q m d, .slice p n c] w (GivesA w (apX a hs)) := by
  obtain ⟨i0, hi, hz0, hz1, hz2⟩ := info_parts strInfo
  have cF := fits_any w p n c hs q m d a hn (by omega) hr hB hm hmb hq
  have cK := fun W (hb : Below w.heap.size w W) => count_any W p n c hs hn (by omega) (hr.later hb)
  have HN := Lib.hid hn
  have HM := Lib.hid hm
  have HR := Lib.hid hr
  have HHB := Lib.hid hB
  have HQ := Lib.hid hq
  have hmd : m ≤ d := by rw [← hm]; exact hq.2.2
  unfold apX
  clear hn hr hB hm hq
  by_cases hbad : (fitX a hs).2 = 0
  · rw [if_pos hbad]
    obtain ⟨e1, hG, _, hF⟩ := fitX_zero hbad
    rw [e1] at cF
    have hlen := ap_len 0 hs hF (Nat.zero_le _)
    rw [HM.out] at hlen
    have hg1 : goes hs = (goesN hs : Int) := goes_small (by omega)
    have hg2 : comes hs = (comesN hs : Int) := comes_small (by omega)
    rw [hg1, hg2] at cK
    obtain ⟨bb, hbb⟩ : ∃ bb, ap a 0 hs = bb := ⟨_, rfl⟩
    rw [hbb] at hlen ⊢
    have HG := Lib.hid hG
    have HF0 := Lib.hid hF
    have HA0 := Lib.hid hbb
    obtain ⟨N, hN⟩ : ∃ N, bb.length = N := ⟨_, rfl⟩
    rw [hN] at hlen
    have HBB := Lib.hid hN
    generalize goesN hs = gN at *
    generalize comesN hs = cN at *
    have hNI : (m : Int) - (gN : Int) + (cN : Int) = (N : Int) := by omega
    have hNb : N ≤ 8796093021952 := by omega
    have hw0 : wrap64 ((m : Int) - (gN : Int)) = (m : Int) - (gN : Int) := by unfold wrap64; omega
    have hw1 : wrap64 ((m : Int) - (gN : Int) + (cN : Int)) = (N : Int) := by unfold wrap64; omega
    clear hbad e1 hG hF hg1 hg2 hbb hN
    go_enter Try.func41, Try.ntmps41
    go_wp2_with fail
    refine cF.mono ?_
    rintro e w1 ⟨rfl, hb1⟩
    have cK1 := cK w1 hb1
    have HB1 := Lib.hid hb1
    have hs1 := hb1.size
    clear cF cK hb1
    go_wp2_with fail
    refine cK1.mono ?_
    rintro e w2 ⟨rfl, hb2⟩
    have hbw2 := HB1.out.trans (hb2.mono hs1)
    obtain ⟨w3, hmk, ho3, hgr3⟩ := run_make_full (P := Try.prog) w2 w.heap.size 33 _ i0 (.string ⟨#[]⟩) 1 Try.underlying33 hi hz0 hz1 .i64 .i64 N (by rw [hz2]; omega) (by unfold maxLen; omega) hbw2.size
    have hb3 := hbw2.grown hgr3 hbw2.size (fun g hg => by cases hg)
    rw [show (.string ⟨#[]⟩ : Value).cells = #[.string ⟨#[]⟩] from rfl, Nat.mul_one, toList_madeCells_one] at ho3
    have hg0 := hbw2.size
    have hg03 : w2.heap.size < w3.heap.size := (ho3.lt _ rfl).2
    have ho3' : w3.ownsRow w.heap.size 9 1 (.slice (some ⟨w2.heap.size, 0, none⟩) N N) N (([] ++ List.replicate (N - 0) tZ).map Value.string) := by rw [List.nil_append, List.map_replicate]; exact ho3
    have HB3 := Lib.hid hb3
    clear cK1 hb2 hbw2 ho3 hgr3 hb3
    go_upto_region 6 with fail
    clear hmk hw0 hw1
    generalize w2.heap.size = g0 at *
    obtain ⟨p0, hp0⟩ : ∃ p0 : Option Addr, some ⟨g0, 0, none⟩ = p0 := ⟨_, rfl⟩
    rw [hp0] at ho3'
    rw [hp0]
    have HP0 := Lib.hid hp0
    have HO3 := Lib.hid ho3'
    clear hp0 ho3'
    go_wp2_with fail
    go_loopg [11, 12, 38] n (fun g fv tv vi wr => ∃ (t k : Nat) (O : List Tx), t + g = n ∧ vi = .int .i64 t ∧ fv = .int .i64 k ∧ tv = .int .i64 (O.length : Nat) ∧ k ≤ m ∧ Below w.heap.size w wr ∧ Hid (wr.ownsRow w.heap.size 9 1 (.slice p0 N N) N ((O ++ List.replicate (N - O.length) tZ).map Value.string)) ∧ Hid (FitS a k (hs.drop t)) ∧ Hid (O ++ ap a k (hs.drop t) = bb))
    case atStart => exact ⟨0, 0, [], by omega, rfl, rfl, rfl, Nat.zero_le _, HB3.out, HO3.out, HF0.out, HA0.out⟩
    case round =>
      obtain ⟨t, k, O, ht, rfl, rfl, rfl, hkm, hbr, HO, HF, HA⟩ := hrel
      have hsr := hbr.size
      by_cases hlt : t < n
      · have hlt' : t < hs.length := by rw [HN.out]; exact hlt
        obtain ⟨b, off, p1, c1, p2, c2, rfl, t1, t2, hc⟩ := HR.out.at t hlt'
        obtain ⟨y0, y1, y2⟩ := hc wr hbr
        obtain ⟨bo, bn, -, -⟩ := HHB.out.at t hlt'
        obtain ⟨-, hmax, -⟩ := HG.out.at (Int.le_refl _) t hlt'
        have hF := HF.out
        have hA := HA.out
        rw [List.drop_eq_getElem_cons hlt'] at hF hA
        generalize hs[t] = h at *
        obtain ⟨ps, old, nw⟩ := h
        obtain ⟨f1, f2, f3, f4, f5⟩ := hF
        dsimp only at *
        obtain ⟨P, rfl⟩ : ∃ P : Nat, ps = (P : Int) := ⟨ps.toNat, by omega⟩
        rw [Int.toNat_natCast] at f2 f3 f4 f5
        have hAe : O ++ (seg a k P ++ (nw ++ ap a (P + old.length) (hs.drop (t + 1)))) = bb := hA
        obtain ⟨lo, hlo'⟩ : ∃ lo, old.length = lo := ⟨_, rfl⟩
        obtain ⟨ln, hln'⟩ : ∃ ln, nw.length = ln := ⟨_, rfl⟩
        rw [hlo'] at y1 bo f3 f5 hAe
        rw [hln'] at y2 bn
        rw [HM.out] at f3
        have hsl : (seg a k P).length = P - k := seg_len a k _ (by rw [HM.out]; omega)
        have hbl := congrArg List.length hAe
        simp only [List.length_append] at hbl
        rw [hsl, HBB.out, hln'] at hbl
        obtain ⟨ol, hol⟩ : ∃ ol, O.length = ol := ⟨_, rfl⟩
        obtain ⟨n1, hn1⟩ : ∃ n1, P - k = n1 := ⟨_, rfl⟩
        obtain ⟨k1, hk1⟩ : ∃ k1, d - k = k1 := ⟨_, rfl⟩
        rw [hn1] at hsl hbl
        rw [hol] at HO hbl
        rw [hol]
        have HLN := Lib.hid hln'
        have HLO := Lib.hid hlo'
        have HSL := Lib.hid hsl
        have HF6 := Lib.hid f5
        have hAe' : ((O ++ seg a k P) ++ nw) ++ ap a (P + lo) (hs.drop (t + 1)) = bb := by rw [List.append_assoc, List.append_assoc]; exact hAe
        have hpd1 := pad_step O (seg a k P) N ol n1 hol hsl (by omega)
        obtain ⟨O1, hO1⟩ : ∃ O1, O ++ seg a k P = O1 := ⟨_, rfl⟩
        obtain ⟨o2, ho2⟩ : ∃ o2, ol + n1 = o2 := ⟨_, rfl⟩
        rw [hO1] at hAe' hpd1
        have hO1l : O1.length = o2 := by rw [← hO1, List.length_append, hol, hsl, ho2]
        have hpd2 := pad_step O1 nw N o2 ln hO1l hln' (by omega)
        obtain ⟨o3, ho3⟩ : ∃ o3, o2 + ln = o3 := ⟨_, rfl⟩
        rw [ho2] at hpd1
        rw [ho3] at hpd2
        have HPD1 := Lib.hid (show (O ++ List.replicate (N - ol) tZ).take ol ++ seg a k P ++ (O ++ List.replicate (N - ol) tZ).drop (ol + n1) = O1 ++ List.replicate (N - o2) tZ by rw [ho2]; exact hpd1)
        have HPD2 := Lib.hid (show (O1 ++ List.replicate (N - o2) tZ).take o2 ++ nw ++ (O1 ++ List.replicate (N - o2) tZ).drop (o2 + ln) = (O1 ++ nw) ++ List.replicate (N - o3) tZ by rw [ho3]; exact hpd2)
        have HL3 : Hid ((O1 ++ nw).length = o3) := by show _ = _; rw [List.length_append, hO1l, hln', ho3]
        have HAE := Lib.hid hAe'
        have hbx := boxU_new wr (P : Int) p1 lo c1 p2 ln c2 wr.heap.size
        have hbw := hbr.alloc hsr (.cells #[.int .i64 (P : Int), .slice p1 lo c1, .slice p2 ln c2] 47)
        have how := HO.out.alloc (.cells #[.int .i64 (P : Int), .slice p1 lo c1, .slice p2 ln c2] 47)
        have hgb : g0 ≠ wr.heap.size := by
          have := (HO.out.lt g0 (by rw [← HP0.out]; rfl)).2
          omega
        clear hc HO HF HA hA hAe hAe' hpd1 hpd2 hO1 hO1l hlo' hln' hsl f4 f5 hol HG
        go_upto_region 10 with fail
        generalize wr.alloc (.cells #[.int .i64 (P : Int), .slice p1 lo c1, .slice p2 ln c2] 47) = wb at *
        generalize wr.heap.size = gb at *
        have hsb := hbw.size
        have HBW := Lib.hid hbw
        have HBX := Lib.hid hbx
        have HO := Lib.hid how
        have rA := fun W (hb : Below wb.heap.size wb W) => (show StrRow W (cutA q d k) (seg a k P) by rw [seg_eq]; exact cut_row (HQ.out.1.later (HBW.out.trans (hb.mono hsb))) HM.out hmd k (P - k) (by omega))
        obtain ⟨A, hA⟩ : ∃ A, cutA q d k = A := ⟨_, rfl⟩
        rw [hA] at rA
        unfold cutA at hA
        obtain ⟨D1, d1⟩ : ∃ D1, cutA p0 N ol = D1 := ⟨_, rfl⟩
        obtain ⟨D2, d2⟩ : ∃ D2, cutA p0 N o2 = D2 := ⟨_, rfl⟩
        have HD1 := Lib.hid d1
        have HD2 := Lib.hid d2
        have d1e := d1
        have d2e := d2
        unfold cutA at d1e d2e
        have hb0 : Below wb.heap.size wb wb.drew := Below.drew (Below.refl _ _)
        have q1 : (k : Int) ≤ (P : Int) := by omega
        have q2 : (P : Int) ≤ (d : Int) := by omega
        have q3 : (ol : Int) ≤ (N : Int) := by omega
        have q4 : (o2 : Int) ≤ (N : Int) := by omega
        have w1 : IntKind.i64.wrap ((ol : Int) + (n1 : Int)) = (o2 : Int) := by rw [Go.IntWalk.i64_left]; unfold wrap64; omega
        have w2' : IntKind.i64.wrap ((o2 : Int) + (ln : Int)) = (o3 : Int) := by rw [Go.IntWalk.i64_left]; unfold wrap64; omega
        have hwE : wrap64 ((P : Int) + (lo : Int)) = ((P + lo : Nat) : Int) := by unfold wrap64; omega
        clear hbx hbw how hbr d1 d2 y0 y1 y2
        refine region_tree (fun W : World => W.cell? ⟨gb, 0, none⟩ = some (.int .i64 (P : Int)) ∧ W.cell? ⟨gb, 1, none⟩ = some (.slice p1 lo c1) ∧ W.cell? ⟨gb, 2, none⟩ = some (.slice p2 ln c2)) (.take 0 (.take 1 (.take 2 (.take 3 (.take 4 (.take 5 (.take 6 (.take 7 (.take 8 (.call 9 (.take 10 (.take 11 .done)))))))))))) (by kernel_rfl) (by kernel_rfl) (by kernel_rfl) (HBX.out.later hb0).cells ?_
        iterate 9 (refine tree_take (v := ?_) rfl (by rfl) ?_ ?_; rotate_left; (focus (intro w hSw; (try dsimp only at hSw); go_simp; (try with_reducible rfl); done)); (try simp (maxSteps := 10000000) only [Act.put, List.setIfInBounds_toArray, List.set_cons_zero, List.set_cons_succ]))

        refine tree_call ?_
        refine call_at rfl (by rfl) (fun K hK => ?_)
        refine wp_copytx _ _ 33 rfl 9 Try.underlying33 strSize w.heap.size g0 N N ol p0 HP0.out _ (row_later HO.out hb0) (Nat.le_refl _) D1 HD1.out _ _ rfl rfl A n1 k1 rfl (seg a k P) HSL.out (rA _ hb0) (by omega) ?_
        intro W1 hoW1 hgrW1
        have hx1 := (HBX.out.later hb0).kept hgrW1 (fun e => hgb (Option.some.inj e).symm)
        have hbb1 := (HBW.out.trans (hb0.mono hsb)).grown hgrW1 (Nat.le_trans hsb hb0.size) (fun q hq => by injection hq with hq; subst hq; exact hg0)
        refine hK.out _ _ hx1.cells (fun _ => ?_)
        clear hK
        (try simp (maxSteps := 10000000) only [Act.put, List.setIfInBounds_toArray, List.set_cons_zero, List.set_cons_succ])
        iterate 2 (refine tree_take (v := ?_) rfl (by rfl) ?_ ?_; rotate_left; (focus (intro w hSw; (try dsimp only at hSw); go_simp; (try with_reducible rfl); done)); (try simp (maxSteps := 10000000) only [Act.put, List.setIfInBounds_toArray, List.set_cons_zero, List.set_cons_succ]))

        refine tree_end ?_
        have HO1 : Hid (W1.ownsRow w.heap.size 9 1 (.slice p0 N N) N ((O1 ++ List.replicate (N - o2) tZ).map Value.string)) := by
          show World.ownsRow _ _ _ _ _ _ _
          rw [← HPD1.out]; exact hoW1
        have HBX1 := Lib.hid hx1
        have HB1 := Lib.hid hbb1
        have r2 := t2.later hbb1
        have hs1 := hbb1.size
        have b1 : Below W1.heap.size W1 W1.drew := Below.drew (Below.refl _ _)
        clear hx1 hbb1 hoW1 hgrW1 hb0 rA HO HBX HBW hA HD1 d1e
        go_upto_region 11 with fail
        refine region_tree (fun W : World => W.cell? ⟨gb, 0, none⟩ = some (.int .i64 (P : Int)) ∧ W.cell? ⟨gb, 1, none⟩ = some (.slice p1 lo c1) ∧ W.cell? ⟨gb, 2, none⟩ = some (.slice p2 ln c2)) (.take 0 (.take 1 (.take 2 (.take 3 (.take 4 (.take 5 (.call 6 (.take 7 (.take 8 .done))))))))) (by kernel_rfl) (by kernel_rfl) (by kernel_rfl) (HBX1.out.later b1).cells ?_
        iterate 6 (refine tree_take (v := ?_) rfl (by rfl) ?_ ?_; rotate_left; (focus (intro w hSw; (try dsimp only at hSw); go_simp; (try with_reducible rfl); done)); (try simp (maxSteps := 10000000) only [Act.put, List.setIfInBounds_toArray, List.set_cons_zero, List.set_cons_succ]))

        refine tree_call ?_
        refine call_at rfl (by rfl) (fun K hK => ?_)
        refine wp_copytx _ _ 33 rfl 9 Try.underlying33 strSize w.heap.size g0 N N o2 p0 HP0.out _ (row_later HO1.out b1) (Nat.le_refl _) D2 HD2.out _ _ rfl rfl p2 ln c2 rfl nw HLN.out (r2.later b1).1 (by omega) ?_
        intro W2 hoW2 hgrW2
        have hx2 := (HBX1.out.later b1).kept hgrW2 (fun e => hgb (Option.some.inj e).symm)
        have hbb2 := (HB1.out.trans (b1.mono hs1)).grown hgrW2 (Nat.le_trans hs1 b1.size) (fun q hq => by injection hq with hq; subst hq; exact hg0)
        refine hK.out _ _ hx2.cells (fun _ => ?_)
        clear hK
        (try simp (maxSteps := 10000000) only [Act.put, List.setIfInBounds_toArray, List.set_cons_zero, List.set_cons_succ])
        iterate 2 (refine tree_take (v := ?_) rfl (by rfl) ?_ ?_; rotate_left; (focus (intro w hSw; (try dsimp only at hSw); go_simp; (try with_reducible rfl); done)); (try simp (maxSteps := 10000000) only [Act.put, List.setIfInBounds_toArray, List.set_cons_zero, List.set_cons_succ]))

        refine tree_end ?_
        have HO2 : Hid (W2.ownsRow w.heap.size 9 1 (.slice p0 N N) N (((O1 ++ nw) ++ List.replicate (N - o3) tZ).map Value.string)) := by
          show World.ownsRow _ _ _ _ _ _ _
          rw [← HPD2.out]; exact hoW2
        obtain ⟨z0, z1, z2⟩ := hx2.cells
        have HB2 := Lib.hid hbb2
        have hs2 := hbb2.size
        have cH := behind_any W2 (P : Int) p1 p2 lo ln c1 c2
        rw [hwE] at cH
        clear hx2 hbb2 hoW2 hgrW2 b1 r2 HO1 HBX1 HB1 HD2 d2e
        go_wp2_with fail
        refine cH.mono ?_
        rintro e W3 ⟨rfl, hb3⟩
        have HB3 := Lib.hid (HB2.out.trans (hb3.mono hs2))
        have HO3 := Lib.hid (row_later HO2.out hb3)
        clear cH hb3 z0 z1 z2
        go_wp2_with fail
        go_roundg (gk - 1)
        case rel => exact ⟨t + 1, P + lo, O1 ++ nw, by omega, by go_num, by go_num, by rw [HL3.out], by omega, HB3.out, by show World.ownsRow _ _ _ _ _ _ _; rw [HL3.out]; exact HO3.out, HF6.out, HAE.out⟩
        case measure => omega
      · obtain rfl : t = n := by omega
        have hdr : hs.drop t = [] := by rw [← HN.out]; exact List.drop_length
        have hA := HA.out
        rw [hdr] at hA
        have hAe : O ++ a.drop k = bb := hA
        have hsl : (a.drop k).length = m - k := by rw [List.length_drop, HM.out]
        have hbl := congrArg List.length hAe
        rw [List.length_append, hsl, HBB.out] at hbl
        obtain ⟨ol, hol⟩ : ∃ ol, O.length = ol := ⟨_, rfl⟩
        obtain ⟨n1, hn1⟩ : ∃ n1, m - k = n1 := ⟨_, rfl⟩
        obtain ⟨k1, hk1⟩ : ∃ k1, d - k = k1 := ⟨_, rfl⟩
        rw [hn1] at hsl hbl
        rw [hol] at HO hbl
        rw [hol]
        have hpd1 := pad_step O (a.drop k) N ol n1 hol hsl (by omega)
        rw [hAe, show N - (ol + n1) = 0 by omega, List.replicate_zero, List.append_nil] at hpd1
        have HPD1 := Lib.hid hpd1
        have HSL := Lib.hid hsl
        have rA := fun W (hb : Below wr.heap.size wr W) => drop_cut (HQ.out.1.later (hbr.trans (hb.mono hsr))) HM.out hmd k hkm
        obtain ⟨A, hA'⟩ : ∃ A, cutA q d k = A := ⟨_, rfl⟩
        rw [hA'] at rA
        unfold cutA at hA'
        obtain ⟨D1, d1⟩ : ∃ D1, cutA p0 N ol = D1 := ⟨_, rfl⟩
        have HD1 := Lib.hid d1
        have d1e := d1
        unfold cutA at d1e
        have hb0 : Below wr.heap.size wr wr.drew := Below.drew (Below.refl _ _)
        have q1 : (k : Int) ≤ (m : Int) := by omega
        have q3 : (ol : Int) ≤ (N : Int) := by omega
        have HBR := Lib.hid hbr
        clear hA hAe hpd1 hsl hdr hbr d1 HF HA hol
        go_upto_region 14 with fail
        refine region_tree (fun _ : World => True) (.take 0 (.take 1 (.take 2 (.take 3 (.take 4 (.take 5 (.call 6 .done))))))) (by kernel_rfl) (by kernel_rfl) (by kernel_rfl) trivial ?_
        iterate 6 (refine tree_take (v := ?_) rfl (by rfl) ?_ ?_; rotate_left; (focus (intro w hSw; (try dsimp only at hSw); go_simp; (try with_reducible rfl); done)); (try simp (maxSteps := 10000000) only [Act.put, List.setIfInBounds_toArray, List.set_cons_zero, List.set_cons_succ]))

        refine tree_call ?_
        refine call_at rfl (by rfl) (fun K hK => ?_)
        refine wp_copytx _ _ 33 rfl 9 Try.underlying33 strSize w.heap.size g0 N N ol p0 HP0.out _ (row_later HO.out hb0) (Nat.le_refl _) D1 HD1.out _ _ rfl rfl A n1 k1 rfl (a.drop k) HSL.out (rA _ hb0) (by omega) ?_
        intro W1 hoW1 hgrW1
        have hbb1 := (HBR.out.trans (hb0.mono hsr)).grown hgrW1 (Nat.le_trans hsr hb0.size) (fun q hq => by injection hq with hq; subst hq; exact hg0)
        refine hK.out _ _ trivial (fun _ => ?_)
        clear hK
        (try simp (maxSteps := 10000000) only [Act.put, List.setIfInBounds_toArray, List.set_cons_zero, List.set_cons_succ])
        refine tree_end ?_
        have hof : W1.ownsRow w.heap.size 9 1 (.slice p0 N N) N (bb.map Value.string) := by
          rw [← HPD1.out]; exact hoW1
        have hgv : GivesA w (0, bb) (.returned (.tuple #[.slice p0 N N, .int .i64 0])) W1 := ⟨hbb1, _, rfl, by show World.ownsRow _ _ _ _ _ bb.length _; rw [HBB.out]; exact hof⟩
        have HGV := Lib.hid hgv
        clear hbb1 hof hgv hoW1 hgrW1 hb0 rA HO HBR HD1 d1e
        go_wp2_with fail
        go_ret2
        exact HGV.out
  · rw [if_neg hbad]
    generalize (fitX a hs).1 = fi at *
    generalize (fitX a hs).2 = fe at *
    have hne : (fe != 0) = true := by rw [bne, beq_false_of_ne hbad]; rfl
    clear cK
    go_enter Try.func41, Try.ntmps41
    go_wp2_with fail
    refine cF.mono ?_
    rintro e w1 ⟨rfl, hb1⟩
    have hgv : GivesA w (fe, []) (.returned (.tuple #[.slice none 0 0, .int .i64 fe])) w1 := GivesA.none hb1
    have HGV := Lib.hid hgv
    clear cF hb1 hgv
    go_wp2_with fail
    go_ret2
    exact HGV.out
end Go.Proofs.Ytjmnbnlhahbcjaa
