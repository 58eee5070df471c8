/- The document's Invert: by its contract. -/
import Derived.Test.YtjmnbnlhahbcjaaHuInv
import Derived.Test.YtjmnbnlhahbcjaaHuRefCk
import Derived.Deep.LoopGhost
namespace Go.Proofs.Ytjmnbnlhahbcjaa
open Go Go.RowKit

theorem wrap_more (m : Int) (a b : Nat) : wrap64 (wrap64 (m + (a : Int)) - (b : Int)) = wrap64 (m + ((a : Int) - (b : Int))) := by
  unfold wrap64
  omega
theorem Good.of_may2 {hs : List Hu} (h : ¬ may 0 hs < hs.length) : may 0 hs = hs.length := by have := may_le 0 hs; omega
set_option maxRecDepth 100000 in
set_option maxHeartbeats 8000000 in
theorem refInvert_any (w : World) (p : Option Addr) (n c : Nat) (xs : List Hu) (hn : xs.length = n) (hnb : n ≤ 2513169434900) (hr : HuRow w p xs) (hB : HuB xs) :
    Calls Try.prog 44 #[.slice p n c] w (GivesI w (invX xs)) := by
  obtain ⟨i0, hi, hz0, hz1, hz2⟩ := info_parts strInfo
  obtain ⟨i1, hj, hy0, hy1, hy2⟩ := info_parts hkInfo
  have cC := refCheck_any w p n c xs hn (by omega) hr hB
  have cD := fun W q d (hx : HuRow W q (inv 0 xs)) => refCheck_any W q n d (inv 0 xs) (by rw [inv_len]; exact hn) (by omega) hx (inv_b 0 xs hB)
  have HN := Lib.hid hn
  have HR := Lib.hid hr
  have HHB := Lib.hid hB
  unfold invX
  clear hn hr hB
  by_cases hbad : may 0 xs < xs.length
  · rw [chkX_bad hbad] at cC
    rw [if_pos hbad]
    clear cD
    go_enter Try.func44, Try.ntmps44
    go_wp2_with fail
    refine cC.mono ?_
    rintro e w1 ⟨rfl, hb1⟩
    clear cC
    go_wp2_with fail
    go_ret2
    exact GivesI.none hb1
  · rw [chkX_ok (Good.of_may2 hbad)] at cC
    rw [if_neg hbad]
    obtain ⟨Y, hY⟩ : ∃ Y, (if may 0 (inv 0 xs) < (inv 0 xs).length then ((80, []) : Int × List Hu) else (0, inv 0 xs)) = Y := ⟨_, rfl⟩
    rw [hY]
    have HY := Lib.hid hY
    clear hbad hY
    go_enter Try.func44, Try.ntmps44
    go_wp2_with fail
    refine cC.mono ?_
    rintro e w1 ⟨rfl, hb1⟩
    have HB1 := Lib.hid hb1
    clear cC hb1
    go_wp2_with fail
    go_loopg [6, 7, 8] n (fun g v mv vi wr => ∃ (k : Nat) (hs : List Hu) (us : List (Value × Value)), k + g = n ∧ vi = .int .i64 k ∧ mv = .int .i64 (moreX 0 (xs.take k)) ∧ Below w.heap.size w wr ∧ Hid (HuOwn w.heap.size wr v hs us) ∧ Hid (hs = inv 0 (xs.take k)))
    case atStart => exact ⟨0, [], [], by omega, rfl, rfl, HB1.out, HuOwn.nil _ _, by show _ = _; rfl⟩
    case round =>
      obtain ⟨k, hs, us, hk, rfl, rfl, hbr, HO, HX⟩ := hrel
      have hsr := hbr.size
      by_cases hlt : k < n
      · have hlt' : k < xs.length := by rw [HN.out]; exact hlt
        obtain ⟨b, off, p1, c1, p2, c2, rfl, t1, t2, hc⟩ := HR.out.at k hlt'
        obtain ⟨bo, bn, so, sn⟩ := HHB.out.at k hlt'
        have hx : Hid (hs ++ [⟨wrap64 (xs[k].pos + moreX 0 (xs.take k)), xs[k].new, xs[k].old⟩] = inv 0 (xs.take (k + 1))) := by show _ = _; rw [HX.out, List.take_succ_eq_append_getElem hlt', inv_snoc]
        have hmx : Hid (wrap64 (moreX 0 (xs.take k) + ((xs[k].new.length : Int) - (xs[k].old.length : Int))) = moreX 0 (xs.take (k + 1))) := by show _ = _; rw [List.take_succ_eq_append_getElem hlt', moreX_snoc]
        have hhl : hs.length = k := by rw [HX.out, inv_len, List.length_take]; omega
        have hkI : (k : Int) < (n : Int) := by omega
        have hk0 : (0 : Int) ≤ (k : Int) := by omega
        generalize xs[k] = h at *
        obtain ⟨ps, old, new⟩ := h
        dsimp only at *
        generalize moreX 0 (xs.take k) = mo at *
        obtain ⟨lo, hlo'⟩ : ∃ lo, old.length = lo := ⟨_, rfl⟩
        obtain ⟨ln, hln'⟩ : ∃ ln, new.length = ln := ⟨_, rfl⟩
        rw [hlo'] at bo hmx
        rw [hln'] at bn hmx
        simp only [hlo', hln'] at hc
        have HLO := Lib.hid hlo'
        have HLN := Lib.hid hln'
        have SBW := Lib.hid hc
        have SB := Lib.hid (fun W (hb : Below wr.heap.size wr W) => hc W (hbr.trans (hb.mono hsr)))
        have TO := Lib.hid (fun W (hb : Below wr.heap.size wr W) => t1.later (hbr.trans (hb.mono hsr)))
        have TN := Lib.hid (fun W (hb : Below wr.heap.size wr W) => t2.later (hbr.trans (hb.mono hsr)))
        have HBR := Lib.hid hbr
        have hb0 : Below wr.heap.size wr wr.drew := Below.drew (Below.refl _ _)
        clear hc hlo' hln' t1 t2 so sn hbr HX
        go_upto_region 9 with fail
        refine region_tree (fun W : World => W.cell? ⟨b, off + k * 3, none⟩ = some (.int .i64 ps) ∧ W.cell? ⟨b, off + k * 3 + 1, none⟩ = some (.slice p1 lo c1) ∧ W.cell? ⟨b, off + k * 3 + 2, none⟩ = some (.slice p2 ln c2))
          (.take 0 (.take 1 (.take 2 (.take 3 (.take 4 (.take 5 (.take 6 (.take 7 (.take 9 (.take 10 (.take 11 (.take 12 (.take 13 (.take 16 (.take 17 (.take 18 (.take 19 (.take 20 (.two 8 15 (.two 14 15 (.call 15 (.call 21 (.take 22 (.call 23 (.call 24 (.take 25 .done)))))) (.call 14 (.call 21 (.take 22 (.call 23 (.call 24 (.take 25 .done))))))) (.call 8 (.call 14 (.call 21 (.take 22 (.call 23 (.call 24 (.take 25 .done))))))))))))))))))))))))))
          (by kernel_rfl) (by kernel_rfl) (by kernel_rfl) (SB.out _ hb0) ?_
        generalize wr.drew = W0 at *
        iterate 18 (refine tree_take (v := ?_) rfl (by rfl) ?_ ?_; rotate_left; (focus (intro w hSw; (try dsimp only at hSw); go_simp; (try with_reducible rfl); done)); (try simp (maxSteps := 10000000) only [Act.put, List.setIfInBounds_toArray, List.set_cons_zero, List.set_cons_succ]))
        refine tree_two ?_ ?_
        · refine call_at rfl (by rfl) (fun K hK => ?_)
          unfold Oper.wp
          simp only [execOp, Act.eval]
          go_simp
          have hb1 := hb0.alloc hb0.size (.cells #[] 9)
          have SZ1 : Hid ((W0.alloc (.cells #[] 9)).heap.size = W0.heap.size + 1) := by show _ = _; simp
          have e1 := made_row (B := wr.heap.size) W0 hb0.size
          refine hK.out _ _ (SB.out _ hb1) (fun _ => ?_)
          clear hK
          generalize W0.alloc (.cells #[] 9) = W1 at *
          (try simp (maxSteps := 10000000) only [Act.put, List.setIfInBounds_toArray, List.set_cons_zero, List.set_cons_succ])
          refine tree_two ?_ ?_
          · refine call_at rfl (by rfl) (fun K hK => ?_)
            refine wp_apptx _ _ 33 rfl wr.heap.size 9 i0 (.string ⟨#[]⟩) Try.underlying33 hi hz0 hz1 hz2 rfl (.slice (some ⟨W0.heap.size, 0, none⟩) 0 0) 0 [] rfl e1 p2 ln c2 new rfl HLN.out (TN.out _ hb1) (by omega) hb1.size ?_
            intro va W2 rva grva lcva
            rw [Nat.zero_add, List.nil_append] at rva
            have hb2 := hb1.grown grva hb1.size (fun g hg => (e1.lt g hg).1)
            have la := rva.lt
            obtain ⟨qva, dva, rfl⟩ := row_form rva
            refine hK.out _ _ (SB.out _ hb2) (fun _ => ?_)
            clear hK
            (try simp (maxSteps := 10000000) only [Act.put, List.setIfInBounds_toArray, List.set_cons_zero, List.set_cons_succ])
            refine tree_call ?_
            refine call_at rfl (by rfl) (fun K hK => ?_)
            unfold Oper.wp
            simp only [execOp, Act.eval]
            go_simp
            have hb3 := hb2.alloc hb2.size (.cells #[] 9)
            have SZ3 : Hid ((W2.alloc (.cells #[] 9)).heap.size = W2.heap.size + 1) := by show _ = _; simp
            have e3 := made_row (B := wr.heap.size) W2 hb2.size
            have rva := rva.alloc (.cells #[] 9)
            refine hK.out _ _ (SB.out _ hb3) (fun _ => ?_)
            clear hK
            generalize W2.alloc (.cells #[] 9) = W3 at *
            (try simp (maxSteps := 10000000) only [Act.put, List.setIfInBounds_toArray, List.set_cons_zero, List.set_cons_succ])
            refine tree_call ?_
            refine call_at rfl (by rfl) (fun K hK => ?_)
            refine wp_apptx _ _ 33 rfl wr.heap.size 9 i0 (.string ⟨#[]⟩) Try.underlying33 hi hz0 hz1 hz2 rfl (.slice (some ⟨W2.heap.size, 0, none⟩) 0 0) 0 [] rfl e3 p1 lo c1 old rfl HLO.out (TO.out _ hb3) (by omega) hb3.size ?_
            intro vb W4 rvb grvb lcvb
            rw [Nat.zero_add, List.nil_append] at rvb
            have hb4 := hb3.grown grvb hb3.size (fun g hg => (e3.lt g hg).1)
            have rva := rva.kept grvb (blk_ne (fun g e => by have := (la g e).2; (try dsimp only); omega))
            have apart : ∀ g, vb.ownBlock = some g → Value.ownBlock (.slice qva ln dva) ≠ some g := fun g e e2 => by
              have h1 := (la g e2).2
              rcases lcvb with h | h
              · have h2 := blk_inj (h.symm.trans e); (try dsimp only at h2); (try have z1 := SZ1.out); (try have z2 := SZ2.out); (try have z3 := SZ3.out); (try dsimp only); omega
              · have h2 := blk_inj' (h.symm.trans e); (try have z1 := SZ1.out); (try have z2 := SZ2.out); (try have z3 := SZ3.out); omega
            obtain ⟨qvb, dvb, rfl⟩ := row_form rvb
            refine hK.out _ _ (SB.out _ hb4) (fun _ => ?_)
            clear hK
            (try simp (maxSteps := 10000000) only [Act.put, List.setIfInBounds_toArray, List.set_cons_zero, List.set_cons_succ])
            (refine tree_take (v := ?_) rfl (by rfl) ?_ ?_; rotate_left; (focus (intro w hSw; (try dsimp only at hSw); go_simp; (try with_reducible rfl); done)); (try simp (maxSteps := 10000000) only [Act.put, List.setIfInBounds_toArray, List.set_cons_zero, List.set_cons_succ]))
            refine tree_call ?_
            refine call_at rfl (by rfl) (fun K hK => ?_)
            unfold Oper.wp
            simp only [execOp, Act.eval]
            go_simp
            have hb5 := hb4.alloc hb4.size (.cells #[.int .i64 (IntKind.i64.wrap (ps + mo)), .slice qva ln dva, .slice qvb lo dvb] 47)
            have HH4 : HuOwn w.heap.size W4 u6 hs us := HO.out.later hb4
            have s4 := hb4.size
            have p3 : W4.ownsRow w.heap.size 9 1 (.slice qva ln dva) new.length (new.map Value.string) := by rw [HLN.out]; exact own_mono rva hsr
            have p4 : W4.ownsRow w.heap.size 9 1 (.slice qvb lo dvb) old.length (old.map Value.string) := by rw [HLO.out]; exact own_mono rvb hsr
            refine hK.out _ _ (SB.out _ hb5) (fun _ => ?_)
            clear hK
            (try simp (maxSteps := 10000000) only [Act.put, List.setIfInBounds_toArray, List.set_cons_zero, List.set_cons_succ])
            refine tree_call ?_
            refine call_at rfl (by rfl) (fun K hK => ?_)
            refine wp_appblk _ _ 40 rfl w.heap.size 47 i1 (.agg #[.int .i64 0, .slice none 0 0, .slice none 0 0]) 3 56 Try.underlying40 hj hy0 hy1 hy2 rfl (by decide) u6 hs.length (huCells hs us) rfl (HH4.row.alloc _) ⟨W4.heap.size, 0, none⟩ 1 1 [.int .i64 (IntKind.i64.wrap (ps + mo)), .slice qva ln dva, .slice qvb lo dvb] rfl rfl (hu_cells_new _ _ _ _ _) (by simp [Value.oneCell']) (by unfold maxLen; omega) (by omega) (by rw [World.size_alloc]; omega) ?_
            intro v6 W6 ho6 hgr6 hbk6
            have hpush := HuOwn.push (k := (IntKind.i64.wrap (ps + mo))) (lo := wr.heap.size) HH4 HO.out.all_lt p3 p4 (fun g hg => (rva.lt g hg).1) (fun g hg => ⟨(rvb.lt g hg).1, apart g hg⟩) hgr6 ho6 hbk6
            have hb6 : Below w.heap.size w W6 := (HBR.out.trans (hb5.mono hsr)).grown hgr6 (by rw [World.size_alloc]; omega) (fun g hg => (HH4.row.lt g hg).1)
            refine hK.out _ _ (SBW.out _ hb6) (fun _ => ?_)
            clear hK
            (try simp (maxSteps := 10000000) only [Act.put, List.setIfInBounds_toArray, List.set_cons_zero, List.set_cons_succ])
            (refine tree_take (v := ?_) rfl (by rfl) ?_ ?_; rotate_left; (focus (intro w hSw; (try dsimp only at hSw); go_simp; (try with_reducible rfl); done)); (try simp (maxSteps := 10000000) only [Act.put, List.setIfInBounds_toArray, List.set_cons_zero, List.set_cons_succ]))
            refine tree_end ?_
            have HP6 := Lib.hid hpush
            have HB6 := Lib.hid hb6
            clear hpush hb6 rva rvb apart hb0 hb1 hb2 hb3 hb4 hb5 HH4 p3 p4 ho6 hgr6 hbk6
            obtain ⟨s0, s1, s2⟩ := SBW.out _ HB6.out
            have HP7 := HP6.out
            rw [Go.IntWalk.i64_left] at HP7
            have HP6 := Lib.hid HP7
            have hs6 := HB6.out.size
            clear HP7
            go_wp2_with fail
            go_quiet (fail)
            rw [wrap_more]
            have HP8 := Lib.hid (HP6.out.later (belowDN (Below.refl _ _) nq))
            clear HP6 s0 s1 s2
            go_wp2
            go_roundg (gk - 1)
            case rel => exact ⟨k + 1, hs ++ [(⟨wrap64 (ps + mo), new, old⟩ : Hu)], us ++ [((.slice qva ln dva, .slice qvb lo dvb) : Value × Value)], by omega, by go_num, by rw [← hmx.out], belowDN HB6.out _, HP8.out, hx.out⟩
            case measure => omega
          · refine call_at rfl (by rfl) (fun K hK => ?_)
            unfold Oper.wp
            simp only [execOp, Act.eval]
            go_simp
            have hb2 := hb1.alloc hb1.size (.cells #[] 9)
            have SZ2 : Hid ((W1.alloc (.cells #[] 9)).heap.size = W1.heap.size + 1) := by show _ = _; simp
            have e2 := made_row (B := wr.heap.size) W1 hb1.size
            have e1 := e1.alloc (.cells #[] 9)
            refine hK.out _ _ (SB.out _ hb2) (fun _ => ?_)
            clear hK
            generalize W1.alloc (.cells #[] 9) = W2 at *
            (try simp (maxSteps := 10000000) only [Act.put, List.setIfInBounds_toArray, List.set_cons_zero, List.set_cons_succ])
            refine tree_call ?_
            refine call_at rfl (by rfl) (fun K hK => ?_)
            refine wp_apptx _ _ 33 rfl wr.heap.size 9 i0 (.string ⟨#[]⟩) Try.underlying33 hi hz0 hz1 hz2 rfl (.slice (some ⟨W0.heap.size, 0, none⟩) 0 0) 0 [] rfl e1 p2 ln c2 new rfl HLN.out (TN.out _ hb2) (by omega) hb2.size ?_
            intro va W3 rva grva lcva
            rw [Nat.zero_add, List.nil_append] at rva
            have hb3 := hb2.grown grva hb2.size (fun g hg => (e1.lt g hg).1)
            have e2 := e2.kept grva (blk_ne (fun g e => by have h2 := blk_inj e; (try dsimp only at h2); (try have z1 := SZ1.out); (try have z2 := SZ2.out); (try have z3 := SZ3.out); (try dsimp only); omega))
            have la := rva.lt
            have la2 : ∀ g, va.ownBlock = some g → g ≠ W1.heap.size := fun g e e2 => by
              rcases lcva with h | h
              · have h2 := blk_inj (h.symm.trans e); (try dsimp only at h2); (try have z1 := SZ1.out); (try have z2 := SZ2.out); (try have z3 := SZ3.out); (try dsimp only); omega
              · have h2 := blk_inj' (h.symm.trans e); (try have z1 := SZ1.out); (try have z2 := SZ2.out); (try have z3 := SZ3.out); omega
            obtain ⟨qva, dva, rfl⟩ := row_form rva
            refine hK.out _ _ (SB.out _ hb3) (fun _ => ?_)
            clear hK
            (try simp (maxSteps := 10000000) only [Act.put, List.setIfInBounds_toArray, List.set_cons_zero, List.set_cons_succ])
            refine tree_call ?_
            refine call_at rfl (by rfl) (fun K hK => ?_)
            refine wp_apptx _ _ 33 rfl wr.heap.size 9 i0 (.string ⟨#[]⟩) Try.underlying33 hi hz0 hz1 hz2 rfl (.slice (some ⟨W1.heap.size, 0, none⟩) 0 0) 0 [] rfl e2 p1 lo c1 old rfl HLO.out (TO.out _ hb3) (by omega) hb3.size ?_
            intro vb W4 rvb grvb lcvb
            rw [Nat.zero_add, List.nil_append] at rvb
            have hb4 := hb3.grown grvb hb3.size (fun g hg => (e2.lt g hg).1)
            have rva := rva.kept grvb (blk_ne la2)
            have apart : ∀ g, vb.ownBlock = some g → Value.ownBlock (.slice qva ln dva) ≠ some g := fun g e e2 => by
              have h1 := (la g e2).2
              have h3 := la2 g e2
              rcases lcvb with h | h
              · have h2 := blk_inj (h.symm.trans e); (try dsimp only at h2); (try have z1 := SZ1.out); (try have z2 := SZ2.out); (try have z3 := SZ3.out); (try dsimp only); omega
              · have h2 := blk_inj' (h.symm.trans e); (try have z1 := SZ1.out); (try have z2 := SZ2.out); (try have z3 := SZ3.out); omega
            obtain ⟨qvb, dvb, rfl⟩ := row_form rvb
            refine hK.out _ _ (SB.out _ hb4) (fun _ => ?_)
            clear hK
            (try simp (maxSteps := 10000000) only [Act.put, List.setIfInBounds_toArray, List.set_cons_zero, List.set_cons_succ])
            (refine tree_take (v := ?_) rfl (by rfl) ?_ ?_; rotate_left; (focus (intro w hSw; (try dsimp only at hSw); go_simp; (try with_reducible rfl); done)); (try simp (maxSteps := 10000000) only [Act.put, List.setIfInBounds_toArray, List.set_cons_zero, List.set_cons_succ]))
            refine tree_call ?_
            refine call_at rfl (by rfl) (fun K hK => ?_)
            unfold Oper.wp
            simp only [execOp, Act.eval]
            go_simp
            have hb5 := hb4.alloc hb4.size (.cells #[.int .i64 (IntKind.i64.wrap (ps + mo)), .slice qva ln dva, .slice qvb lo dvb] 47)
            have HH4 : HuOwn w.heap.size W4 u6 hs us := HO.out.later hb4
            have s4 := hb4.size
            have p3 : W4.ownsRow w.heap.size 9 1 (.slice qva ln dva) new.length (new.map Value.string) := by rw [HLN.out]; exact own_mono rva hsr
            have p4 : W4.ownsRow w.heap.size 9 1 (.slice qvb lo dvb) old.length (old.map Value.string) := by rw [HLO.out]; exact own_mono rvb hsr
            refine hK.out _ _ (SB.out _ hb5) (fun _ => ?_)
            clear hK
            (try simp (maxSteps := 10000000) only [Act.put, List.setIfInBounds_toArray, List.set_cons_zero, List.set_cons_succ])
            refine tree_call ?_
            refine call_at rfl (by rfl) (fun K hK => ?_)
            refine wp_appblk _ _ 40 rfl w.heap.size 47 i1 (.agg #[.int .i64 0, .slice none 0 0, .slice none 0 0]) 3 56 Try.underlying40 hj hy0 hy1 hy2 rfl (by decide) u6 hs.length (huCells hs us) rfl (HH4.row.alloc _) ⟨W4.heap.size, 0, none⟩ 1 1 [.int .i64 (IntKind.i64.wrap (ps + mo)), .slice qva ln dva, .slice qvb lo dvb] rfl rfl (hu_cells_new _ _ _ _ _) (by simp [Value.oneCell']) (by unfold maxLen; omega) (by omega) (by rw [World.size_alloc]; omega) ?_
            intro v6 W6 ho6 hgr6 hbk6
            have hpush := HuOwn.push (k := (IntKind.i64.wrap (ps + mo))) (lo := wr.heap.size) HH4 HO.out.all_lt p3 p4 (fun g hg => (rva.lt g hg).1) (fun g hg => ⟨(rvb.lt g hg).1, apart g hg⟩) hgr6 ho6 hbk6
            have hb6 : Below w.heap.size w W6 := (HBR.out.trans (hb5.mono hsr)).grown hgr6 (by rw [World.size_alloc]; omega) (fun g hg => (HH4.row.lt g hg).1)
            refine hK.out _ _ (SBW.out _ hb6) (fun _ => ?_)
            clear hK
            (try simp (maxSteps := 10000000) only [Act.put, List.setIfInBounds_toArray, List.set_cons_zero, List.set_cons_succ])
            (refine tree_take (v := ?_) rfl (by rfl) ?_ ?_; rotate_left; (focus (intro w hSw; (try dsimp only at hSw); go_simp; (try with_reducible rfl); done)); (try simp (maxSteps := 10000000) only [Act.put, List.setIfInBounds_toArray, List.set_cons_zero, List.set_cons_succ]))
            refine tree_end ?_
            have HP6 := Lib.hid hpush
            have HB6 := Lib.hid hb6
            clear hpush hb6 rva rvb apart hb0 hb1 hb2 hb3 hb4 hb5 HH4 p3 p4 ho6 hgr6 hbk6
            obtain ⟨s0, s1, s2⟩ := SBW.out _ HB6.out
            have HP7 := HP6.out
            rw [Go.IntWalk.i64_left] at HP7
            have HP6 := Lib.hid HP7
            have hs6 := HB6.out.size
            clear HP7
            go_wp2_with fail
            go_quiet (fail)
            rw [wrap_more]
            have HP8 := Lib.hid (HP6.out.later (belowDN (Below.refl _ _) nq))
            clear HP6 s0 s1 s2
            go_wp2
            go_roundg (gk - 1)
            case rel => exact ⟨k + 1, hs ++ [(⟨wrap64 (ps + mo), new, old⟩ : Hu)], us ++ [((.slice qva ln dva, .slice qvb lo dvb) : Value × Value)], by omega, by go_num, by rw [← hmx.out], belowDN HB6.out _, HP8.out, hx.out⟩
            case measure => omega
        · refine call_at rfl (by rfl) (fun K hK => ?_)
          unfold Oper.wp
          simp only [execOp, Act.eval]
          go_simp
          have hb1 := hb0.alloc hb0.size (.cells #[] 9)
          have SZ1 : Hid ((W0.alloc (.cells #[] 9)).heap.size = W0.heap.size + 1) := by show _ = _; simp
          have e2 := made_row (B := wr.heap.size) W0 hb0.size
          refine hK.out _ _ (SB.out _ hb1) (fun _ => ?_)
          clear hK
          generalize W0.alloc (.cells #[] 9) = W1 at *
          (try simp (maxSteps := 10000000) only [Act.put, List.setIfInBounds_toArray, List.set_cons_zero, List.set_cons_succ])
          refine tree_call ?_
          refine call_at rfl (by rfl) (fun K hK => ?_)
          unfold Oper.wp
          simp only [execOp, Act.eval]
          go_simp
          have hb2 := hb1.alloc hb1.size (.cells #[] 9)
          have SZ2 : Hid ((W1.alloc (.cells #[] 9)).heap.size = W1.heap.size + 1) := by show _ = _; simp
          have e1 := made_row (B := wr.heap.size) W1 hb1.size
          have e2 := e2.alloc (.cells #[] 9)
          refine hK.out _ _ (SB.out _ hb2) (fun _ => ?_)
          clear hK
          generalize W1.alloc (.cells #[] 9) = W2 at *
          (try simp (maxSteps := 10000000) only [Act.put, List.setIfInBounds_toArray, List.set_cons_zero, List.set_cons_succ])
          refine tree_call ?_
          refine call_at rfl (by rfl) (fun K hK => ?_)
          refine wp_apptx _ _ 33 rfl wr.heap.size 9 i0 (.string ⟨#[]⟩) Try.underlying33 hi hz0 hz1 hz2 rfl (.slice (some ⟨W1.heap.size, 0, none⟩) 0 0) 0 [] rfl e1 p2 ln c2 new rfl HLN.out (TN.out _ hb2) (by omega) hb2.size ?_
          intro va W3 rva grva lcva
          rw [Nat.zero_add, List.nil_append] at rva
          have hb3 := hb2.grown grva hb2.size (fun g hg => (e1.lt g hg).1)
          have e2 := e2.kept grva (blk_ne (fun g e => by have h2 := blk_inj e; (try dsimp only at h2); (try have z1 := SZ1.out); (try have z2 := SZ2.out); (try have z3 := SZ3.out); (try dsimp only); omega))
          have la := rva.lt
          have la2 : ∀ g, va.ownBlock = some g → g ≠ W0.heap.size := fun g e e2 => by
            rcases lcva with h | h
            · have h2 := blk_inj (h.symm.trans e); (try dsimp only at h2); (try have z1 := SZ1.out); (try have z2 := SZ2.out); (try have z3 := SZ3.out); (try dsimp only); omega
            · have h2 := blk_inj' (h.symm.trans e); (try have z1 := SZ1.out); (try have z2 := SZ2.out); (try have z3 := SZ3.out); omega
          obtain ⟨qva, dva, rfl⟩ := row_form rva
          refine hK.out _ _ (SB.out _ hb3) (fun _ => ?_)
          clear hK
          (try simp (maxSteps := 10000000) only [Act.put, List.setIfInBounds_toArray, List.set_cons_zero, List.set_cons_succ])
          refine tree_call ?_
          refine call_at rfl (by rfl) (fun K hK => ?_)
          refine wp_apptx _ _ 33 rfl wr.heap.size 9 i0 (.string ⟨#[]⟩) Try.underlying33 hi hz0 hz1 hz2 rfl (.slice (some ⟨W0.heap.size, 0, none⟩) 0 0) 0 [] rfl e2 p1 lo c1 old rfl HLO.out (TO.out _ hb3) (by omega) hb3.size ?_
          intro vb W4 rvb grvb lcvb
          rw [Nat.zero_add, List.nil_append] at rvb
          have hb4 := hb3.grown grvb hb3.size (fun g hg => (e2.lt g hg).1)
          have rva := rva.kept grvb (blk_ne la2)
          have apart : ∀ g, vb.ownBlock = some g → Value.ownBlock (.slice qva ln dva) ≠ some g := fun g e e2 => by
            have h1 := (la g e2).2
            have h3 := la2 g e2
            rcases lcvb with h | h
            · have h2 := blk_inj (h.symm.trans e); (try dsimp only at h2); (try have z1 := SZ1.out); (try have z2 := SZ2.out); (try have z3 := SZ3.out); (try dsimp only); omega
            · have h2 := blk_inj' (h.symm.trans e); (try have z1 := SZ1.out); (try have z2 := SZ2.out); (try have z3 := SZ3.out); omega
          obtain ⟨qvb, dvb, rfl⟩ := row_form rvb
          refine hK.out _ _ (SB.out _ hb4) (fun _ => ?_)
          clear hK
          (try simp (maxSteps := 10000000) only [Act.put, List.setIfInBounds_toArray, List.set_cons_zero, List.set_cons_succ])
          (refine tree_take (v := ?_) rfl (by rfl) ?_ ?_; rotate_left; (focus (intro w hSw; (try dsimp only at hSw); go_simp; (try with_reducible rfl); done)); (try simp (maxSteps := 10000000) only [Act.put, List.setIfInBounds_toArray, List.set_cons_zero, List.set_cons_succ]))
          refine tree_call ?_
          refine call_at rfl (by rfl) (fun K hK => ?_)
          unfold Oper.wp
          simp only [execOp, Act.eval]
          go_simp
          have hb5 := hb4.alloc hb4.size (.cells #[.int .i64 (IntKind.i64.wrap (ps + mo)), .slice qva ln dva, .slice qvb lo dvb] 47)
          have HH4 : HuOwn w.heap.size W4 u6 hs us := HO.out.later hb4
          have s4 := hb4.size
          have p3 : W4.ownsRow w.heap.size 9 1 (.slice qva ln dva) new.length (new.map Value.string) := by rw [HLN.out]; exact own_mono rva hsr
          have p4 : W4.ownsRow w.heap.size 9 1 (.slice qvb lo dvb) old.length (old.map Value.string) := by rw [HLO.out]; exact own_mono rvb hsr
          refine hK.out _ _ (SB.out _ hb5) (fun _ => ?_)
          clear hK
          (try simp (maxSteps := 10000000) only [Act.put, List.setIfInBounds_toArray, List.set_cons_zero, List.set_cons_succ])
          refine tree_call ?_
          refine call_at rfl (by rfl) (fun K hK => ?_)
          refine wp_appblk _ _ 40 rfl w.heap.size 47 i1 (.agg #[.int .i64 0, .slice none 0 0, .slice none 0 0]) 3 56 Try.underlying40 hj hy0 hy1 hy2 rfl (by decide) u6 hs.length (huCells hs us) rfl (HH4.row.alloc _) ⟨W4.heap.size, 0, none⟩ 1 1 [.int .i64 (IntKind.i64.wrap (ps + mo)), .slice qva ln dva, .slice qvb lo dvb] rfl rfl (hu_cells_new _ _ _ _ _) (by simp [Value.oneCell']) (by unfold maxLen; omega) (by omega) (by rw [World.size_alloc]; omega) ?_
          intro v6 W6 ho6 hgr6 hbk6
          have hpush := HuOwn.push (k := (IntKind.i64.wrap (ps + mo))) (lo := wr.heap.size) HH4 HO.out.all_lt p3 p4 (fun g hg => (rva.lt g hg).1) (fun g hg => ⟨(rvb.lt g hg).1, apart g hg⟩) hgr6 ho6 hbk6
          have hb6 : Below w.heap.size w W6 := (HBR.out.trans (hb5.mono hsr)).grown hgr6 (by rw [World.size_alloc]; omega) (fun g hg => (HH4.row.lt g hg).1)
          refine hK.out _ _ (SBW.out _ hb6) (fun _ => ?_)
          clear hK
          (try simp (maxSteps := 10000000) only [Act.put, List.setIfInBounds_toArray, List.set_cons_zero, List.set_cons_succ])
          (refine tree_take (v := ?_) rfl (by rfl) ?_ ?_; rotate_left; (focus (intro w hSw; (try dsimp only at hSw); go_simp; (try with_reducible rfl); done)); (try simp (maxSteps := 10000000) only [Act.put, List.setIfInBounds_toArray, List.set_cons_zero, List.set_cons_succ]))
          refine tree_end ?_
          have HP6 := Lib.hid hpush
          have HB6 := Lib.hid hb6
          clear hpush hb6 rva rvb apart hb0 hb1 hb2 hb3 hb4 hb5 HH4 p3 p4 ho6 hgr6 hbk6
          obtain ⟨s0, s1, s2⟩ := SBW.out _ HB6.out
          have HP7 := HP6.out
          rw [Go.IntWalk.i64_left] at HP7
          have HP6 := Lib.hid HP7
          have hs6 := HB6.out.size
          clear HP7
          go_wp2_with fail
          go_quiet (fail)
          rw [wrap_more]
          have HP8 := Lib.hid (HP6.out.later (belowDN (Below.refl _ _) nq))
          clear HP6 s0 s1 s2
          go_wp2
          go_roundg (gk - 1)
          case rel => exact ⟨k + 1, hs ++ [(⟨wrap64 (ps + mo), new, old⟩ : Hu)], us ++ [((.slice qva ln dva, .slice qvb lo dvb) : Value × Value)], by omega, by go_num, by rw [← hmx.out], belowDN HB6.out _, HP8.out, hx.out⟩
          case measure => omega
      · obtain rfl : k = n := by omega
        have hall : xs.take k = xs := List.take_of_length_le (by have := HN.out; omega)
        have ho := HO.out
        have hxe := HX.out
        rw [hall] at hxe
        rw [hxe] at ho
        obtain ⟨ph, ch, rfl, hrh⟩ := ho.reads
        have hil : (inv 0 xs).length = k := by rw [inv_len]; exact HN.out
        rw [hil]
        have cD1 := cD wr ph ch hrh
        rw [hil] at ho
        have HO := Lib.hid ho
        have HBR := Lib.hid hbr
        clear HX hxe ho hrh hbr cD hall HR HHB HB1 hil
        by_cases hbad : may 0 (inv 0 xs) < (inv 0 xs).length
        · rw [chkX_bad hbad] at cD1
          have hY := HY.out
          rw [if_pos hbad] at hY
          subst hY
          clear hbad HY
          go_wp2_with fail
          refine cD1.mono ?_
          rintro e w3 ⟨rfl, hb3⟩
          have hbw3 := HBR.out.trans (hb3.mono hsr)
          have hgv : GivesI w (80, []) (.returned (.tuple #[.slice none 0 0, .int .i64 80])) w3 := GivesI.none hbw3
          have HGV := Lib.hid hgv
          clear cD1 hb3 hbw3 hgv
          go_wp2_with fail
          go_ret2
          exact HGV.out
        · rw [chkX_ok (Good.of_may2 hbad)] at cD1
          have hY := HY.out
          rw [if_neg hbad] at hY
          subst hY
          clear hbad HY
          go_wp2_with fail
          refine cD1.mono ?_
          rintro e w3 ⟨rfl, hb3⟩
          have hbw3 := HBR.out.trans (hb3.mono hsr)
          have hgv : GivesI w (0, inv 0 xs) (.returned (.tuple #[.slice ph k ch, .int .i64 0])) w3 := ⟨hbw3, _, us, rfl, HO.out.later hb3⟩
          have HGV := Lib.hid hgv
          clear cD1 hb3 hbw3 hgv
          go_wp2_with fail
          go_ret2
          exact HGV.out
end Go.Proofs.Ytjmnbnlhahbcjaa
