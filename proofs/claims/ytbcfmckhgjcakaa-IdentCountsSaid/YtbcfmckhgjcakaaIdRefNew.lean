/- scrimref04.New, by its contract. -/
import Derived.Test.YtbcfmckhgjcakaaIdRefCopy
namespace Go.Proofs.Ytbcfmckhgjcakaa
open Go Go.RowKit Go.Maps

/-- What the document's New answers. -/
def NewRef (xs : List Li) (W : World) (e : Ending) (w' : World) : Prop := Below W.heap.size W w' ∧
  ((okN xs ∧ ∃ p v1 v2 ls, e = .returned (.tuple #[.pointer (some ⟨p, 0, none⟩), .int .i64 0]) ∧ RefAt w' p W.heap.size v1 v2 ls ∧ (∀ a, lookF ls a = lastF xs a) ∧ ls.length ≤ xs.length) ∨
   (¬ okN xs ∧ e = .returned (.tuple #[.pointer none, .int .i64 50])))
theorem RefAt.drewN {w : World} {p B : Nat} {v1 v2 : Value} {ls : List (Nat × Int)} (h : RefAt w p B v1 v2 ls) (q : Nat) : RefAt (w.drewN q) p B v1 v2 ls := ⟨h.blk, h.hp, h.o1, h.o2, h.d1, h.d2, h.d3, h.nd, h.lo⟩
theorem belowN {B : Nat} {w W : World} (h : Below B w W) (q : Nat) : Below B w (W.drewN q) := ⟨h.os, h.tape, h.output, h.size, h.block⟩
theorem refAt_new (w : World) (B : Nat) (hB : B ≤ w.heap.size) : RefAt (w.alloc (.cells #[.slice none 0 0, .slice none 0 0] 56)) w.heap.size B (.slice none 0 0) (.slice none 0 0) [] :=
  ⟨heap_alloc_new w _, hB, World.ownsRow_nil _ _ _ _, World.ownsRow_nil _ _ _ _, by simp [Value.ownBlock], by simp [Value.ownBlock], fun g e => by simp [Value.ownBlock] at e, List.nodup_nil, fun x hx => by simp at hx⟩
set_option maxRecDepth 100000 in
set_option maxHeartbeats 4000000 in
theorem refNew_any (w : World) (p : Option Addr) (n c : Nat) (xs : List Li) (hn : xs.length = n) (hnm : n < 17592186044415) (hr : LiRow w p xs) (hf : ∀ x ∈ xs, LiOk x) :
    Calls Try.prog 7 #[.slice p n c] w (NewRef xs w) := by
  have hb0 : Below w.heap.size w (w.alloc (.cells #[.slice none 0 0, .slice none 0 0] 56)) := (Below.refl _ _).alloc (Nat.le_refl _) _
  have cT := refTwice_any (w.alloc (.cells #[.slice none 0 0, .slice none 0 0] 56)) p n c xs hn (by unfold maxLen; omega) (hr.later hb0) hf
  have h0 := refAt_new w w.heap.size (Nat.le_refl _)
  have HN := Lib.hid hn
  have hnm' : n ≤ 9223372036854775807 := by omega
  clear hn
  unfold twV at cT
  cases htw : twiceI xs with
  | some i =>
    rw [htw] at cT
    have hno : Hid (¬ okN xs) := fun h => by have := h.1; rw [htw] at this; cases this
    clear htw
    go_enter Try.func7, Try.ntmps7
    go_wp2_with (go_at_call 18; refine cT.mono ?_; rintro e w1 ⟨rfl, hb1⟩)
    go_ret2
    exact ⟨hb0.trans (hb1.mono (by simp)), .inr ⟨hno.out, rfl⟩⟩
  | none =>
    rw [htw] at cT
    have HT := Lib.hid htw
    clear htw
    go_enter Try.func7, Try.ntmps7
    go_wp2_with (go_at_call 18; refine cT.mono ?_; rintro e w1 ⟨rfl, hb1⟩)
    have hbw : Below w.heap.size w w1 := hb0.trans (hb1.mono (by simp))
    have h1 : RefAt w1 w.heap.size w.heap.size (.slice none 0 0) (.slice none 0 0) [] := h0.later hb1
    go_loopg [7] n (fun g vi wr => ∃ k : Nat, k + g = n ∧ vi = .int .i64 k ∧ Hid (∀ x ∈ xs.take k, 1 ≤ x.n ∧ x.n ≤ 4611686018427387904) ∧ Below w.heap.size w wr ∧ Hid (∃ v1 v2 ls, RefAt wr w.heap.size w.heap.size v1 v2 ls ∧ (∀ a, lookF ls a = lastF (xs.take k) a) ∧ ls.length ≤ k))
    case atStart => exact ⟨0, by omega, rfl, fun x hx => by simp at hx, hbw, ⟨_, _, [], h1, fun a => by rw [List.take_zero]; rfl, Nat.le_refl _⟩⟩
    case round =>
      obtain ⟨k, hk, rfl, hgo, hbr, HI⟩ := hrel
      by_cases hlt : k < n
      · have hlt' : k < xs.length := by rw [HN.out]; exact hlt
        obtain ⟨b1, o1, rfl, hb1', h1c⟩ := hr.at k hlt'
        obtain ⟨g0, g1, g2, g3⟩ := h1c wr hbr
        have hx := hf xs[k] (List.getElem_mem hlt')
        have hbad := Lib.hid (fun (h : ¬ (1 ≤ xs[k].n ∧ xs[k].n ≤ 4611686018427387904)) => (show ¬ okN xs from fun ho => h (ho.2 _ (List.getElem_mem hlt'))))
        have hgood := Lib.hid (fun (h : 1 ≤ xs[k].n ∧ xs[k].n ≤ 4611686018427387904) => (show ∀ x ∈ xs.take (k + 1), 1 ≤ x.n ∧ x.n ≤ 4611686018427387904 from fun x hx => by
          rw [List.take_succ_eq_append_getElem hlt', List.mem_append, List.mem_singleton] at hx
          rcases hx with hx | rfl
          · exact hgo.out x hx
          · exact h))
        have hst := Lib.hid (show lastF (xs.take (k + 1)) = upd (lastF (xs.take k)) xs[k].u (max (lastF (xs.take k) xs[k].u) xs[k].n) by rw [List.take_succ_eq_append_getElem hlt', lastF_snoc])
        have hH1 := Lib.hid h1c
        generalize xs[k] = x at *
        obtain ⟨v1, v2, ls, hR, hlk, hll⟩ := HI.out
        have hbz := hbr.size
        have HB := Lib.hid hbr
        have hk0 : (0 : Int) ≤ (k : Int) := by omega
        have hkI : (k : Int) < (n : Int) := by omega
        clear h1c hbr hf hr hgo cT h0 hbw HI hb0 h1
        by_cases hN1 : x.n < 1
        · have hno : Hid (¬ okN xs) := hbad.out (by omega)
          clear hbad hgood hst hR hlk
          go_wp2_with fail
          go_ret2
          exact ⟨HB.out, .inr ⟨hno.out, rfl⟩⟩
        · by_cases hN2 : 4611686018427387904 < x.n
          · have hno : Hid (¬ okN xs) := hbad.out (by omega)
            clear hbad hgood hst hR hlk
            go_wp2_with fail
            go_ret2
            exact ⟨HB.out, .inr ⟨hno.out, rfl⟩⟩
          · have hgood' := Lib.hid (hgood.out ⟨by omega, by omega⟩)
            have cA := at_any wr w.heap.size w.heap.size v1 v2 ls x.u hx.u hR hbz (by omega)
            have HR : Aside _ := hR
            have HLK := Lib.hid hlk
            clear hbad hgood hR hlk
            go_wp2_with fail
            refine cA.mono ?_
            rintro e w2 ⟨v1', v2', ls', i, rfl, h', hkb, ho, hg, hl, hle⟩
            obtain ⟨hi, e1⟩ := at_get h'.nd hg
            obtain ⟨k0, k1, f0, f1⟩ := cells2 h'.blk
            obtain ⟨gg, cap, rfl, hgl, hgp, hc, hfz⟩ := last_cell h' hi
            have hgB : w.heap.size ≤ gg := (h'.o2.lt gg rfl).1
            have e1' : ls'[i].1 = x.u := by rw [e1]
            have hb2 : Below w.heap.size w w2 := hkb.below HB.out hbz (fun k hk => (HR.out.own_lt hk).1)
            obtain ⟨m0, m1, m2, m3⟩ := hH1.out w2 hb2
            obtain ⟨y, hy⟩ : ∃ y, lookF ls x.u = y := ⟨_, rfl⟩
            have hylo := h'.lo _ (List.getElem_mem hi)
            have hwr := h'.write hi e1' x.n ⟨by omega, by omega⟩
            have hls := lookF_set h'.nd hi e1' x.n
            have hlk2 : ∀ a, lookF ls' a = lastF (xs.take k) a := fun a => by rw [hl, HLK.out a]
            rw [e1, hl, hy] at hc hylo
            have hyl : lastF (xs.take k) x.u = y := by rw [← HLK.out, hy]
            obtain ⟨nn, hnn⟩ : ∃ nn, ls'.length = nn := ⟨_, rfl⟩
            have hH' : Aside _ := h'
            have HLK2 := Lib.hid hlk2
            have hle' : ls'.length ≤ k + 1 := by omega
            rw [hnn] at k1 hle'
            have hi0 : (0 : Int) ≤ (i : Int) := by omega
            have hiI : (i : Int) < (nn : Int) := by omega
            have HYL := Lib.hid hyl
            have HNN := Lib.hid hnn
            have HLS := Lib.hid hls
            have HWR : Aside _ := hwr
            have HB2 := Lib.hid hb2
            have hz2 := hb2.size
            clear cA h' hkb ho hg hl hle e1 hnn hwr hls e1' hy hyl hlk2 hb2 g0 g1 g2 g3 HLK HR
            by_cases hlt2 : y < x.n
            · have HI2 : Hid (∃ v1 v2 ls, RefAt (w2.setCell ⟨gg, i, none⟩ (.int .i64 x.n)) w.heap.size w.heap.size v1 v2 ls ∧ (∀ a, lookF ls a = lastF (xs.take (k + 1)) a) ∧ ls.length ≤ k + 1) := by
                refine ⟨_, _, _, HWR.out, fun a => ?_, by rw [List.length_set, HNN.out]; exact hle'⟩
                rw [HLS.out a, hst.out]
                by_cases e : a = x.u
                · rw [e, upd_same, upd_same, HYL.out]; omega
                · rw [upd_other _ _ e, upd_other _ _ e]; exact HLK2.out a
              clear HWR HLS hH' HLK2 HYL hst
              go_wp2_with fail
              go_quiet (fail)
              go_wp2_with fail
              have hS : (fun W : World => W.cell? ⟨w.heap.size, 1, none⟩ = some (.slice (some ⟨gg, 0, none⟩) nn cap) ∧ W.cell? ⟨b1, o1 + k * 4 + 1, none⟩ = some (.int .i64 x.n)) (w2.drewN nq).drew := ⟨k1, m1⟩
              refine region_ord (fun W : World => W.cell? ⟨w.heap.size, 1, none⟩ = some (.slice (some ⟨gg, 0, none⟩) nn cap) ∧ W.cell? ⟨b1, o1 + k * 4 + 1, none⟩ = some (.int .i64 x.n)) [(0, true), (1, true), (2, true), (3, true), (4, true), (5, true), (6, true), (7, true), (8, true), (9, true), (10, true), (11, false)] (by kernel_rfl) (by kernel_rfl) (by kernel_rfl) (by kernel_rfl) hS ?_
              have HS := Lib.hid hS
              clear hS
              iterate 11 (refine ord_take (v := ?_) rfl (by rfl) ?_ ?_; rotate_left; (focus (intro w hSw; (try dsimp only at hSw); go_simp; (try with_reducible rfl); done)); (try simp (maxSteps := 10000000) only [Act.put, List.setIfInBounds_toArray, List.set_cons_zero, List.set_cons_succ]))
              refine ord_call rfl (by rfl) (fun K hK => ?_)
              unfold Oper.wp
              simp only [execOp, Act.eval]
              go_simp
              have hcl := World.cell?_of_block (w := w2) (w' := w2.setCell ⟨gg, i, none⟩ (.int .i64 x.n)) (a := ⟨w.heap.size, 1, none⟩) (heap_setCell_other w2 ⟨gg, i, none⟩ _ _ (fun e => hgp e.symm))
              have hcm := World.cell?_of_block (w := w2) (w' := w2.setCell ⟨gg, i, none⟩ (.int .i64 x.n)) (a := ⟨b1, o1 + k * 4 + 1, none⟩) (heap_setCell_other w2 ⟨gg, i, none⟩ _ _ (by show b1 ≠ gg; omega))
              refine hK.out _ _ ⟨hcl.trans k1, hcm.trans m1⟩ (fun _ => ?_)
              clear hK
              refine ord_end ?_
              have hbe : Below w.heap.size w (w2.setCell ⟨gg, i, none⟩ (.int .i64 x.n)) := HB2.out.setCell hgB _
              have HBE := Lib.hid hbe
              clear hcl hcm HS k0 k1 f0 f1 hc hfz m0 m1 m2 m3 hbe
              go_wp2_with fail
              go_roundg (gk - 1)
              case rel => exact ⟨k + 1, by omega, by go_num, hgood', belowN HBE.out _, HI2.out.elim fun _ h => h.elim fun _ h => h.elim fun _ h => ⟨_, _, _, h.1.drewN _, h.2.1, h.2.2⟩⟩
              case measure => omega
            · have HI2 : Hid (∃ v1 v2 ls, RefAt w2 w.heap.size w.heap.size v1 v2 ls ∧ (∀ a, lookF ls a = lastF (xs.take (k + 1)) a) ∧ ls.length ≤ k + 1) := by
                refine ⟨_, _, _, hH'.out, fun a => ?_, by rw [HNN.out]; exact hle'⟩
                rw [hst.out]
                by_cases e : a = x.u
                · rw [e, upd_same, HLK2.out, HYL.out]; omega
                · rw [upd_other _ _ e]; exact HLK2.out a
              clear HWR HLS hH' HLK2 HYL hst
              go_wp2_with fail
              go_quiet (fail)
              go_wp2_with fail
              go_roundg (gk - 1)
              case rel => exact ⟨k + 1, by omega, by go_num, hgood', belowN HB2.out _, HI2.out.elim fun _ h => h.elim fun _ h => h.elim fun _ h => ⟨_, _, _, h.1.drewN _, h.2.1, h.2.2⟩⟩
              case measure => omega
      · obtain rfl : n = k := by omega
        have hall : xs.take n = xs := by rw [← HN.out]; exact List.take_length
        rw [hall] at hgo HI
        have HB := Lib.hid hbr
        have hle : Hid (n ≤ xs.length) := by show n ≤ xs.length; rw [HN.out]; exact Nat.le_refl _
        clear hbr hall hbw h0 h1
        go_wp2_with fail
        go_ret2
        obtain ⟨v1, v2, ls, hR, hlk, hll⟩ := HI.out
        exact ⟨HB.out, .inl ⟨⟨HT.out, hgo.out⟩, _, _, _, ls, rfl, hR, hlk, Nat.le_trans hll hle.out⟩⟩
end Go.Proofs.Ytbcfmckhgjcakaa
