/- The document's Touched: by its contract. -/
import Derived.Test.YtjmnbnlhahbcjaaHuTouch
namespace Go.Proofs.Ytjmnbnlhahbcjaa
open Go Go.RowKit

set_option maxRecDepth 100000 in
set_option maxHeartbeats 4000000 in
theorem refTouched_any (w : World) (p : Option Addr) (n c : Nat) (hs : List Hu) (N : Int) (hn : hs.length = n) (hnb : n ≤ 2513169434917) (hr : HuRow w p hs) (hB : HuB hs) :
    Calls Try.prog 52 #[.slice p n c, .int .i64 N] w (GivesB w (tchX hs N)) := by
  obtain ⟨i0, hi, hz0, hz1, hz2⟩ := info_parts boolInfo
  have cC := refCheck_any w p n c hs hn hnb hr hB
  have HN := Lib.hid hn
  have HR := Lib.hid hr
  have HHB := Lib.hid hB
  unfold tchX
  clear hn hr hB
  by_cases hbad : may 0 hs < hs.length
  · rw [chkX_bad hbad] at cC
    rw [if_pos (.inl hbad)]
    go_enter Try.func52, Try.ntmps52
    go_wp2_with fail
    refine cC.mono ?_
    rintro e w1 ⟨rfl, hb1⟩
    clear cC
    go_wp2_with fail
    go_ret2
    exact GivesB.none hb1
  · rw [chkX_ok (by have := may_le 0 hs; omega)] at cC
    by_cases hN0 : N < 0
    · rw [if_pos (.inr (.inl hN0))]
      go_enter Try.func52, Try.ntmps52
      go_wp2_with fail
      refine cC.mono ?_
      rintro e w1 ⟨rfl, hb1⟩
      clear cC
      go_wp2_with fail
      go_ret2
      exact GivesB.none hb1
    · by_cases hN1 : 1048576 < N
      · rw [if_pos (.inr (.inr hN1))]
        go_enter Try.func52, Try.ntmps52
        go_wp2_with fail
        refine cC.mono ?_
        rintro e w1 ⟨rfl, hb1⟩
        clear cC
        go_wp2_with fail
        go_ret2
        exact GivesB.none hb1
      · rw [if_neg (fun h => by rcases h with h | h | h; exact hbad h; exact hN0 h; exact hN1 h)]
        obtain ⟨nn, rfl⟩ : ∃ nn : Nat, N = (nn : Int) := ⟨N.toNat, by omega⟩
        rw [Int.toNat_natCast]
        have hnn : nn ≤ 1048576 := by omega
        have HG := Lib.hid (Good.of_may hbad)
        obtain ⟨X, hX⟩ : ∃ X, tch nn hs (List.replicate nn false) = X := ⟨_, rfl⟩
        rw [hX]
        have HX0 := Lib.hid hX
        clear hX hbad
        go_enter Try.func52, Try.ntmps52
        go_wp2_with fail
        refine cC.mono ?_
        rintro e w1 ⟨rfl, hb1⟩
        obtain ⟨w2, hmk, ho2, hgr2⟩ := run_make_full (P := Try.prog) w1 w.heap.size 66 _ i0 (.bool false) 1 Try.underlying66 hi hz0 hz1 .i64 .i64 nn (by rw [hz2]; omega) (by unfold maxLen; omega) hb1.size
        have hb2 := hb1.grown hgr2 hb1.size (fun g hg => by cases hg)
        rw [show (.bool false : Value).cells = #[.bool false] from rfl, Nat.mul_one, toList_madeCells_one] at ho2
        have HO2 : Hid (w2.ownsRow w.heap.size 4 1 (.slice (some ⟨w1.heap.size, 0, none⟩) nn nn) nn ((List.replicate nn false).map Value.bool)) := by show World.ownsRow _ _ _ _ _ _ _; rw [List.map_replicate]; exact ho2
        have HB2 := Lib.hid hb2
        have hg8 := hb1.size
        clear cC hb1 hb2 ho2 hgr2
        go_wp2_with fail
        clear hmk
        generalize w1.heap.size = g8 at *
        go_loopg [9] n (fun g vi wr => ∃ (k : Nat) (l : List Bool), k + g = n ∧ vi = .int .i64 k ∧ Below w.heap.size w wr ∧ l.length = nn ∧ Hid (wr.ownsRow w.heap.size 4 1 (.slice (some ⟨g8, 0, none⟩) nn nn) nn (l.map Value.bool)) ∧ Hid (tch nn (hs.drop k) l = X))
        case atStart => exact ⟨0, _, by omega, rfl, HB2.out, by simp, HO2.out, HX0.out⟩
        case round =>
          obtain ⟨k, l, hk, rfl, hbr, hll, HO, HX⟩ := hrel
          have hsr := hbr.size
          by_cases hlt : k < n
          · have hlt' : k < hs.length := by rw [HN.out]; exact hlt
            obtain ⟨b, off, p1, c1, p2, c2, rfl, t1, t2, hc⟩ := HR.out.at k hlt'
            obtain ⟨g0, g1, g2⟩ := hc wr hbr
            obtain ⟨bo, bn, so, sn⟩ := HHB.out.at k hlt'
            obtain ⟨q0, q1, q2⟩ := HG.out.at (Int.le_refl _) k hlt'
            obtain ⟨P, hP⟩ : ∃ P : Nat, hs[k].pos = (P : Int) := ⟨hs[k].pos.toNat, by omega⟩
            have hstep := Lib.hid (fun h => tch_step hlt' HX.out hP h)
            have hstop := Lib.hid (fun h => tch_stop hlt' HX.out hP h)
            rw [hP] at g0 q0 q1
            have hkI : (k : Int) < (n : Int) := by omega
            have hk0 : (0 : Int) ≤ (k : Int) := by omega
            obtain ⟨lo, hlo⟩ : ∃ lo, hs[k].old.length = lo := ⟨_, rfl⟩
            obtain ⟨ln, hln⟩ : ∃ ln, hs[k].new.length = ln := ⟨_, rfl⟩
            rw [hlo] at g1 bo hstep hstop
            rw [hln] at g2 bn
            simp only [hP, hlo] at hc
            have HC := Lib.hid hc
            have HBR := Lib.hid hbr
            clear hc HX q2 hln hP t1 t2 so sn hbr
            by_cases hA : nn < P
            · have hx := hstop.out (by omega)
              subst hx
              have hrI : ((nn : Int) < (P : Int)) = True := eq_true (by omega)
              clear hstep hstop
              go_wp2_with fail
              go_quiet (fail)
              go_wp2
              go_ret2
              exact GivesB.none (belowDN HBR.out _)
            · have hrI : ((nn : Int) < (P : Int)) = False := eq_false (by omega)
              have hw1 : IntKind.i64.wrap ((nn : Int) - (P : Int)) = (nn : Int) - (P : Int) := by rw [Go.IntWalk.i64_left]; unfold wrap64; omega
              by_cases hE : nn < P + lo
              · have hx := hstop.out hE
                subst hx
                have hrE : ((nn : Int) - (P : Int) < (lo : Int)) = True := eq_true (by omega)
                clear hstep hstop
                go_wp2_with fail
                go_quiet (fail)
                go_wp2
                go_ret2
                exact GivesB.none (belowDN HBR.out _)
              · have hrE : ((nn : Int) - (P : Int) < (lo : Int)) = False := eq_false (by omega)
                have hst := Lib.hid (hstep.out hE)
                clear hstep hstop
                go_wp2_with fail
                go_quiet (fail)
                have HBD := Lib.hid (belowDN HBR.out nq)
                have HOD := Lib.hid (row_later HO.out (belowDN (Below.refl _ _) nq))
                generalize wr.drewN nq = wd at *
                obtain ⟨gO, hgO⟩ : ∃ x, x = gk := ⟨_, rfl⟩
                clear hrE hw1 hrI g0 g1 g2 HO
                go_wp2
                go_loopg [10] lo (fun g v wi => ∃ y : Nat, y + g = lo ∧ v = .int .i64 y ∧ Below w.heap.size w wi ∧ Hid (wi.ownsRow w.heap.size 4 1 (.slice (some ⟨g8, 0, none⟩) nn nn) nn ((setR l P y).map Value.bool)))
                case atStart => exact ⟨0, by omega, by simp, HBD.out, HOD.out⟩
                case round =>
                  obtain ⟨y, hy, rfl, hbi, HOi⟩ := hrel
                  obtain ⟨z0, z1, -⟩ := HC.out _ hbi
                  have HBI := Lib.hid hbi
                  clear hbi
                  by_cases hyl : y < lo
                  · have hyI : (y : Int) < (lo : Int) := by omega
                    have hpn : (P : Int) + (y : Int) < (nn : Int) := by omega
                    have hp0 : (0 : Int) ≤ (P : Int) + (y : Int) := by omega
                    have ho5 := HOi.out
                    have fz := ho5.frozenAt (P + y)
                    have cz := ho5.cellAt (P + y) (by omega)
                    obtain ⟨uz, hz⟩ : ∃ u, ((setR l P y).map Value.bool)[P + y]? = some u := ⟨_, List.getElem?_eq_getElem (by rw [List.length_map, setR_len]; omega)⟩
                    rw [hz] at cz
                    clear ho5 hz
                    go_wp2_with fail
                    obtain ⟨rs, gs⟩ := HOi.out.stored (P + y) (.bool true)
                    have hb6 := HBI.out.grown gs HBI.out.size (fun g hg => by injection hg with hg; subst hg; exact hg8)
                    have hr6 : (wr.setCell ⟨g8, P + y, none⟩ (.bool true)).ownsRow w.heap.size 4 1 (.slice (some ⟨g8, 0, none⟩) nn nn) nn ((setR l P (y + 1)).map Value.bool) := by
                      rw [setR, List.map_set]; exact rs
                    go_roundg (gk - 1)
                    case rel => exact ⟨y + 1, by omega, by go_num, hb6, hr6⟩
                    case measure => omega
                  · obtain rfl : lo = y := by omega
                    have hl2 : (setR l P lo).length = nn := by rw [setR_len]; exact hll
                    go_wp2_with fail
                    go_roundg (gO - 1)
                    case rel => exact ⟨k + 1, setR l P lo, by omega, by go_num, HBI.out, hl2, HOi.out, hst.out⟩
                    case measure => omega
          · obtain rfl : k = n := by omega
            have hx := HX.out
            rw [List.drop_eq_nil_of_le (by have := HN.out; omega)] at hx
            have hx' : X = some l := hx.symm
            subst hx'
            have HGV : Hid (GivesB w (0, l) (.returned (.tuple #[.slice (some ⟨g8, 0, none⟩) nn nn, .int .i64 0])) wr) := ⟨hbr, _, rfl, by show World.ownsRow _ _ _ _ _ l.length _; rw [hll]; exact HO.out⟩
            clear HX hbr HO
            go_wp2_with fail
            go_ret2
            exact HGV.out
end Go.Proofs.Ytjmnbnlhahbcjaa
