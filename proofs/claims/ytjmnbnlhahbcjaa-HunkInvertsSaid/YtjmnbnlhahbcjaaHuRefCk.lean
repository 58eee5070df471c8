/- The document's Check: by its contract. -/
import Derived.Test.YtjmnbnlhahbcjaaHuFine
import Derived.Sort.CutIn
namespace Go.Proofs.Ytjmnbnlhahbcjaa
open Go Go.RowKit

/-- The least place at hunk k: what stood ahead. -/
def Ahead (hs : List Hu) (k : Nat) (l : Int) : Prop := (k = 0 ∧ l = 0) ∨ ∃ h : k - 1 < hs.length, 0 < k ∧ l = lst hs[k - 1] ∧ 0 ≤ hs[k - 1].pos ∧ hs[k - 1].pos ≤ 2147483647
set_option maxRecDepth 100000 in
set_option maxHeartbeats 4000000 in
theorem refCheck_any (w : World) (p : Option Addr) (n c : Nat) (hs : List Hu) (hn : hs.length = n) (hnb : n ≤ 2513169434917) (hr : HuRow w p hs) (hB : HuB hs) :
    Calls Try.prog 34 #[.slice p n c] w fun e w' => e = .returned (.tuple #[.int .i64 (chkX hs).1, .int .i64 (chkX hs).2]) ∧ Below w.heap.size w w' := by
  have HN := Lib.hid hn
  have HR := Lib.hid hr
  have HHB := Lib.hid hB
  clear hn hr hB
  go_enter Try.func34, Try.ntmps34
  go_wp2_with fail
  go_loopg [4] n (fun g vi wr => ∃ (k : Nat) (l : Int), k + g = n ∧ vi = .int .i64 k ∧ 0 ≤ l ∧ Below w.heap.size w wr ∧ Hid (Ahead hs k l) ∧ Hid (may 0 hs = k + may l (hs.drop k)))
  case atStart => exact ⟨0, 0, by omega, rfl, by omega, Below.refl _ _, .inl ⟨rfl, rfl⟩, by show _ = _; simp⟩
  case round =>
    obtain ⟨k, l, hk, rfl, hl0, hbr, HA, HM⟩ := hrel
    have hsr := hbr.size
    by_cases hlt : k < n
    · have hlt' : k < hs.length := by rw [HN.out]; exact hlt
      obtain ⟨b, off, p1, c1, p2, c2, rfl, t1, t2, hc⟩ := HR.out.at k hlt'
      obtain ⟨g0, g1, g2⟩ := hc wr hbr
      obtain ⟨bo, bn, so, sn⟩ := HHB.out.at k hlt'
      have hyes := Lib.hid (fun e => may_step hlt' HM.out e)
      have hno := Lib.hid (fun e => (chkX_bad (by rw [may_stop hlt' HM.out e]; exact hlt')).trans (by rw [may_stop hlt' HM.out e]))
      have hstp := Lib.hid (stp_iff l hs[k])
      have hnew := Lib.hid (fun (e : stp l hs[k] = true) => (show Ahead hs (k + 1) (lst hs[k]) from .inr ⟨hlt', by omega, rfl, Int.le_trans hl0 ((stp_iff l hs[k]).1 e).1, ((stp_iff l hs[k]).1 e).2.1⟩))
      have hkI : (k : Int) < (n : Int) := by omega
      have hk0 : (0 : Int) ≤ (k : Int) := by omega
      unfold lst at hyes hnew
      generalize hs[k] = h at *
      obtain ⟨ps, old, new⟩ := h
      dsimp only at *
      obtain ⟨lo, hlo'⟩ : ∃ lo, old.length = lo := ⟨_, rfl⟩
      obtain ⟨ln, hln'⟩ : ∃ ln, new.length = ln := ⟨_, rfl⟩
      rw [hlo'] at g1 bo hyes hstp hnew
      rw [hln'] at g2 bn hstp
      have HLO := Lib.hid hlo'
      have HLN := Lib.hid hln'
      have hbx := boxU_new wr ps p1 lo c1 p2 ln c2 wr.heap.size
      have hbw := hbr.alloc hsr (.cells #[.int .i64 ps, .slice p1 lo c1, .slice p2 ln c2] 47)
      have hprev := Lib.hid (fun (hk1 : 0 < k) (h1 : k - 1 < hs.length) => (HR.out.at (k - 1) h1))
      clear hc hlo' hln'
      go_upto_region 5 with fail
      generalize wr.alloc (.cells #[.int .i64 ps, .slice p1 lo c1, .slice p2 ln c2] 47) = wb at *
      obtain ⟨y0, y1, y2⟩ := hbx.cells
      have HBW := Lib.hid hbw
      have hbx0 := Lib.hid hbx
      clear hbx hbr
      go_cut [58] (fun v wx => v = .bool (decide (lo + ln = 0 ∨ ps < l ∨ 2147483647 < ps)) ∧ Below wb.heap.size wb wx)
      case first =>
        by_cases hC : lo + ln = 0
        · have hCI : (lo : Int) + (ln : Int) = 0 := by omega
          have hCB : ((lo : Int) + (ln : Int) == 0) = true := by simp; omega
          clear hyes hno hstp hnew hprev
          go_wp2_with fail
          go_quiet (fail)
          go_wp2
          go_meet
          exact ⟨by congr 1; exact (decide_eq_true (.inl hC)).symm, belowDN (Below.refl _ _) _⟩
        · have hCI : ¬ (lo : Int) + (ln : Int) = 0 := by omega
          have hCB : ((lo : Int) + (ln : Int) == 0) = false := by simp; omega
          by_cases hN : ps < 0
          · have hd : Hid (decide (lo + ln = 0 ∨ ps < l ∨ 2147483647 < ps) = true) := decide_eq_true (.inr (.inl (by omega)))
            clear hyes hno hstp hnew hprev hC
            go_wp2_with fail
            go_quiet (fail)
            go_wp2
            go_meet
            exact ⟨by congr 1; exact hd.out.symm, belowDN (Below.refl _ _) _⟩
          · have hN' : (ps < 0) = False := eq_false hN
            by_cases hG : 2147483647 < ps
            · have hG' : (2147483647 < ps) = True := eq_true hG
              have hd : Hid (decide (lo + ln = 0 ∨ ps < l ∨ 2147483647 < ps) = true) := decide_eq_true (.inr (.inr hG))
              clear hyes hno hstp hnew hprev hC
              go_wp2_with fail
              go_quiet (fail)
              go_wp2
              go_meet
              exact ⟨by congr 1; exact hd.out.symm, belowDN (Below.refl _ _) _⟩
            · have hG' : (2147483647 < ps) = False := eq_false hG
              by_cases h0 : k = 0
              · subst h0
                have hd : Hid (decide (lo + ln = 0 ∨ ps < l ∨ 2147483647 < ps) = false) := decide_eq_false (by rcases HA.out with ⟨_, e⟩ | ⟨_, h, _⟩ <;> omega)
                clear hyes hno hstp hnew hprev hC
                go_wp2_with fail
                go_quiet (fail)
                go_wp2
                go_meet
                exact ⟨by congr 1; exact hd.out.symm, belowDN (Below.refl _ _) _⟩
              · obtain ⟨h1, hlq, hq0, hq1⟩ : ∃ h : k - 1 < hs.length, l = lst hs[k - 1] ∧ 0 ≤ hs[k - 1].pos ∧ hs[k - 1].pos ≤ 2147483647 := by
                  rcases HA.out with ⟨e, _⟩ | ⟨h, _, e⟩
                  · exact absurd e h0
                  · exact ⟨h, e⟩
                have hqb := (HHB.out.at (k - 1) h1).1
                obtain ⟨b', off', q1, d1, q2, d2, hbe, _, _, hcq⟩ := hprev.out (by omega) h1
                injection hbe with hbe
                injection hbe with hbe1 hbe2
                subst hbe1 hbe2
                obtain ⟨z0, z1, z2⟩ := hcq wb HBW.out
                unfold lst at hlq
                have HLQ := Lib.hid hlq
                have hk1 : (0 : Int) < (k : Int) := by omega
                have hk2 : 0 < k := by omega
                obtain ⟨j, hj⟩ : ∃ j, j = k - 1 := ⟨_, rfl⟩
                rw [show (k - 1) * 3 = j * 3 by rw [hj]] at z0 z1 z2
                have w1 : IntKind.i64.wrap ((k : Int) - 1) = (j : Int) := by rw [Go.IntWalk.i64_left]; unfold wrap64; omega
                have w2 : IntKind.i64.wrap (j : Int) = (j : Int) := by rw [Go.IntWalk.i64_left]; unfold wrap64; omega
                have w1' : (k : Int) - 1 = (j : Int) := by omega
                have hjI : (j : Int) < (n : Int) := by omega
                have hj0 : (0 : Int) ≤ (j : Int) := by omega
                have HJ := Lib.hid hj
                clear hcq hyes hno hstp hnew hprev hlq hj h0
                generalize hs[k - 1].pos = qp at *
                generalize hs[k - 1].old.length = ql at *
                have w0 : IntKind.i64.wrap ((lo : Int) + (ln : Int)) = (lo : Int) + (ln : Int) := by rw [Go.IntWalk.i64_left]; unfold wrap64; omega
                have w3 : IntKind.i64.wrap (ps - qp) = ps - qp := by rw [Go.IntWalk.i64_left]; unfold wrap64; omega
                by_cases hE : ps - qp ≤ (ql : Int)
                · have hE' : (ps - qp ≤ (ql : Int)) = True := eq_true hE
                  have hd : Hid (decide (lo + ln = 0 ∨ ps < l ∨ 2147483647 < ps) = true) := decide_eq_true (.inr (.inl (by have := HLQ.out; omega)))
                  clear hC
                  go_wp2_with fail
                  go_quiet (fail)
                  go_wp2
                  go_meet
                  exact ⟨by congr 1; exact hd.out.symm, belowDN (Below.refl _ _) _⟩
                · have hE' : (ps - qp ≤ (ql : Int)) = False := eq_false hE
                  have hd : Hid (decide (lo + ln = 0 ∨ ps < l ∨ 2147483647 < ps) = false) := decide_eq_false (by have := HLQ.out; omega)
                  clear hC
                  go_wp2_with fail
                  go_quiet (fail)
                  go_wp2
                  go_meet
                  exact ⟨by congr 1; exact hd.out.symm, belowDN (Below.refl _ _) _⟩
      case rest =>
        obtain ⟨rfl, hbc⟩ := hcut
        have hbw2 := hbw.trans (hbc.mono hbw.size)
        have hbx2 := hbx0.out.later hbc
        have hs2 := hbw2.size
        clear hbw y0 y1 y2 hbc HBW hprev
        by_cases hbad : lo + ln = 0 ∨ ps < l ∨ 2147483647 < ps
        · have hx := Lib.hid (hno.out (by rw [← Bool.not_eq_true]; intro e; have := hstp.out.1 e; omega))
          rw [decide_eq_true hbad]
          have HB2 := Lib.hid hbw2
          clear hyes hno hstp hnew hbad hbw2
          go_wp2_with fail
          go_ret2
          exact ⟨by rw [hx.out] <;> rfl, HB2.out⟩
        · rw [decide_eq_false hbad]
          have hyes' := Lib.hid (fun e1 e2 => hyes.out (hstp.out.2 ⟨by omega, by omega, by omega, e1, e2⟩))
          have hnew' := Lib.hid (fun e1 e2 => hnew.out (hstp.out.2 ⟨by omega, by omega, by omega, e1, e2⟩))
          have hno1 := Lib.hid (fun (e : old.all fineT = false) => hno.out (by rw [← Bool.not_eq_true]; intro e'; have := (hstp.out.1 e').2.2.2.1; rw [e] at this; cases this))
          have hno2 := Lib.hid (fun (e : new.all fineT = false) => hno.out (by rw [← Bool.not_eq_true]; intro e'; have := (hstp.out.1 e').2.2.2.2; rw [e] at this; cases this))
          have hpl : l ≤ ps := by omega
          have hwb : ∃ wb, wb = wc := ⟨_, rfl⟩
          obtain ⟨wb, rfl⟩ := hwb
          have HBW := Lib.hid hbw2
          have HBX := Lib.hid hbx2
          have hsw := hbw2.size
          have HSTART6 := Below.refl wb.heap.size wb
          obtain ⟨y0, y1, y2⟩ := hbx2.cells
          clear hyes hno hstp hnew hbad hbw2 hbx2
          obtain ⟨gO, hgO⟩ : ∃ x, x = gk := ⟨_, rfl⟩
          generalize wr.heap.size = gb at *
          have HT6 := Lib.hid t1.1
          go_wp2_with fail
          go_loopg [6] lo (fun g v wi => ∃ y : Nat, y + g = lo ∧ v = .int .i64 y ∧ Below wb.heap.size wb wi ∧ Hid (∀ j (hj : j < old.length), j < y → fineT old[j] = true))
          case atStart => exact ⟨0, by omega, rfl, HSTART6, fun j hj h => absurd h (by omega)⟩
          case round =>
            obtain ⟨y, hy, rfl, hbi, HF⟩ := hrel
            have hbw3 := HBW.out.trans (hbi.mono hsw)
            obtain ⟨y0, y1, y2⟩ := (HBX.out.later hbi).cells
            by_cases hyl : y < lo
            · have hyo : y < old.length := by rw [HLO.out]; exact hyl
              obtain ⟨b3, o3, rfl, h3⟩ := HT6.out.at y hyo
              have g3 := h3 _ hbw3
              have cT := fine_any old[y] wr (by unfold maxLen; have := so _ (List.getElem_mem hyo); omega)
              have hyI : (y : Int) < (lo : Int) := by omega
              have hy0 : (0 : Int) ≤ (y : Int) := by omega
              have hstepF := Lib.hid (fun (e : fineT old[y] = true) j (hj : j < old.length) (h : j < y + 1) => (show fineT old[j] = true from by
                by_cases e' : j = y
                · subst e'; exact e
                · exact HF.out j hj (by omega)))
              have hstopF := Lib.hid (fun (e : fineT old[y] = false) => hno1.out (fine_hit hyo e))
              have hfe : textL old[y].data.toList = fineT old[y] := rfl
              rw [hfe] at cT
              have HBI := Lib.hid hbi
              have HBW3 := Lib.hid hbw3
              clear h3 hfe HF hbi hbw3
              generalize old[y] = tx at *
              cases hft : fineT tx
              · have hx := Lib.hid (hstopF.out hft)
                rw [hft] at cT
                clear hstepF hstopF
                go_wp2_with fail
                refine cT.mono ?_
                rintro e w2 ⟨rfl, rfl⟩
                clear cT
                go_wp2_with fail
                go_ret2
                exact ⟨by rw [hx.out] <;> rfl, HBW3.out⟩
              · have hx := Lib.hid (hstepF.out hft)
                rw [hft] at cT
                clear hstepF hstopF
                go_wp2_with fail
                refine cT.mono ?_
                rintro e w2 ⟨rfl, rfl⟩
                clear cT
                go_wp2_with fail
                go_roundg (gk - 1)
                case rel => exact ⟨y + 1, by omega, by go_num, HBI.out, hx.out⟩
                case measure => omega
            · obtain rfl : lo = y := by omega
              have hall6 := Lib.hid (fine_all (xs := old) (fun j hj => HF.out j hj (by rw [HLO.out] at hj; exact hj)))
              clear HF
              have HSTART7 := hbi
              clear hbi hbw3
              have HT7 := Lib.hid t2.1
              go_wp2_with fail
              go_loopg [7] ln (fun g v wi => ∃ y : Nat, y + g = ln ∧ v = .int .i64 y ∧ Below wb.heap.size wb wi ∧ Hid (∀ j (hj : j < new.length), j < y → fineT new[j] = true))
              case atStart => exact ⟨0, by omega, rfl, HSTART7, fun j hj h => absurd h (by omega)⟩
              case round =>
                obtain ⟨y, hy, rfl, hbi, HF⟩ := hrel
                have hbw3 := HBW.out.trans (hbi.mono hsw)
                obtain ⟨y0, y1, y2⟩ := (HBX.out.later hbi).cells
                by_cases hyl : y < ln
                · have hyo : y < new.length := by rw [HLN.out]; exact hyl
                  obtain ⟨b3, o3, rfl, h3⟩ := HT7.out.at y hyo
                  have g3 := h3 _ hbw3
                  have cT := fine_any new[y] wr (by unfold maxLen; have := sn _ (List.getElem_mem hyo); omega)
                  have hyI : (y : Int) < (ln : Int) := by omega
                  have hy0 : (0 : Int) ≤ (y : Int) := by omega
                  have hstepF := Lib.hid (fun (e : fineT new[y] = true) j (hj : j < new.length) (h : j < y + 1) => (show fineT new[j] = true from by
                    by_cases e' : j = y
                    · subst e'; exact e
                    · exact HF.out j hj (by omega)))
                  have hstopF := Lib.hid (fun (e : fineT new[y] = false) => hno2.out (fine_hit hyo e))
                  have hfe : textL new[y].data.toList = fineT new[y] := rfl
                  rw [hfe] at cT
                  have HBI := Lib.hid hbi
                  have HBW3 := Lib.hid hbw3
                  clear h3 hfe HF hbi hbw3
                  generalize new[y] = tx at *
                  cases hft : fineT tx
                  · have hx := Lib.hid (hstopF.out hft)
                    rw [hft] at cT
                    clear hstepF hstopF
                    go_wp2_with fail
                    refine cT.mono ?_
                    rintro e w2 ⟨rfl, rfl⟩
                    clear cT
                    go_wp2_with fail
                    go_ret2
                    exact ⟨by rw [hx.out] <;> rfl, HBW3.out⟩
                  · have hx := Lib.hid (hstepF.out hft)
                    rw [hft] at cT
                    clear hstepF hstopF
                    go_wp2_with fail
                    refine cT.mono ?_
                    rintro e w2 ⟨rfl, rfl⟩
                    clear cT
                    go_wp2_with fail
                    go_roundg (gk - 1)
                    case rel => exact ⟨y + 1, by omega, by go_num, HBI.out, hx.out⟩
                    case measure => omega
                · obtain rfl : ln = y := by omega
                  have hall7 := Lib.hid (fine_all (xs := new) (fun j hj => HF.out j hj (by rw [HLN.out] at hj; exact hj)))
                  clear HF
                  have hl := Lib.hid (hyes'.out hall6.out hall7.out)
                  have hl2 := Lib.hid (hnew'.out hall6.out hall7.out)
                  have HBW4 := Lib.hid hbw3
                  clear hbw3 hbi
                  go_wp2_with fail
                  go_roundg (gO - 1)
                  case rel => exact ⟨k + 1, ps + (lo : Int) + 1, by omega, by go_num, by omega, HBW4.out, hl2.out, hl.out⟩
                  case measure => omega
    · obtain rfl : k = n := by omega
      have hx := Lib.hid (chkX_ok (may_all HN.out.symm HM.out))
      have HBR := Lib.hid hbr
      clear HM hbr
      go_wp2_with fail
      go_ret2
      exact ⟨by rw [hx.out] <;> rfl, HBR.out⟩
end Go.Proofs.Ytjmnbnlhahbcjaa
