/- hunk.Check, and the document's Check: by contracts. -/
import Derived.Test.YtjmnbnlhahbcjaaHuFine
import Derived.Sort.CutIn
namespace Go.Proofs.Ytjmnbnlhahbcjaa
open Go Go.RowKit

set_option maxRecDepth 100000 in
set_option maxHeartbeats 4000000 in
theorem check_any (w : World) (p : Option Addr) (n c : Nat) (hs : List Hu) (hn : hs.length = n) (hnb : n ≤ 2513169434917) (hr : HuRow w p hs) (hB : HuB hs) :
    Calls Try.prog 35 #[.slice p n c] w fun e w' => e = .returned (.tuple #[.int .i64 (chkX hs).1, .int .i64 (chkX hs).2]) ∧ Below w.heap.size w w' := by
  have HN := Lib.hid hn
  have HR := Lib.hid hr
  have HHB := Lib.hid hB
  clear hn hr hB
  go_enter Try.func35, Try.ntmps35
  go_wp2_with fail
  go_step3
  go_wp2_with fail
  go_step3
  go_wp2_with fail
  go_loopg [4, 5, 14] n (fun g mv lv vi wr => ∃ (k : Nat) (l : Int), k + g = n ∧ vi = .int .i64 k ∧ mv = .int .i64 k ∧ lv = .int .i64 l ∧ 0 ≤ l ∧ l ≤ 8798240505600 ∧ Below w.heap.size w wr ∧ Hid (may 0 hs = k + may l (hs.drop k)))
  case atStart => exact ⟨0, 0, by omega, rfl, rfl, rfl, by omega, by omega, Below.refl _ _, by show _ = _; simp⟩
  case round =>
    obtain ⟨k, l, hk, rfl, rfl, rfl, hl0, hl1, hbr, HM⟩ := hrel
    have hsr := hbr.size
    by_cases hlt : k < n
    · have hlt' : k < hs.length := by rw [HN.out]; exact hlt
      obtain ⟨b, off, p1, c1, p2, c2, rfl, t1, t2, hc⟩ := HR.out.at k hlt'
      obtain ⟨g0, g1, g2⟩ := hc wr hbr
      obtain ⟨bo, bn, so, sn⟩ := HHB.out.at k hlt'
      have hyes := Lib.hid (fun e => may_step hlt' HM.out e)
      have hno := Lib.hid (fun e => (chkX_bad (by rw [may_stop hlt' HM.out e]; exact hlt')).trans (by rw [may_stop hlt' HM.out e]))
      have hstp := Lib.hid (stp_iff l hs[k])
      have hkI : (k : Int) < (n : Int) := by omega
      have hk0 : (0 : Int) ≤ (k : Int) := by omega
      unfold lst at hyes
      generalize hs[k] = h at *
      obtain ⟨ps, old, new⟩ := h
      dsimp only at *
      obtain ⟨lo, hlo'⟩ : ∃ lo, old.length = lo := ⟨_, rfl⟩
      obtain ⟨ln, hln'⟩ : ∃ ln, new.length = ln := ⟨_, rfl⟩
      rw [hlo'] at g1 bo hyes hstp
      rw [hln'] at g2 bn hstp
      have HLO := Lib.hid hlo'
      have HLN := Lib.hid hln'
      have hbx := boxU_new wr ps p1 lo c1 p2 ln c2 wr.heap.size
      have hbw := hbr.alloc hsr (.cells #[.int .i64 ps, .slice p1 lo c1, .slice p2 ln c2] 47)
      clear hc hlo' hln'
      go_upto_region 5 with fail
      generalize wr.alloc (.cells #[.int .i64 ps, .slice p1 lo c1, .slice p2 ln c2] 47) = wb at *
      obtain ⟨y0, y1, y2⟩ := hbx.cells
      have HBW := Lib.hid hbw
      clear hbx hbw hbr
      by_cases hA : ps < l
      · have hx := Lib.hid (hno.out (by rw [← Bool.not_eq_true]; intro e; have := (hstp.out.1 e).1; omega))
        clear hyes hno hstp
        go_wp2_with fail
        try rw [Exit.noGoto_ret]
        go_ret2
        exact ⟨by rw [hx.out]; rfl, HBW.out⟩
      · by_cases hB : 2147483647 < ps
        · have hx := Lib.hid (hno.out (by rw [← Bool.not_eq_true]; intro e; have := (hstp.out.1 e).2.1; omega))
          clear hyes hno hstp
          go_wp2_with fail
          try rw [Exit.noGoto_ret]
          go_ret2
          exact ⟨by rw [hx.out]; rfl, HBW.out⟩
        · by_cases hC : lo + ln = 0
          · have hx := Lib.hid (hno.out (by rw [← Bool.not_eq_true]; intro e; have := (hstp.out.1 e).2.2.1; omega))
            have hCI : (lo : Int) + (ln : Int) = 0 := by omega
            have hCB : ((lo : Int) + (ln : Int) == 0) = true := by simp; omega
            clear hyes hno hstp
            go_wp2_with fail
            try rw [Exit.noGoto_ret]
            go_ret2
            exact ⟨by rw [hx.out]; rfl, HBW.out⟩
          · have hCI : ¬ (lo : Int) + (ln : Int) = 0 := by omega
            have hCB : ((lo : Int) + (ln : Int) == 0) = false := by simp; omega
            have hyes' := Lib.hid (fun e1 e2 => hyes.out (hstp.out.2 ⟨by omega, by omega, by omega, e1, e2⟩))
            have hno1 := Lib.hid (fun (e : old.all fineT = false) => hno.out (by rw [← Bool.not_eq_true]; intro e'; have := (hstp.out.1 e').2.2.2.1; rw [e] at this; cases this))
            have hno2 := Lib.hid (fun (e : new.all fineT = false) => hno.out (by rw [← Bool.not_eq_true]; intro e'; have := (hstp.out.1 e').2.2.2.2; rw [e] at this; cases this))
            clear hyes hno hstp
            obtain ⟨gO, hgO⟩ : ∃ x, x = gk := ⟨_, rfl⟩
            generalize wr.heap.size = gb at *
            have x0 : ∀ w : World, (Instr.index 87 (.agg #[.slice p1 lo c1, .slice p2 ln c2]) (.int .i64 0)).run Try.prog w = .ok (.slice p1 lo c1) w := fun _ => by kernel_rfl
            have x1 : ∀ w : World, (Instr.index 87 (.agg #[.slice p1 lo c1, .slice p2 ln c2]) (.int .i64 1)).run Try.prog w = .ok (.slice p2 ln c2) w := fun _ => by kernel_rfl
            go_wp2_with fail
            go_loopg [42] 2 (fun g v wi => ∃ x : Nat, x + g = 2 ∧ v = .int .i64 x ∧ wb = wi ∧ Hid (0 < x → old.all fineT = true) ∧ Hid (1 < x → new.all fineT = true))
            case atStart => exact ⟨0, by omega, rfl, rfl, fun h => absurd h (by omega), fun h => absurd h (by omega)⟩
            case round =>
              obtain ⟨x, hx, rfl, rfl, HO, HW⟩ := hrel
              have hx3 : x = 0 ∨ x = 1 ∨ x = 2 := by omega
              rcases hx3 with rfl | rfl | rfl
              · have HT := Lib.hid t1.1
                go_wp2_with fail
                obtain ⟨gM, hgM⟩ : ∃ x, x = gk := ⟨_, rfl⟩
                go_loopg [47] lo (fun g v wi => ∃ y : Nat, y + g = lo ∧ v = .int .i64 y ∧ wb = wi ∧ Hid (∀ j (hj : j < old.length), j < y → fineT old[j] = true))
                case atStart => exact ⟨0, by omega, rfl, rfl, fun j hj h => absurd h (by omega)⟩
                case round =>
                  obtain ⟨y, hy, rfl, rfl, HF⟩ := hrel
                  by_cases hyl : y < lo
                  · have hyo : y < old.length := by rw [HLO.out]; exact hyl
                    obtain ⟨b3, o3, rfl, h3⟩ := HT.out.at y hyo
                    have g3 := h3 _ HBW.out
                    have cT := text_any old[y] wb (by unfold maxLen; have := so _ (List.getElem_mem hyo); omega)
                    have hyI : (y : Int) < (lo : Int) := by omega
                    have hy0 : (0 : Int) ≤ (y : Int) := by omega
                    have hstepF := Lib.hid (fun (e : fineT old[y] = true) j (hj : j < old.length) (h : j < y + 1) => (show fineT old[j] = true from by
                      by_cases e' : j = y
                      · subst e'; exact e
                      · exact HF.out j hj (by omega)))
                    have hstopF := Lib.hid (fun (e : fineT old[y] = false) => hno1.out (fine_hit hyo e))
                    have hfe : textL old[y].data.toList = fineT old[y] := rfl
                    rw [hfe] at cT
                    clear h3 hfe HF
                    generalize old[y] = tx at *
                    cases hft : fineT tx
                    · have hx := Lib.hid (hstopF.out hft)
                      rw [hft] at cT
                      clear hstepF hstopF
                      go_wp2_with fail
                      refine cT.mono ?_
                      rintro e w2 ⟨rfl, rfl⟩
                      clear cT
                      go_wp2_with fail
                      try rw [Exit.noGoto_ret]
                      go_ret2
                      exact ⟨by rw [hx.out]; rfl, HBW.out⟩
                    · have hx := Lib.hid (hstepF.out hft)
                      rw [hft] at cT
                      clear hstepF hstopF
                      go_wp2_with fail
                      refine cT.mono ?_
                      rintro e w2 ⟨rfl, rfl⟩
                      clear cT
                      go_wp2_with fail
                      go_roundg (gk - 1)
                      case rel => exact ⟨y + 1, by omega, by go_num, rfl, hx.out⟩
                      case measure => omega
                  · obtain rfl : y = lo := by omega
                    have hall := Lib.hid (fine_all (xs := old) (fun j hj => HF.out j hj (by rw [HLO.out] at hj; exact hj)))
                    clear HF
                    go_wp2_with fail
                    go_roundg (gM - 1)
                    case rel => exact ⟨1, by omega, by go_num, rfl, fun _ => hall.out, fun h => absurd h (by omega)⟩
                    case measure => omega
              · have hOa := Lib.hid (HO.out (by omega))
                have HT := Lib.hid t2.1
                go_wp2_with fail
                obtain ⟨gM, hgM⟩ : ∃ x, x = gk := ⟨_, rfl⟩
                go_loopg [47] ln (fun g v wi => ∃ y : Nat, y + g = ln ∧ v = .int .i64 y ∧ wb = wi ∧ Hid (∀ j (hj : j < new.length), j < y → fineT new[j] = true))
                case atStart => exact ⟨0, by omega, rfl, rfl, fun j hj h => absurd h (by omega)⟩
                case round =>
                  obtain ⟨y, hy, rfl, rfl, HF⟩ := hrel
                  by_cases hyl : y < ln
                  · have hyo : y < new.length := by rw [HLN.out]; exact hyl
                    obtain ⟨b3, o3, rfl, h3⟩ := HT.out.at y hyo
                    have g3 := h3 _ HBW.out
                    have cT := text_any new[y] wb (by unfold maxLen; have := sn _ (List.getElem_mem hyo); omega)
                    have hyI : (y : Int) < (ln : Int) := by omega
                    have hy0 : (0 : Int) ≤ (y : Int) := by omega
                    have hstepF := Lib.hid (fun (e : fineT new[y] = true) j (hj : j < new.length) (h : j < y + 1) => (show fineT new[j] = true from by
                      by_cases e' : j = y
                      · subst e'; exact e
                      · exact HF.out j hj (by omega)))
                    have hstopF := Lib.hid (fun (e : fineT new[y] = false) => hno2.out (fine_hit hyo e))
                    have hfe : textL new[y].data.toList = fineT new[y] := rfl
                    rw [hfe] at cT
                    clear h3 hfe HF
                    generalize new[y] = tx at *
                    cases hft : fineT tx
                    · have hx := Lib.hid (hstopF.out hft)
                      rw [hft] at cT
                      clear hstepF hstopF
                      go_wp2_with fail
                      refine cT.mono ?_
                      rintro e w2 ⟨rfl, rfl⟩
                      clear cT
                      go_wp2_with fail
                      try rw [Exit.noGoto_ret]
                      go_ret2
                      exact ⟨by rw [hx.out]; rfl, HBW.out⟩
                    · have hx := Lib.hid (hstepF.out hft)
                      rw [hft] at cT
                      clear hstepF hstopF
                      go_wp2_with fail
                      refine cT.mono ?_
                      rintro e w2 ⟨rfl, rfl⟩
                      clear cT
                      go_wp2_with fail
                      go_roundg (gk - 1)
                      case rel => exact ⟨y + 1, by omega, by go_num, rfl, hx.out⟩
                      case measure => omega
                  · obtain rfl : y = ln := by omega
                    have hall := Lib.hid (fine_all (xs := new) (fun j hj => HF.out j hj (by rw [HLN.out] at hj; exact hj)))
                    clear HF
                    go_wp2_with fail
                    go_roundg (gM - 1)
                    case rel => exact ⟨2, by omega, by go_num, rfl, fun _ => hOa.out, fun _ => hall.out⟩
                    case measure => omega
              · have hl := Lib.hid (hyes'.out (HO.out (by omega)) (HW.out (by omega)))
                have cH := behind_any wb ps p1 p2 lo ln c1 c2
                have hw : wrap64 (ps + (lo : Int)) = ps + (lo : Int) := by unfold wrap64; omega
                rw [hw] at cH
                have hsb := HBW.out.size
                have HV : Hid (wrap64 (ps + (lo : Int) + 1) = ps + (lo : Int) + 1) := by show _ = _; unfold wrap64; omega
                clear hw hyes' hno1 hno2
                go_wp2_with fail
                refine cH.mono ?_
                rintro e w2 ⟨rfl, hb2⟩
                have hbw2 := HBW.out.trans (hb2.mono hsb)
                clear cH hb2
                go_wp2_with fail
                go_roundg (gO - 1)
                case rel => exact ⟨k + 1, ps + (lo : Int) + 1, by omega, by go_num, by go_num, by first | rfl | rw [HV.out], by omega, by omega, hbw2, hl.out⟩
                case measure => omega
    · obtain rfl : k = n := by omega
      have hx := Lib.hid (chkX_ok (may_all HN.out.symm HM.out))
      have HBR := Lib.hid hbr
      clear HM hbr
      go_wp2_with fail
      try rw [Exit.noGoto_ret]
      go_ret2
      exact ⟨by rw [hx.out]; rfl, HBR.out⟩
end Go.Proofs.Ytjmnbnlhahbcjaa
