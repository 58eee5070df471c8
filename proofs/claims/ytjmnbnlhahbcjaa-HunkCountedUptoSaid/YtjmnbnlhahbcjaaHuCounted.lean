/- HunkCounted: the law's walk. -/
import Derived.Test.YtjmnbnlhahbcjaaHuCtdP
import Derived.Test.YtjmnbnlhahbcjaaHuUnd
import Derived.Test.YtjmnbnlhahbcjaaHuUndone
import Derived.Test.YtjmnbnlhahbcjaaHuCounts
import Derived.Deep.CutBlock
import Derived.Deep.DeepCutAuto
namespace Go.Proofs.Ytjmnbnlhahbcjaa
open Go Go.RowKit

theorem GivesB.rows {w w' : World} {x : Int × List Bool} {e : Ending} (h : GivesB w x e w') : Below w.heap.size w w' ∧ ∃ q c, e = .returned (.tuple #[.slice q x.2.length c, .int .i64 x.1]) ∧ w'.ownsRow w.heap.size 4 1 (.slice q x.2.length c) x.2.length (x.2.map Value.bool) := by
  obtain ⟨hb, v, e, ho⟩ := h
  obtain ⟨q, c, rfl⟩ := row_form ho
  exact ⟨hb, q, c, e, ho⟩
set_option maxRecDepth 100000 in
set_option maxHeartbeats 8000000 in
theorem hunkCounted_any (w : World) (p : Option Addr) (n c : Nat) (hs : List Hu) (q : Option Addr) (m d : Nat) (a : List Tx) (hn : hs.length = n) (hnb : n ≤ 2513169434900) (hr : HuRow w p hs) (hB : HuB hs) (hm : a.length = m) (hq : TxP w q d a) (hsum : m + comesN hs ≤ 1048576) :
    Calls Try.prog 11 #[.slice p n c, .slice q m d] w fun e w' => e = .returned (.bool true) ∧ Below w.heap.size w w' := by
  have cW := awake_any w
  have cA := fun W (hb : Below w.heap.size w W) => (apply_any W q m d a p n c hs hn hnb (hr.later hb) hB hm (by omega) (hq.later hb) (by omega)).mono fun e w' h => GivesA.takes h
  have cZ := fun W (hb : Below w.heap.size w W) => sizes_any W p n c hs hn (by omega) (hr.later hb) hB
  have cT := fun W (hb : Below w.heap.size w W) => (touched_any W p n c hs (m : Int) hn (by omega) (hr.later hb) hB).mono fun e w' h => GivesB.rows h
  have HQ := Lib.hid hq
  have HR := Lib.hid hr
  have HHB := Lib.hid hB
  have HN := Lib.hid hn
  have HM := Lib.hid hm
  have hmb : m ≤ 1048576 := by omega
  by_cases hbad : (fitX a hs).2 = 0
  · have hap : apX a hs = (0, ap a 0 hs) := by unfold apX; rw [if_pos hbad]
    have hlen := ap_len 0 hs (fitX_zero hbad).2.2.2 (Nat.zero_le _)
    have hgood := (fitX_zero hbad).2.1
    have hszX : sizeX hs = (goes hs, comes hs, 0) := by unfold sizeX; rw [if_neg (by rw [(good_may 0 hs).2 hgood]; omega)]
    obtain ⟨L, hL1, hL2, hL3⟩ := tchX_fit hbad (by omega)
    rw [hm] at hL1 hL2
    have hC0 := Ct.start (L := L) hbad hL3
    rw [hm] at hlen
    rw [goes_small (by omega), comes_small (by omega)] at hszX
    simp only [hap] at cA
    simp only [hszX] at cZ
    simp only [hL1] at cT
    generalize ap a 0 hs = t at *
    obtain ⟨N, hN⟩ : ∃ N, t.length = N := ⟨_, rfl⟩
    obtain ⟨G, hG⟩ : ∃ G, goesN hs = G := ⟨_, rfl⟩
    obtain ⟨C, hC⟩ : ∃ C, comesN hs = C := ⟨_, rfl⟩
    rw [hG, hC] at hszX hlen
    rw [hC] at hsum
    simp only [hG, hC] at cZ
    simp only [hN] at cA
    simp only [hL2] at cT
    rw [hN] at hlen
    have HT := Lib.hid hN
    have HLL := Lib.hid hL2
    have HC0 := Lib.hid hC0
    clear hap hszX hL1 hL2 hL3 hC0 hbad hgood hG hC hN hr hB hq hn hm
    go_enter Try.func11, Try.ntmps11
    go_wp2_with fail
    refine cW.mono ?_
    rintro e w1 ⟨rfl, hb1⟩
    have cA1 := cA w1 hb1
    have HB1 := Lib.hid hb1
    have hs1 := hb1.size
    clear cW cA hb1
    go_wp2_with fail
    refine cA1.mono ?_
    rintro e w2 ⟨hb2, q2, d2, rfl, ht2⟩
    have hbw2 := HB1.out.trans (hb2.mono hs1)
    have cZ2 := cZ w2 hbw2
    have HB2 := Lib.hid hbw2
    have HT2 := Lib.hid ht2
    have hs2 := hbw2.size
    clear cA1 hb2 hbw2 ht2 cZ
    go_wp2_with fail
    refine cZ2.mono ?_
    rintro e w3 ⟨rfl, hb3⟩
    have hbw3 := HB2.out.trans (hb3.mono hs2)
    have cT3 := cT w3 hbw3
    have HB3 := Lib.hid hbw3
    have HT3 := Lib.hid (HT2.out.later hb3)
    have hs3 := hbw3.size
    clear cZ2 hb3 hbw3 cT HT2
    go_wp2_with fail
    refine cT3.mono ?_
    rintro e w4 ⟨hb4, q4, d4, rfl, ho4⟩
    have hbw4 := HB3.out.trans (hb4.mono hs3)
    have HB4 := Lib.hid hbw4
    have RT := Lib.hid (HT3.out.later hb4)
    have RL := Lib.hid ho4
    have RA := Lib.hid (HQ.out.later hbw4)
    have RH := Lib.hid (HR.out.later hbw4)
    clear cT3 hb4 hbw4 ho4 HT3 HQ HR
    have hw1 : IntKind.i64.wrap ((m : Int) - (G : Int)) = (m : Int) - (G : Int) := by rw [Go.IntWalk.i64_left]; unfold wrap64; omega
    have hw2 : IntKind.i64.wrap ((m : Int) - (G : Int) + (C : Int)) = (N : Int) := by rw [Go.IntWalk.i64_left]; unfold wrap64; omega
    have hmI : (m : Int) ≤ 1048576 := by omega
    clear hs1 hs2 hs3
    go_wp2_with fail
    have HCE := Lib.hid (show N ≤ 2097152 ∧ C ≤ 1048576 from by omega)
    clear hw1 hw2 hlen hsum
    go_loopg [12, 13, 14] (m + 1) (fun g vat vi vk wr => ∃ k at' i e : Nat, k + g = m + 1 ∧ vat = .int .i64 at' ∧ vi = .int .i64 i ∧ vk = .int .i64 k ∧ Below w4.heap.size w4 wr ∧ Hid (Ct a t L hs k at' i e))
    case atStart => exact ⟨0, 0, 0, 0, by omega, rfl, rfl, rfl, Below.refl _ _, HC0.out⟩
    case round =>
      obtain ⟨k, at', i, e, hk, rfl, rfl, rfl, hbr, HCT⟩ := hrel
      have hk0 : (0 : Int) ≤ (k : Int) := by omega
      by_cases hkm : k ≤ m
      · have hkI : (k : Int) ≤ (m : Int) := by omega
        have HBR := Lib.hid hbr
        have hin := HCT.out.ile
        rw [HN.out] at hin
        generalize wr = wo at *
        obtain ⟨gO, hgO⟩ : ∃ x, x = gk := ⟨_, rfl⟩
        have hkgO : k + gO = m + 1 := by omega
        clear hbr
        go_upto_block 2 with fail
        go_cut [12, 13] (fun vat vi wx => ∃ at' i e : Nat, vat = .int .i64 at' ∧ vi = .int .i64 i ∧ Below w4.heap.size w4 wx ∧ Hid (Ct a t L hs k at' i e) ∧ Hid (∀ hi : i < hs.length, hs[i].pos ≠ (k : Int)))
        case first =>
         go_wp2_with fail
         go_loopg [12, 13] (n - i) (fun g vat vi wi => ∃ at' i e : Nat, i + g = n ∧ vat = .int .i64 at' ∧ vi = .int .i64 i ∧ Below w4.heap.size w4 wi ∧ Hid (Ct a t L hs k at' i e))
         case atStart => exact ⟨at', i, e, by omega, rfl, rfl, HBR.out, HCT.out⟩
         case round =>
          clear HCT hin
          obtain ⟨at', i, e, hig, rfl, rfl, hbi, HCT⟩ := hrel
          have hi0 : (0 : Int) ≤ (i : Int) := by omega
          by_cases hmt : ∃ hi : i < hs.length, hs[i].pos = (k : Int)
          · obtain ⟨hi, hps⟩ := hmt
            obtain ⟨hcl, hel, hnx⟩ := HCT.out.new hi hps
            obtain ⟨b, off, p1, c1, p2, c2, rfl, t1, t2, hc⟩ := RH.out.at i hi
            obtain ⟨bo, bn, -, -⟩ := HHB.out.at i hi
            have hiI : (i : Int) < (n : Int) := by have := HN.out; omega
            have hin : i < n := by have := HN.out; omega
            generalize hs[i] = x at *
            obtain ⟨ps, old, new⟩ := x
            dsimp only at *
            subst hps
            obtain ⟨lo, hlo⟩ : ∃ lo, old.length = lo := ⟨_, rfl⟩
            obtain ⟨ln, hln⟩ : ∃ ln, new.length = ln := ⟨_, rfl⟩
            rw [hlo] at bo hnx
            rw [hln] at bn hcl hel hnx
            simp only [hlo, hln] at hc
            have cK := fun W => touch_any W (k : Int) p1 p2 lo ln c1 c2 bo bn
            obtain ⟨A, hA⟩ : ∃ A, min lo ln = A := ⟨_, rfl⟩
            obtain ⟨D, hD⟩ : ∃ D, lo - A = D := ⟨_, rfl⟩
            obtain ⟨E, hE⟩ : ∃ E, ln - A = E := ⟨_, rfl⟩
            simp only [hA, hD, hE] at cK
            have hAD : A + D = lo := by omega
            have hAE : A + E = ln := by omega
            have hDE : D = 0 ∨ E = 0 := by omega
            have x1 : IntKind.i64.wrap ((A : Int) + (D : Int)) = (lo : Int) := by rw [Go.IntWalk.i64_left]; unfold wrap64; omega
            have x2 : IntKind.i64.wrap ((A : Int) + (E : Int)) = (ln : Int) := by rw [Go.IntWalk.i64_left]; unfold wrap64; omega
            have y1 : ¬ (A : Int) < 0 := by omega
            have y2 : ¬ (D : Int) < 0 := by omega
            have y3 : ¬ (E : Int) < 0 := by omega
            have HNX := Lib.hid hnx
            have HEL := Lib.hid hel
            have HLN := Lib.hid hln
            have HBI := Lib.hid hbi
            have HCL := Lib.hid (show at' + ln ≤ N from by rw [HT.out] at hcl; exact hcl)
            have T2 := Lib.hid t2
            have HC := Lib.hid hc
            obtain ⟨g0, g1, g2⟩ := hc wr hbi
            clear hA hD hE hAD hAE hlo hln hnx hel hbi hcl hi t1 t2 hc bo bn HCT
            go_wp2_with fail
            refine (cK _).mono ?_
            rintro e v1 ⟨rfl, hv1⟩
            have hbv1 := HBI.out.trans (hv1.mono HBI.out.size)
            obtain ⟨g0, g1, g2⟩ := HC.out v1 hbv1
            have HBV := Lib.hid hbv1
            clear cK hv1 hbv1
            go_upto_region 18 with fail
            go_cut [138] (fun t wx => t = .bool false ∧ wx = v1)
            case first =>
              by_cases hD0 : D = 0
              · have z1 : ¬ (0 : Int) < (D : Int) := by omega
                clear hDE hD0
                go_wp2_with fail
                go_meet
                exact ⟨rfl, rfl⟩
              · have z0 : 0 < D := by omega
                have z1 : (0 : Int) < (D : Int) := by omega
                have z2 : ¬ (0 : Int) < (E : Int) := by omega
                clear hDE hD0
                go_wp2_with fail
                go_meet
                exact ⟨by first | rfl | (simp; omega), rfl⟩
            case rest =>
              obtain ⟨rfl, rfl⟩ := hcut
              obtain ⟨gW, hgW⟩ : ∃ x, x = gk := ⟨_, rfl⟩
              have higW : i + gW = n := by omega
              clear hDE x1 x2 y1 y2 y3 g0 g1 g2
              go_wp2_with fail
              go_loopg [12, 18] ln (fun g vat vj wj => ∃ j px : Nat, j + g = ln ∧ at' + j = px ∧ vat = .int .i64 px ∧ vj = .int .i64 j ∧ Below w4.heap.size w4 wj)
              case atStart => exact ⟨0, at', by omega, rfl, rfl, rfl, HBV.out⟩
              case round =>
                obtain ⟨j, px, hj, hpx, rfl, rfl, hbj⟩ := hrel
                obtain ⟨-, -, g2⟩ := HC.out _ hbj
                have hj0 : (0 : Int) ≤ (j : Int) := by omega
                have HBJ := Lib.hid hbj
                by_cases hjl : j < ln
                · have hjn : j < new.length := by rw [HLN.out]; exact hjl
                  have hpt : px < t.length := by have := HCL.out; have := HT.out; omega
                  have hel := HEL.out j hjl
                  rw [hpx, List.getElem?_eq_getElem hpt, List.getElem?_eq_getElem hjn] at hel
                  injection hel with hel
                  obtain ⟨b3, o3, rfl, h3⟩ := RT.out.1.at px hpt
                  obtain ⟨b4, o4, rfl, h4⟩ := T2.out.1.at j hjn
                  have x3 := h3 _ hbj
                  have x4 := h4 _ hbj
                  rw [hel] at x3
                  generalize new[j] = X at *
                  rw [HT.out] at hpt
                  have hNb := HCE.out.1
                  have hjI : (j : Int) < (ln : Int) := by omega
                  have hp1 : ((N : Int) ≤ (px : Int)) = False := eq_false (by omega)
                  have hp2 : (px : Int) < (N : Int) := by omega
                  have hp3 : (0 : Int) ≤ (px : Int) := by omega
                  clear hel h3 h4 hbj hjn HNX
                  go_wp2_with fail
                  go_quiet (fail)
                  go_wp2
                  go_roundg (gk - 1)
                  case rel => exact ⟨j + 1, px + 1, by omega, by omega, by go_num, by go_num, belowDN HBJ.out _⟩
                  case measure => omega
                · obtain rfl : j = ln := by omega
                  have hjI : ¬ (j : Int) < (j : Int) := by omega
                  have hNb := HCE.out.1
                  clear hbj
                  go_wp2_with fail
                  go_roundg (gW - 1)
                  case rel => exact ⟨px, i + 1, k + lo, by omega, rfl, by go_num, HBJ.out, hpx ▸ HNX.out⟩
                  case measure => omega
          · have hno : ∀ hi : i < hs.length, hs[i].pos ≠ (k : Int) := fun hi e => hmt ⟨hi, e⟩
            have HBI := Lib.hid hbi
            have HNO := Lib.hid hno
            by_cases hin : i < n
            · have hi : i < hs.length := by rw [HN.out]; exact hin
              obtain ⟨b, off, p1, c1, p2, c2, rfl, t1, t2, hc⟩ := RH.out.at i hi
              obtain ⟨g0, -, -⟩ := hc wr hbi
              have hne := hno hi
              generalize hs[i].pos = ps at *
              have hinI : (i : Int) < (n : Int) := by omega
              clear hc t1 t2 hno hmt hbi hi
              go_wp2_with fail
              go_meet
              exact ⟨at', i, e, rfl, rfl, HBI.out, HCT.out, HNO.out⟩
            · have hinI : ¬ (i : Int) < (n : Int) := by omega
              clear hno hmt hbi
              go_wp2_with fail
              go_meet
              exact ⟨at', i, e, rfl, rfl, HBI.out, HCT.out, HNO.out⟩
        case rest =>
          clear HCT hin HBR
          obtain ⟨at', i, e, rfl, rfl, hbi, HCT, HNO⟩ := hcut
          by_cases hkl : k < m
          · have hkl1 : k < L.length := by rw [HLL.out]; exact hkl
            have hkl2 : k < a.length := by rw [HM.out]; exact hkl
            obtain ⟨gL, rfl, -, -⟩ := slice_ptr RL.out (by omega)
            have cL := bool_at (row_later RL.out hbi) k hkl1
            have hklI : (k : Int) < (m : Int) := by omega
            have HBI := Lib.hid hbi
            by_cases hb : L[k] = true
            · have HNX := Lib.hid (HCT.out.skip HNO.out (fun _ => by rw [List.getElem?_eq_getElem hkl1, hb]) (by omega))
              rw [hb] at cL
              clear HCT hb hkl1 hkl2 hbi
              go_wp2_with fail
              go_roundg (gO - 1)
              case rel => exact ⟨k + 1, at', i, e, by omega, rfl, rfl, by go_num, HBI.out, HNX.out⟩
              case measure => omega
            · have hb' : L[k] = false := by simpa using hb
              obtain ⟨ht1, ht2, hnx⟩ := HCT.out.take HNO.out (by rw [List.getElem?_eq_getElem hkl1, hb']; simp) hkl2
              obtain ⟨b3, o3, rfl, h3⟩ := RT.out.1.at at' ht1
              obtain ⟨b4, o4, rfl, h4⟩ := RA.out.1.at k hkl2
              have x3 := h3 wc hbi
              have x4 := h4 wc hbi
              rw [List.getElem?_eq_getElem ht1, List.getElem?_eq_getElem hkl2] at ht2
              injection ht2 with ht2
              rw [ht2] at x3
              generalize a[k] = X at *
              have HNX := Lib.hid hnx
              rw [HT.out] at ht1
              have hNb := HCE.out.1
              have hp1 : ((N : Int) ≤ (at' : Int)) = False := eq_false (by omega)
              have hp2 : (at' : Int) < (N : Int) := by omega
              have hp3 : (0 : Int) ≤ (at' : Int) := by omega
              rw [hb'] at cL
              clear HCT hb hb' hkl1 hkl2 ht2 hnx h3 h4 hbi
              go_wp2_with fail
              go_quiet (fail)
              go_wp2
              go_roundg (gO - 1)
              case rel => exact ⟨k + 1, at' + 1, i, e, by omega, by go_num, rfl, by go_num, belowDN HBI.out _, HNX.out⟩
              case measure => omega
          · have HNX := Lib.hid (HCT.out.skip HNO.out (fun h => absurd h (by rw [HM.out]; exact hkl)) (by rw [HM.out]; exact hkm))
            have hklI : ¬ (k : Int) < (m : Int) := by omega
            have HBI := Lib.hid hbi
            clear HCT hbi
            go_wp2_with fail
            go_roundg (gO - 1)
            case rel => exact ⟨k + 1, at', i, e, by omega, rfl, rfl, by go_num, HBI.out, HNX.out⟩
            case measure => omega
      · obtain rfl : k = m + 1 := by omega
        have hdn := HCT.out
        rw [← HM.out] at hdn
        obtain ⟨h1, h2⟩ := hdn.done
        rw [HT.out] at h1
        rw [HN.out] at h2
        subst h1
        subst h2
        have hkI : ¬ ((m + 1 : Nat) : Int) ≤ (m : Int) := by omega
        have HBR := Lib.hid hbr
        clear hdn hbr
        go_wp2_with fail
        go_ret
        exact ⟨rfl, HB4.out.trans (HBR.out.mono HB4.out.size)⟩
  · have hap : apX a hs = ((fitX a hs).2, []) := by unfold apX; rw [if_neg hbad]
    simp only [hap] at cA
    generalize (fitX a hs).2 = E at *
    generalize sizeX hs = Z at *
    generalize tchX hs (m : Int) = T at *
    obtain ⟨Z1, Z2, Z3⟩ := Z
    obtain ⟨T1, TL⟩ := T
    dsimp only [List.length_nil] at *
    generalize TL.length = TN at *
    clear hap hr hB hq hn hm
    go_enter Try.func11, Try.ntmps11
    go_wp2_with fail
    refine cW.mono ?_
    rintro e w1 ⟨rfl, hb1⟩
    have cA1 := cA w1 hb1
    have HB1 := Lib.hid hb1
    clear cW cA hb1
    go_wp2_with fail
    refine cA1.mono ?_
    rintro e w2 ⟨hb2, q2, d2, rfl, ht2⟩
    have hbw2 := HB1.out.trans (hb2.mono HB1.out.size)
    have cZ2 := cZ w2 hbw2
    have HB2 := Lib.hid hbw2
    clear cA1 hb2 hbw2 ht2 cZ
    go_wp2_with fail
    refine cZ2.mono ?_
    rintro e w3 ⟨rfl, hb3⟩
    have hbw3 := HB2.out.trans (hb3.mono HB2.out.size)
    have cT3 := cT w3 hbw3
    have HB3 := Lib.hid hbw3
    clear cZ2 hb3 hbw3 cT
    go_wp2_with fail
    refine cT3.mono ?_
    rintro e w4 ⟨hb4, q4, d4, rfl, ho4⟩
    have HB4 := Lib.hid (HB3.out.trans (hb4.mono HB3.out.size))
    clear cT3 hb4 ho4
    go_wp2_with fail
    go_ret
    exact ⟨rfl, HB4.out⟩
end Go.Proofs.Ytjmnbnlhahbcjaa
