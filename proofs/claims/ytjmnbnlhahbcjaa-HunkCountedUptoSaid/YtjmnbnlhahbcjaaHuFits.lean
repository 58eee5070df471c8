/- hunk.Fits: by its contract. -/
import Derived.Test.YtjmnbnlhahbcjaaHuCheck
import Derived.Test.YtjmnbnlhahbcjaaHuSame
namespace Go.Proofs.Ytjmnbnlhahbcjaa
open Go Go.RowKit

theorem Good.of_may {hs : List Hu} (h : ¬ may 0 hs < hs.length) : Good 0 hs := (good_may 0 hs).1 (by have := may_le 0 hs; omega)
theorem fit1_range {a : List Tx} {h : Hu} (e : (a.length : Int) < h.pos + (h.old.length : Int)) : fit1 a h = 81 := by unfold fit1; rw [if_pos e]
theorem fit1_same {a : List Tx} {h : Hu} {P : Nat} (hp : h.pos = (P : Int)) (e : ¬ (a.length : Int) < h.pos + (h.old.length : Int)) (s : seg a P (P + h.old.length) = h.old) : fit1 a h = 0 := by
  unfold fit1
  rw [if_neg e, hp, Int.toNat_natCast, if_pos s]
theorem fit1_text {a : List Tx} {h : Hu} {P : Nat} (hp : h.pos = (P : Int)) (e : ¬ (a.length : Int) < h.pos + (h.old.length : Int)) (s : ¬ seg a P (P + h.old.length) = h.old) : fit1 a h = 82 := by
  unfold fit1
  rw [if_neg e, hp, Int.toNat_natCast, if_neg s]
set_option maxRecDepth 100000 in
set_option maxHeartbeats 4000000 in
theorem fits_any (w : World) (p : Option Addr) (n c : Nat) (hs : List Hu) (q : Option Addr) (m d : Nat) (a : List Tx) (hn : hs.length = n) (hnb : n ≤ 2513169434917) (hr : HuRow w p hs) (hB : HuB hs) (hm : a.length = m) (hmb : m ≤ 8796093021952) (hq : TxP w q d a) :
    Calls Try.prog 37 #[.slice p n c, .slice q m d] w fun e w' => e = .returned (.tuple #[.int .i64 (fitX a hs).1, .int .i64 (fitX a hs).2]) ∧ Below w.heap.size w w' := by
  have cC := check_any w p n c hs hn hnb hr hB
  have HN := Lib.hid hn
  have HM := Lib.hid hm
  have HR := Lib.hid hr
  have HHB := Lib.hid hB
  have HQ := Lib.hid hq
  have hmd : m ≤ d := by rw [← hm]; exact hq.2.2
  clear hn hm hr hB hq
  by_cases hbad : may 0 hs < hs.length
  · rw [chkX_bad hbad] at cC
    rw [fitX_bad hbad]
    go_enter Try.func37, Try.ntmps37
    go_wp2_with fail
    refine cC.mono ?_
    rintro e w1 ⟨rfl, hb1⟩
    clear cC
    go_wp2_with fail
    go_ret2
    exact ⟨rfl, hb1⟩
  · rw [chkX_ok (by have := may_le 0 hs; omega)] at cC
    have HG := Lib.hid (Good.of_may hbad)
    rw [fitX_ok hbad]
    clear hbad
    obtain ⟨X, hX⟩ : ∃ X, fitG a 0 hs = X := ⟨_, rfl⟩
    rw [hX]
    have HX0 := Lib.hid hX
    clear hX
    go_enter Try.func37, Try.ntmps37
    go_wp2_with fail
    refine cC.mono ?_
    rintro e w1 ⟨rfl, hb1⟩
    have HB1 := Lib.hid hb1
    clear cC hb1
    go_wp2_with fail
    go_loopg [21] n (fun g vi wr => ∃ k : Nat, k + g = n ∧ vi = .int .i64 k ∧ Below w.heap.size w wr ∧ Hid (fitG a k (hs.drop k) = X))
    case atStart => exact ⟨0, by omega, rfl, HB1.out, HX0.out⟩
    case round =>
      obtain ⟨k, hk, rfl, hbr, HX⟩ := hrel
      have hsr := hbr.size
      by_cases hlt : k < n
      · have hlt' : k < hs.length := by rw [HN.out]; exact hlt
        obtain ⟨b, off, p1, c1, p2, c2, rfl, t1, t2, hc⟩ := HR.out.at k hlt'
        obtain ⟨g0, g1, g2⟩ := hc wr hbr
        obtain ⟨bo, bn, so, sn⟩ := HHB.out.at k hlt'
        obtain ⟨q0, q1, q2⟩ := HG.out.at (Int.le_refl _) k hlt'
        have hstep := Lib.hid (fun e => fitG_step hlt' HX.out e)
        have hstop := Lib.hid (fun e => fitG_stop hlt' HX.out e)
        have hkI : (k : Int) < (n : Int) := by omega
        have hk0 : (0 : Int) ≤ (k : Int) := by omega
        clear hc HX
        generalize hs[k] = h at *
        obtain ⟨ps, old, new⟩ := h
        dsimp only at *
        obtain ⟨P, rfl⟩ : ∃ P : Nat, ps = (P : Int) := ⟨ps.toNat, by omega⟩
        have f81 := Lib.hid (fun e => fit1_range (a := a) (h := ⟨(P : Int), old, new⟩) e)
        have f0 := Lib.hid (fun e s => fit1_same (a := a) (h := ⟨(P : Int), old, new⟩) (P := P) rfl e s)
        have f82 := Lib.hid (fun e s => fit1_text (a := a) (h := ⟨(P : Int), old, new⟩) (P := P) rfl e s)
        dsimp only at f81 f0 f82
        rw [HM.out] at f81 f0 f82
        generalize fit1 a ⟨(P : Int), old, new⟩ = F at *
        obtain ⟨lo, hlo'⟩ : ∃ lo, old.length = lo := ⟨_, rfl⟩
        obtain ⟨ln, hln'⟩ : ∃ ln, new.length = ln := ⟨_, rfl⟩
        rw [hlo'] at g1 bo f81 f0 f82
        rw [hln'] at g2 bn
        have HLO := Lib.hid hlo'
        have hbx := boxU_new wr (P : Int) p1 lo c1 p2 ln c2 wr.heap.size
        have hbw := hbr.alloc hsr (.cells #[.int .i64 (P : Int), .slice p1 lo c1, .slice p2 ln c2] 47)
        clear hlo' hln' q2
        go_upto_region 7 with fail
        generalize wr.alloc (.cells #[.int .i64 (P : Int), .slice p1 lo c1, .slice p2 ln c2] 47) = wb at *
        obtain ⟨y0, y1, y2⟩ := hbx.cells
        have hsb := hbw.size
        have HBW := Lib.hid hbw
        have HBX := Lib.hid hbx
        obtain ⟨E, hE⟩ : ∃ E : Nat, P + lo = E := ⟨_, rfl⟩
        have hwE : wrap64 ((P : Int) + (lo : Int)) = (E : Int) := by unfold wrap64; omega
        have cH := fun W => behind_any W (P : Int) p1 p2 lo ln c1 c2
        rw [hwE] at cH
        rw [show ((P : Int) + (lo : Int)) = (E : Int) by omega] at f81 f0 f82
        rw [hE] at f0 f82
        clear hbx hbw hbr hwE
        by_cases hr : m < E
        · have hx := Lib.hid (f81.out (by omega))
          have hy := Lib.hid (hstop.out (by rw [hx.out]; decide))
          have hrI : (m : Int) < (E : Int) := by omega
          clear f81 f0 f82 hstep hstop
          go_wp2_with fail
          refine (cH _).mono ?_
          rintro e w2 ⟨rfl, hb2⟩
          have hbw2 := HBW.out.trans (hb2.mono hsb)
          clear cH hb2
          go_wp2_with fail
          go_ret2
          exact ⟨by rw [hy.out, hx.out] <;> rfl, hbw2⟩
        · have hrI : ¬ (m : Int) < (E : Int) := by omega
          have f0' := Lib.hid (f0.out hrI)
          have f82' := Lib.hid (f82.out hrI)
          clear f81 f0 f82
          go_wp2_with fail
          refine (cH _).mono ?_
          rintro e w2 ⟨rfl, hb2⟩
          have hbw2 := HBW.out.trans (hb2.mono hsb)
          obtain ⟨y0, y1, y2⟩ := (HBX.out.later hb2).cells
          have HBX2 := Lib.hid (HBX.out.later hb2)
          have hs2 := hbw2.size
          have HBW2 := Lib.hid hbw2
          clear hb2 hbw2
          have rA := fun W (hb : Below w2.heap.size w2 W) => (show StrRow W (cutA q d P) (seg a P E) by rw [seg_eq]; exact cut_row (HQ.out.1.later (HBW2.out.trans (hb.mono hs2))) HM.out hmd P (E - P) (by omega))
          obtain ⟨A, hA⟩ : ∃ A, cutA q d P = A := ⟨_, rfl⟩
          rw [hA] at rA
          unfold cutA at hA
          have hsl : (seg a P E).length = E - P := seg_len a P E (by rw [HM.out]; omega)
          have cS := fun W (hb : Below w2.heap.size w2 W) => equal_any W p1 A lo (E - P) c1 (d - P) old (seg a P E) (t1.1.later (HBW2.out.trans (hb.mono hs2))) (rA W hb) HLO.out hsl (by omega) (by omega)
          have hmk := fun W (hb : Below w2.heap.size w2 W) => And.intro hb (HBX2.out.later hb).cells
          have HMK := Lib.hid hmk
          have hb0 : Below w2.heap.size w2 w2.drew := Below.drew (Below.refl _ _)
          obtain ⟨-, e0, e1, e2⟩ := hmk _ hb0
          have z1 : (P : Int) ≤ (E : Int) := by omega
          have z2 : (E : Int) ≤ (d : Int) := by omega
          have z3 : (0 : Int) ≤ (P : Int) := by omega
          clear hmk rA hsl hr
          generalize wr.heap.size = gb at *
          go_upto_region 9 with fail
          go_region_held3 (fun W => Below w2.heap.size w2 W ∧ W.cell? ⟨gb, 0, none⟩ = some (.int .i64 (P : Int)) ∧ W.cell? ⟨gb, 1, none⟩ = some (.slice p1 lo c1) ∧ W.cell? ⟨gb, 2, none⟩ = some (.slice p2 ln c2))
            (first | exact HMK.out _ hb0 | exact HMK.out _ hbA | exact HMK.out _ hbB)
            (first
              | (go_at_call 66; refine (cH _).mono ?_; rintro e wA ⟨rfl, hbm⟩; have hbA : Below w2.heap.size w2 wA := Below.trans hb0 (hbm.mono hb0.size); obtain ⟨-, e0', e1', e2'⟩ := HMK.out _ hbA; clear cH)
              | (go_at_call 67; refine (cS _ hbA).mono ?_; rintro e wB ⟨rfl, hbm2⟩; have hbB : Below w2.heap.size w2 wB := Below.trans hbA (hbm2.mono hbA.size); obtain ⟨-, e0'', e1'', e2''⟩ := HMK.out _ hbB; clear cS))
          have hwB : Below w.heap.size w wB := HBW2.out.trans (hbB.mono hs2)
          have HWB := Lib.hid hwB
          clear hwB hbA hbB hbm hbm2 hb0 HMK
          by_cases hEq : seg a P E = old
          · have hx := Lib.hid (hstep.out (f0'.out hEq))
            have hd : decide (old = seg a P E) = true := decide_eq_true hEq.symm
            clear hstep hstop f0' f82'
            rw [hd]
            go_wp2_with fail
            go_roundg (gk - 1)
            case rel => exact ⟨k + 1, by omega, by go_num, HWB.out, hx.out⟩
            case measure => omega
          · have hx := Lib.hid (f82'.out hEq)
            have hy := Lib.hid (hstop.out (by rw [hx.out]; decide))
            have hd : decide (old = seg a P E) = false := decide_eq_false (fun e => hEq e.symm)
            clear hstep hstop f0' f82'
            rw [hd]
            go_wp2_with fail
            go_ret2
            exact ⟨by rw [hy.out, hx.out] <;> rfl, HWB.out⟩
      · obtain rfl : k = n := by omega
        have hx := HX.out
        rw [List.drop_eq_nil_of_le (by have := HN.out; omega)] at hx
        have hx' := Lib.hid hx.symm
        have HBR := Lib.hid hbr
        clear HX hbr hx
        go_wp2_with fail
        go_ret2
        exact ⟨by rw [hx'.out] <;> rfl, HBR.out⟩
end Go.Proofs.Ytjmnbnlhahbcjaa
