/- Texts of the proof, merged: PrTellsW. -/
import Derived.Test.YtfibbjnkicjbpaaGreatDoorTl41
import Derived.Test.YtfibbjnkicjbpaaGreatDoorTl44
/- PolicyTells, by a walk over the contracts. -/
namespace Go.Proofs.YtfibbjnkicjbpaaGreatDoor
open Go Go.RowKit

theorem vwRow_grown {w W : World} {p : Option Addr} {l : List Vw} {row : Option Nat} (h : VwRow w p l) (hg : w.grownBy W row) (hne : ∀ b off, p = some ⟨b, off, none⟩ → row ≠ some b) : VwRow W p l := fun i hi => by
  obtain ⟨b, off, e, hlt, h0, h1⟩ := h i hi
  have hn := hne b off e
  exact ⟨b, off, e, Nat.lt_of_lt_of_le hlt hg.size, hg.cell h0 (fun e => hn e.symm), hg.cell h1 (fun e => hn e.symm)⟩
theorem row_kept {w W : World} {B z : Nat} {e : TypeId} {v : Value} {n : Nat} {cs : List Value} (h : w.ownsRow B e z v n cs) (hb : Below w.heap.size w W) : W.ownsRow B e z v n cs := ownsAny_later h hb
theorem grownBy_refl' (w : World) (row : Option Nat) : w.grownBy w row := ⟨rfl, rfl, rfl, Nat.le_refl _, fun _ _ _ => rfl⟩
set_option maxRecDepth 100000 in
set_option maxHeartbeats 4000000 in
theorem policyTells_any (w : World) (p : Option Addr) (n k0 c d : Nat) (l : List Vw) (s : ByteArray) (hn : l.length = n) (hnm : n ≤ 5864062014804) (hr : VwRow w p l) (hnil : p = none → n = 0 ∧ k0 = 0) (hf : Fit64 l) (hs : s.size ≤ maxLen) (hc : c < 18446744073709551616) (hd : d < 18446744073709551616) (hT : BTab w) :
    Calls Tryz.prog 4 #[.slice p n k0, .string s, .int .u64 c, .int .u64 d] w fun e w' => e = .returned (.bool true) ∧ Below w.heap.size w w' := by
  obtain ⟨i0, hi, hz0, hz1, hz2⟩ := info_parts vwInfo
  have hown0 := World.ownsRow_made (e := 40) (size := 2) (base := w.heap.size) w #[] 0 (Nat.le_refl _) (by unfold maxLen; omega) rfl
  have hbb0 : Below w.heap.size w (w.alloc (.cells #[] 40)) := (Below.refl _ w).alloc (Nat.le_refl _) _
  have HN := Lib.hid hn
  have HT := Lib.hid hT
  have HS := Lib.hid hs
  clear hn hT hs
  go_enter Tryz.func4, Tryz.ntmps4
  go_wp2_with (at_builtin; refine app_vw rfl _ _ 29 rfl w.heap.size 40 i0 (.agg #[.string ⟨#[]⟩, .int .u64 0]) Tryz.underlying29 hi hz0 hz1 hz2 rfl _ 0 [] rfl hown0 p n k0 l rfl HN.out (hr.later hbb0) hnil (by omega) (by simp) ?_; intro v1 w1 own1 hb1; have HOW := Lib.hid own1; have HB1 := Lib.hid (hbb0.trans hb1); have hs1 : w.heap.size + 1 ≤ w1.heap.size := (by have := hb1.size; simpa using this); clear hown0 own1 hb1 hbb0)
  have own1 := HOW.out
  rw [Nat.zero_add, List.nil_append] at own1
  obtain ⟨pi, ci, rfl, hri⟩ := vw_owned HN.out own1
  have hrw : VwRow w1 p l := hr.later HB1.out
  have cN := newF_any w1 pi n ci l HN.out (by unfold maxLen; omega) hri hf
  have HROW : Hid (∀ row, (Value.slice pi n ci).ownBlock = row → ∀ g, row = some g → w.heap.size ≤ g ∧ g < w1.heap.size) := fun row h g e => own1.lt g (h.trans e)
  have HO1 := Lib.hid own1
  have HRI := Lib.hid hri
  have HRW := Lib.hid hrw
  clear HOW own1 hri hrw hr hnil
  go_wp2_with fail
  refine cN.mono ?_
  rintro e w2 ⟨hb2, hres⟩
  have cR := prNew_any w2 p n k0 l HN.out (by unfold maxLen; omega) (HRW.out.later hb2) hf
  have HRI2 := Lib.hid (HRI.out.later hb2)
  have HRW2 := Lib.hid (HRW.out.later hb2)
  have HO2 := Lib.hid (row_kept HO1.out hb2)
  have HB2 := Lib.hid (HB1.out.trans (hb2.mono (by omega)))
  have hs2 := hb2.size
  have HRES := Lib.hid hres
  clear cN hb2 HRI HRW HO1 HB1 hres
  by_cases hok : okL l
  · rcases HRES.out with ⟨_, pp, bp, rfl, hpp, hbp, hpol⟩ | ⟨hno, _⟩
    rotate_left
    · exact absurd hok hno
    have HPL := Lib.hid hpol
    clear HRES hpol
    go_wp2_with fail
    refine cR.mono ?_
    rintro e w3 ⟨hb3, ⟨_, pv, cv, rfl, hrv, hov⟩ | ⟨hno, _⟩⟩
    rotate_left
    · exact absurd hok hno
    have cS := prSame_any w3 pi p n ci k0 l HN.out (by omega) (HRI2.out.later hb3) (HRW2.out.later hb3)
    have HPL3 := Lib.hid (HPL.out.later hb3)
    have HO3 := Lib.hid (row_kept HO2.out hb3)
    have HB3 := Lib.hid (HB2.out.trans (hb3.mono (by omega)))
    have HRV := Lib.hid hrv
    have HOV := Lib.hid hov
    have hs3 := hb3.size
    have h64 : n ≤ 64 := by rw [← HN.out]; exact hok.1
    rw [HN.out]
    clear cR hb3 hrv hov HPL HO2 HB2 HRI2 HRW2 hok
    go_wp2_with fail
    refine cS.mono ?_
    rintro e w4 ⟨rfl, hb4⟩
    have HPL4 := Lib.hid (HPL3.out.later hb4)
    have HO4 := Lib.hid (row_kept HO3.out hb4)
    have HB4 := Lib.hid (HB3.out.trans (hb4.mono (by omega)))
    have HRV4 := Lib.hid (HRV.out.later hb4)
    have HOV4 := Lib.hid (row_kept HOV.out hb4)
    have hs4 := hb4.size
    clear cS hb4 HPL3 HO3 HB3 HRV HOV
    obtain ⟨row, hrow⟩ : ∃ row, (Value.slice pi n ci).ownBlock = row := ⟨_, rfl⟩
    have hrowlt : Hid (∀ g, row = some g → w.heap.size ≤ g ∧ g < w1.heap.size) := HROW.out row hrow
    go_wp2_with fail
    go_loopg [14] n (fun g vi wr => ∃ k : Nat, k + g = n ∧ vi = .int .i64 k ∧ Hid (w4.grownBy wr row) ∧ Hid (∃ xs, wr.ownsRow w.heap.size 40 2 (.slice pi n ci) n xs))
    case atStart => exact ⟨0, by omega, rfl, grownBy_refl' _ _, ⟨_, HO4.out⟩⟩
    case round =>
      obtain ⟨k, hk, rfl, hgr, HX⟩ := hrel
      have hk0 : (0 : Int) ≤ (k : Int) := by omega
      by_cases hlt : k < n
      · obtain ⟨xs, ho⟩ := HX.out
        obtain ⟨gx, capx, e1⟩ : ∃ gx capx, Value.slice pi n ci = .slice (some ⟨gx, 0, none⟩) n capx := by
          rcases ho.2 with ⟨_, h⟩ | ⟨g, cap, cur, h, _⟩
          · omega
          · exact ⟨g, cap, h⟩
        injection e1 with e1 _ e2
        subst e1 e2
        have hrw2 : row = some gx := hrow.symm
        have hxl : xs.length = n * 2 := ho.1
        have hcell0 : wr.cell? ⟨gx, k * 2, none⟩ = some (xs[k * 2]'(by omega)) := by rw [ho.cellAt (k * 2) (by omega), List.getElem?_eq_getElem]
        have hcell1 : wr.cell? ⟨gx, k * 2 + 1, none⟩ = some (xs[k * 2 + 1]'(by omega)) := by rw [ho.cellAt (k * 2 + 1) (by omega), List.getElem?_eq_getElem]
        have hfr0 := ho.frozenAt (k * 2)
        have hfr1 := ho.frozenAt (k * 2 + 1)
        have hst1 := ho.stored (k * 2) (.string ⟨#[120]⟩)
        have hst2 := hst1.1.stored (k * 2 + 1) (.int .u64 0)
        have hg2 : Hid (w4.grownBy ((wr.setCell ⟨gx, k * 2, none⟩ (.string ⟨#[120]⟩)).setCell ⟨gx, k * 2 + 1, none⟩ (.int .u64 0)) row) := by
          have h := hgr.out
          rw [hrw2] at h ⊢
          exact (h.trans hst1.2).trans hst2.2
        have hkI : (k : Int) < (n : Int) := by omega
        have HST := Lib.hid hst2.1
        generalize xs[k * 2]'(by omega) = u0 at hcell0
        generalize xs[k * 2 + 1]'(by omega) = u1 at hcell1
        clear ho hst1 hst2 hgr HX hrw2
        go_wp2_with fail
        go_roundg (gk - 1)
        case rel => exact ⟨k + 1, by omega, by go_num, hg2, ⟨_, HST.out⟩⟩
        case measure => omega
      · obtain rfl : k = n := by omega
        have hkI : ¬ ((k : Int) < (k : Int)) := by omega
        obtain ⟨w5, rfl⟩ : ∃ w5, w5 = wr := ⟨_, rfl⟩
        have hg := hgr.out
        have hs5 := hg.size
        have HB5 := Lib.hid (HB4.out.grown hg HB4.out.size (fun g e => (hrowlt.out g e).1))
        have HPL5 := Lib.hid (HPL4.out.keep hs5 (hg.block _ HPL4.out.lt (fun e => by have := (hrowlt.out _ e.symm).2; omega)) (hg.block _ HPL4.out.ltb (fun e => by have := (hrowlt.out _ e.symm).2; omega)))
        have hpv : ∀ b off, pv = some ⟨b, off, none⟩ → row ≠ some b := fun b off e e2 => by
          have h1 := (hrowlt.out b e2).2
          have h2 := HOV4.out.lt b (by rw [e]; rfl)
          omega
        have HRV5 := Lib.hid (vwRow_grown HRV4.out hg hpv)
        have cE := erase_any (.pointer (some ⟨pp, 0, none⟩)) (sortV l) c w5 HPL5.out.at hc
        clear HX hgr hg HPL4 HB4 HRV4 HOV4 HO4 hpv hrowlt HROW hrow
        go_wp2_with fail
        refine cE.mono ?_
        rintro e w6 ⟨hb6, a6, rfl, hq6⟩
        have HP6 := Lib.hid (HPL5.out.at.later hb6)
        have HRV6 := Lib.hid (HRV5.out.later hb6)
        have HB6 := Lib.hid (HB5.out.trans (hb6.mono HB5.out.size))
        have HQ6 := Lib.hid hq6
        have hsl : (sortV l).length = k := by rw [sortV_len, HN.out]
        have HSL := Lib.hid hsl
        have c7 := tells_any w6 (.pointer (some ⟨pp, 0, none⟩)) pv k cv c (sortV l) s HP6.out hsl HRV6.out HS.out hc (HT.out.below HB6.out)
        clear cE hb6 hq6 HPL5 HRV5 HB5 hsl
        go_wp2_with fail
        refine c7.mono ?_
        rintro e w7 ⟨rfl, hb7⟩
        have HP7 := Lib.hid (HP6.out.later hb7)
        have HRV7 := Lib.hid (HRV6.out.later hb7)
        have HQ7 := Lib.hid (HQ6.out.later hb7)
        have HB7 := Lib.hid (HB6.out.trans (hb7.mono HB6.out.size))
        have c8 := prErase_any w7 pv k cv c (sortV l) HSL.out h64 HRV7.out HP7.out.lo hc
        clear c7 hb7 HP6 HRV6 HQ6 HB6
        go_wp2_with fail
        refine c8.mono ?_
        rintro e w8 ⟨hb8, p8, k8, rfl, hr8, _⟩
        have HP8 := Lib.hid (HP7.out.later hb8)
        have HRV8 := Lib.hid (HRV7.out.later hb8)
        have HB8 := Lib.hid (HB7.out.trans (hb8.mono HB7.out.size))
        have c9 := tells_any w8 (.pointer (some a6)) p8 _ k8 d _ s (HQ7.out.later hb8) rfl hr8 HS.out hd (HT.out.below HB8.out)
        generalize ((sortV l).filter fun x => belowB x.c c).length = nf at *
        clear c8 hb8 hr8 HP7 HRV7 HQ7 HB7
        go_wp2_with fail
        refine c9.mono ?_
        rintro e w9 ⟨rfl, hb9⟩
        have HP9 := Lib.hid (HP8.out.later hb9)
        have HRV9 := Lib.hid (HRV8.out.later hb9)
        have HB9 := Lib.hid (HB8.out.trans (hb9.mono HB8.out.size))
        have c10 := viewers_any (.pointer (some ⟨pp, 0, none⟩)) (sortV l) w9 HP9.out
        clear c9 hb9 HP8 HRV8 HB8
        go_wp2_with fail
        refine c10.mono ?_
        rintro e w10 ⟨hb10, p10, k10, rfl, _, ho10⟩
        have hlo : Hid (∀ i, 0 ≤ i → i < k → ∃ y : Nat, (flat (sortV l))[i * 2 + 1]? = some (.int .u64 y)) := fun i _ hi => by
          have h1 := flat_at (sortV l) i 1 (by rw [HSL.out]; exact hi) (by decide)
          exact ⟨_, h1.trans rfl⟩
        rw [HSL.out] at ho10 ⊢
        have HO10 := Lib.hid ho10
        have HBX := Lib.hid hb10
        clear c10 ho10 hb10
        go_wp2_with fail
        go_loopg [17] k (fun g vi wr => ∃ j : Nat, j + g = k ∧ vi = .int .i64 j ∧ Hid (Below w9.heap.size w9 wr) ∧ Hid (∃ xs, wr.ownsRow w9.heap.size 40 2 (.slice p10 k k10) k xs ∧ ∀ i, j ≤ i → i < k → ∃ y : Nat, xs[i * 2 + 1]? = some (.int .u64 y)))
        case atStart => exact ⟨0, by omega, rfl, HBX, ⟨_, HO10.out, hlo.out⟩⟩
        case round =>
          obtain ⟨j, hj, rfl, hbr, HX⟩ := hrel
          have hj0 : (0 : Int) ≤ (j : Int) := by omega
          by_cases hlt : j < k
          · obtain ⟨xs, ho, hxs⟩ := HX.out
            obtain ⟨gx, capx, e1⟩ : ∃ gx capx, Value.slice p10 k k10 = .slice (some ⟨gx, 0, none⟩) k capx := by
              rcases ho.2 with ⟨_, h⟩ | ⟨g, cap, cur, h, _⟩
              · omega
              · exact ⟨g, cap, h⟩
            injection e1 with e1 _ e2
            subst e1 e2
            have hgx : w9.heap.size ≤ gx := (ho.lt gx rfl).1
            obtain ⟨y, hy⟩ := hxs j (Nat.le_refl _) hlt
            have hcell1 : wr.cell? ⟨gx, j * 2 + 1, none⟩ = some (.int .u64 y) := by rw [ho.cellAt (j * 2 + 1) (by omega), hy]
            have hfr1 := ho.frozenAt (j * 2 + 1)
            have HST := Lib.hid (fun u => (ho.stored (j * 2 + 1) u).1)
            have HXS : Hid (∀ u : Value, ∀ i, j + 1 ≤ i → i < k → ∃ y : Nat, (xs.set (j * 2 + 1) u)[i * 2 + 1]? = some (.int .u64 y)) := fun u i hi hik => by
              rw [List.getElem?_set_ne (by omega)]
              exact hxs i (by omega) hik
            have HBS := Lib.hid (fun u => hbr.out.setCell (p := ⟨gx, j * 2 + 1, none⟩) hgx u)
            have hjI : (j : Int) < (k : Int) := by omega
            clear ho hxs hy hbr HX
            go_wp2_with fail
            go_roundg (gk - 1)
            case rel => exact ⟨j + 1, by omega, by go_num, HBS.out _, ⟨_, HST.out _, HXS.out _⟩⟩
            case measure => omega
          · obtain ⟨w11, rfl⟩ : ∃ w11, w11 = wr := ⟨_, rfl⟩
            have hjI : ¬ ((j : Int) < (k : Int)) := by omega
            have HP11 := Lib.hid (HP9.out.later hbr.out)
            have HRV11 := Lib.hid (HRV9.out.later hbr.out)
            have HB11 := Lib.hid (HB9.out.trans (hbr.out.mono HB9.out.size))
            have c12 := clearances_any (.pointer (some ⟨pp, 0, none⟩)) (sortV l) w11 HP11.out
            clear HX hbr HP9 HRV9 HB9 HO10 HBX hlo
            go_wp2_with fail
            refine c12.mono ?_
            rintro e w12 ⟨hb12, p12, k12, rfl, _, ho12⟩
            have HO12 := Lib.hid ho12
            have HBX := Lib.hid hb12
            have hm64 : (clrL (sortV l)).length ≤ 64 := by have := clr_len (sortV l); have := HSL.out; omega
            generalize (clrL (sortV l)).length = m at *
            generalize labVals (clrL (sortV l)) = lv at *
            clear c12 ho12 hb12
            go_wp2_with fail
            go_loopg [19] m (fun g vi wr => ∃ j : Nat, j + g = m ∧ vi = .int .i64 j ∧ Hid (Below w11.heap.size w11 wr) ∧ Hid (∃ xs, wr.ownsRow w11.heap.size 25 1 (.slice p12 m k12) m xs))
            case atStart => exact ⟨0, by omega, rfl, HBX, ⟨_, HO12.out⟩⟩
            case round =>
              obtain ⟨j, hj, rfl, hbr, HX⟩ := hrel
              have hj0 : (0 : Int) ≤ (j : Int) := by omega
              by_cases hlt : j < m
              · obtain ⟨xs, ho⟩ := HX.out
                obtain ⟨gx, capx, e1⟩ : ∃ gx capx, Value.slice p12 m k12 = .slice (some ⟨gx, 0, none⟩) m capx := by
                  rcases ho.2 with ⟨_, h⟩ | ⟨g, cap, cur, h, _⟩
                  · omega
                  · exact ⟨g, cap, h⟩
                injection e1 with e1 _ e2
                subst e1 e2
                have hgx : w11.heap.size ≤ gx := (ho.lt gx rfl).1
                have hxl : xs.length = m := by have := ho.1; omega
                have hcell1 : wr.cell? ⟨gx, j, none⟩ = some (xs[j]'(by omega)) := by rw [ho.cellAt j (by omega), List.getElem?_eq_getElem]
                have hfr1 := ho.frozenAt j
                have HST := Lib.hid (fun u => (ho.stored j u).1)
                have HBS := Lib.hid (fun u => hbr.out.setCell (p := ⟨gx, j, none⟩) hgx u)
                have hjI : (j : Int) < (m : Int) := by omega
                generalize xs[j]'(by omega) = u1 at hcell1
                clear ho hbr HX
                go_wp2_with fail
                go_roundg (gk - 1)
                case rel => exact ⟨j + 1, by omega, by go_num, HBS.out _, ⟨_, HST.out _⟩⟩
                case measure => omega
              · obtain ⟨w13, rfl⟩ : ∃ w13, w13 = wr := ⟨_, rfl⟩
                have hjI : ¬ ((j : Int) < (m : Int)) := by omega
                have HP13 := Lib.hid (HP11.out.later hbr.out)
                have HRV13 := Lib.hid (HRV11.out.later hbr.out)
                have HB13 := Lib.hid (HB11.out.trans (hbr.out.mono HB11.out.size))
                have c14 := polBelow_any (.pointer (some ⟨pp, 0, none⟩)) (sortV l) c w13 HP13.out hc
                clear HX hbr HP11 HRV11 HB11 HO12 HBX
                go_wp2_with fail
                refine c14.mono ?_
                rintro e w14 ⟨hb14, p14, k14, rfl, _, ho14⟩
                have HO14 := Lib.hid ho14
                have HBX := Lib.hid hb14
                have hq64 : (names ((sortV l).filter fun x => belowB x.c c)).length ≤ 64 := by
                  unfold names
                  rw [List.length_map]
                  have := List.length_filter_le (fun x : Vw => belowB x.c c) (sortV l)
                  have := HSL.out
                  omega
                generalize nameVals (names ((sortV l).filter fun x => belowB x.c c)) = nv at *
                generalize (names ((sortV l).filter fun x => belowB x.c c)).length = q at *
                clear c14 ho14 hb14
                go_wp2_with fail
                go_loopg [21] q (fun g vi wr => ∃ i : Nat, i + g = q ∧ vi = .int .i64 i ∧ Hid (Below w13.heap.size w13 wr) ∧ Hid (∃ xs, wr.ownsRow w13.heap.size 9 1 (.slice p14 q k14) q xs))
                case atStart => exact ⟨0, by omega, rfl, HBX, ⟨_, HO14.out⟩⟩
                case round =>
                  obtain ⟨i, hi', rfl, hbr, HX⟩ := hrel
                  have hi0 : (0 : Int) ≤ (i : Int) := by omega
                  by_cases hlt : i < q
                  · obtain ⟨xs, ho⟩ := HX.out
                    obtain ⟨gx, capx, e1⟩ : ∃ gx capx, Value.slice p14 q k14 = .slice (some ⟨gx, 0, none⟩) q capx := by
                      rcases ho.2 with ⟨_, h⟩ | ⟨g, cap, cur, h, _⟩
                      · omega
                      · exact ⟨g, cap, h⟩
                    injection e1 with e1 _ e2
                    subst e1 e2
                    have hgx : w13.heap.size ≤ gx := (ho.lt gx rfl).1
                    have hxl : xs.length = q := by have := ho.1; omega
                    have hcell1 : wr.cell? ⟨gx, i, none⟩ = some (xs[i]'(by omega)) := by rw [ho.cellAt i (by omega), List.getElem?_eq_getElem]
                    have hfr1 := ho.frozenAt i
                    have HST := Lib.hid (fun u => (ho.stored i u).1)
                    have HBS := Lib.hid (fun u => hbr.out.setCell (p := ⟨gx, i, none⟩) hgx u)
                    have hiI : (i : Int) < (q : Int) := by omega
                    generalize xs[i]'(by omega) = u1 at hcell1
                    clear ho hbr HX
                    go_wp2_with fail
                    go_roundg (gk - 1)
                    case rel => exact ⟨i + 1, by omega, by go_num, HBS.out _, ⟨_, HST.out _⟩⟩
                    case measure => omega
                  · obtain ⟨w15, rfl⟩ : ∃ w15, w15 = wr := ⟨_, rfl⟩
                    have hiI : ¬ ((i : Int) < (q : Int)) := by omega
                    have HP15 := Lib.hid (HP13.out.later hbr.out)
                    have HRV15 := Lib.hid (HRV13.out.later hbr.out)
                    have HB15 := Lib.hid (HB13.out.trans (hbr.out.mono HB13.out.size))
                    have c16 := tells_any w15 (.pointer (some ⟨pp, 0, none⟩)) pv k cv d (sortV l) s HP15.out HSL.out HRV15.out HS.out hd (HT.out.below HB15.out)
                    clear HX hbr HP13 HRV13 HB13 HO14 HBX
                    go_wp2_with fail
                    refine c16.mono ?_
                    rintro e w16 ⟨rfl, hb16⟩
                    have HB16 := Lib.hid (HB15.out.trans (hb16.mono HB15.out.size))
                    clear c16 hb16
                    go_wp2_with fail
                    go_ret
                    exact ⟨rfl, HB16.out⟩
  · rcases HRES.out with ⟨h, _⟩ | ⟨_, rfl⟩
    · exact absurd h hok
    clear HRES
    go_wp2_with fail
    refine cR.mono ?_
    rintro e w3 ⟨hb3, ⟨h, _⟩ | ⟨_, rfl⟩⟩
    · exact absurd h hok
    have cS := prSame_any w3 pi p n ci k0 l HN.out (by omega) (HRI2.out.later hb3) (HRW2.out.later hb3)
    have HB3 := Lib.hid (HB2.out.trans (hb3.mono (by omega)))
    clear cR hb3 HB2 HO2 HRI2 HRW2
    go_wp2_with fail
    refine cS.mono ?_
    rintro e w4 ⟨rfl, hb4⟩
    have HB4 := Lib.hid (HB3.out.trans (hb4.mono HB3.out.size))
    clear cS hb4 HB3
    go_wp2_with fail
    go_ret
    exact ⟨rfl, HB4.out⟩
end Go.Proofs.YtfibbjnkicjbpaaGreatDoor
