/- The law LinesLists by a walk over the contracts. -/
import Derived.Test.YtbhgeikijifbgaaLnEqual
import Derived.Test.YtbhgeikijifbgaaLnTexts
import Derived.Test.YtbhgeikijifbgaaLnCopy
namespace Go.Proofs.Ytbhgeikijifbgaa
open Go.RowKit

/-- Its own lines, in some state. -/
def OwnLines (W : World) (B : Nat) (p : Option Addr) (n c : Nat) : Prop := ∃ zs : List Ln, zs.length = n ∧ W.ownsRow B 25 4 (.slice p n c) n (flat zs)

set_option maxRecDepth 100000 in
set_option maxHeartbeats 8000000 in
theorem linesLists_any (w : World) (pa pb : Option Addr) (n nb ca cb : Nat) (xs ys : List Ln) (at_ : Int) (hx : LnRow w pa xs) (hy : LnRow w pb ys) (hn : xs.length = n) (hnb : ys.length = nb) (hl : n ≤ 3518437208883)
    (hnil : pa = none → n = 0 ∧ ca = 0) (h0 : -9223372036854775808 ≤ at_) (h1 : at_ ≤ 9223372036854775807) :
    Calls Try.prog 4 #[.slice pa n ca, .slice pb nb cb, .int .i64 at_] w fun e w' => e = .returned (.bool true) ∧ Below w.heap.size w w' := by
  obtain ⟨i0, hi, hz0, hz1, hz2⟩ := info_parts lnInfo
  have hlit := World.ownsRow_lit (base := w.heap.size) (e := 25) (size := 4) w #[] 0 (Nat.le_refl _) (Nat.zero_le _) rfl
  have hxl : LnRow (w.alloc (.cells #[] 25)) pa xs := hx.later ((Below.refl _ _).alloc (Nat.le_refl _) _)
  have HB0 : Hid (Below w.heap.size w (w.alloc (.cells #[] 25))) := (Below.refl _ _).alloc (Nat.le_refl _) _
  go_enter Try.func4, Try.ntmps4
  go_wp2_with (at_builtin; refine copy_lines rfl _ _ 30 rfl w.heap.size 25 i0 _ Try.underlying30 hi hz0 hz1 hz2 rfl _ rfl hlit pa n ca xs rfl hn hxl hnil hl (HB0.out.size) ?_)
  intro v' w1 ho1 hb1
  obtain ⟨p0, c0, rfl, _⟩ := ln_owned hn ho1
  have hbw : Below w.heap.size w w1 := HB0.out.trans hb1
  have HO : Hid (OwnLines w1 w.heap.size p0 n c0) := ⟨xs, hn, ho1⟩
  clear ho1 hb1 hlit hxl HB0 hnil hx
  go_wp2_with fail
  go_loopg [8] 3 (fun g i wr => ∃ r : Nat, r ≤ 2 ∧ g = 3 - r ∧ i = .int .i64 r ∧ Below w.heap.size w wr ∧ Hid (OwnLines wr w.heap.size p0 n c0))
  case atStart => exact ⟨0, by omega, rfl, rfl, hbw, HO⟩
  case round =>
    clear hbw HO
    obtain ⟨r, hr, rfl, rfl, hbr, HO⟩ := hrel
    by_cases hr2 : r < 2
    · obtain ⟨zs, hz, ho⟩ := HO.out
      have hBs := hbr.size
      have hlit := World.ownsRow_lit (base := wr.heap.size) (e := 25) (size := 4) wr #[] 0 (Nat.le_refl _) (Nat.zero_le _) rfl
      have hoa := ho.alloc (.cells #[] 25)
      obtain ⟨_, _, e0, hin⟩ := ln_owned hz hoa
      injection e0 with e1 e2 e3
      subst e1 e3
      have hnil0 : p0 = none → n = 0 ∧ c0 = 0 := by
        intro e
        subst e
        rcases ho.2 with ⟨hv, _⟩ | ⟨g, cap, cur, hv, _⟩
        · injection hv with _ a1 a2; exact ⟨a1, a2⟩
        · cases hv
      have HB0 : Hid (Below wr.heap.size wr (wr.alloc (.cells #[] 25))) := (Below.refl _ _).alloc (Nat.le_refl _) _
      have HO2 := Lib.hid ho
      clear ho hoa HO
      go_wp2_with (at_builtin; refine copy_lines rfl _ _ 30 rfl wr.heap.size 25 i0 _ Try.underlying30 hi hz0 hz1 hz2 rfl _ rfl hlit p0 n c0 zs rfl hz hin hnil0 hl (HB0.out.size) ?_)
      intro v' w2 ho2 hb2
      obtain ⟨p1, c1, rfl, hnow⟩ := ln_owned hz ho2
      have hb12 := HB0.out.trans hb2
      have hoi := owns_later HO2.out hb12
      obtain ⟨_, _, e0, hinr⟩ := ln_owned hz hoi
      injection e0 with e1 e2 e3
      subst e1 e3
      have hbw2 := hbr.trans (hb12.mono hBs)
      have HgI : Hid (∀ k, (Value.slice p0 n c0).ownBlock = some k → k < w2.heap.size) := fun k hk => Nat.lt_of_lt_of_le (HO2.out.lt k hk).2 hb12.size
      have HgN : Hid (∀ k, (Value.slice p1 n c1).ownBlock = some k → k < w2.heap.size) := fun k hk => (ho2.lt k hk).2
      have HI := Lib.hid hoi
      have HN := Lib.hid ho2
      have cT := texts_any w2 p0 n c0 zs hinr hz hl
      have HB2 : Hid (w.heap.size ≤ w2.heap.size) := hbw2.size
      have HB1' : Hid (w.heap.size ≤ wr.heap.size) := hBs
      clear hoi ho2 hb2 hb12 HB0 HO2 hlit hin hnil0 hbr hBs e2
      go_wp2_with fail
      refine cT.mono ?_
      rintro e w3 ⟨p2, c2, rfl, hb3, ho3⟩
      have HgT : Hid (∀ k, (Value.slice p2 n c2).ownBlock = some k → w2.heap.size ≤ k ∧ k < w3.heap.size) := fun k hk => ho3.lt k hk
      have hrt := row_at ((tx_len zs).trans hz) ho3
      have HT := Lib.hid ho3
      have cR := refTexts_any w3 p1 n c1 zs (hnow.later hb3) hz hl
      clear cT ho3
      go_wp2_with fail
      refine cR.mono ?_
      rintro e w4 ⟨p3, c3, rfl, hb4, ho4⟩
      have hb34 := hb3.trans (hb4.mono hb3.size)
      have hlt := (tx_len zs).trans hz
      have cS := sameTexts_any w4 p2 p3 n n c2 c3 (txOf zs) (hrt.later hb4) (row_at hlt ho4) hlt hlt (by omega)
      clear cR ho4 hrt
      go_wp2_with fail
      refine cS.mono ?_
      rintro e w5 ⟨rfl, hb5⟩
      have hb35 := hb34.trans (hb5.mono hb34.size)
      have ht35 := hb4.trans (hb5.mono hb4.size)
      obtain ⟨bb, hbb⟩ : ∃ bb, sameB zs ys = bb := ⟨_, rfl⟩
      have c6 := same_any w5 p0 pb n nb c0 cb zs ys (hinr.later hb35) (hy.later (hbw2.trans (hb35.mono hbw2.size))) hz hnb hl
      rw [hbb] at c6
      clear cS hb34 hb4 hb5
      go_wp2_with fail
      refine c6.mono ?_
      rintro e w6 ⟨rfl, hb6⟩
      have hb36 := hb35.trans (hb6.mono hb35.size)
      have ht36 := ht35.trans (hb6.mono ht35.size)
      have c7 := refSame_any w6 p1 pb n nb c1 cb zs ys (hnow.later hb36) (hy.later (hbw2.trans (hb36.mono hbw2.size))) hz hnb hl
      rw [hbb] at c7
      clear c6 hb35 ht35 hb6 hbb
      go_wp2_with fail
      refine c7.mono ?_
      rintro e w7 ⟨rfl, hb7⟩
      have hb37 := hb36.trans (hb7.mono hb36.size)
      have ht37 := ht36.trans (hb7.mono ht36.size)
      have c8 := same_any w7 p0 p1 n n c0 c1 zs zs (hinr.later hb37) (hnow.later hb37) hz hz hl
      rw [sameB_refl] at c8
      clear c7 hb36 ht36 hb7
      go_wp2_with fail
      refine c8.mono ?_
      rintro e w8 ⟨rfl, hb8⟩
      have hb38 := hb37.trans (hb8.mono hb37.size)
      have ht38 := ht37.trans (hb8.mono ht37.size)
      have c9 := refSame_any w8 p0 p1 n n c0 c1 zs zs (hinr.later hb38) (hnow.later hb38) hz hz hl
      rw [sameB_refl] at c9
      clear c8 hb37 ht37 hb8
      go_wp2_with fail
      refine c9.mono ?_
      rintro e w9 ⟨rfl, hb9⟩
      have hb39 := hb38.trans (hb9.mono hb38.size)
      have ht39 := ht38.trans (hb9.mono ht38.size)
      have hbw9 := hbw2.trans (hb39.mono hbw2.size)
      have HT9 : Hid (∃ cs : List Value, w9.ownsRow w2.heap.size 9 1 (.slice p2 n c2) n cs) := ⟨_, owns_later HT.out ht39⟩
      have HI9 := Lib.hid (owns_later HI.out hb39)
      have HN9 := Lib.hid (owns_later HN.out hb39)
      clear c9 hb38 ht38 hb9 hb39 ht39 HI HN HT hinr hnow hb3 hbw2
      generalize w2.heap.size = B2 at *
      generalize w3.heap.size = B3 at *
      have HB1 : Hid (w.heap.size ≤ wr.heap.size) := HB1'.out
      generalize wr.heap.size = B1 at *
      go_wp2_with fail
      go_loopg [11] n (fun g i wx => ∃ k : Nat, k ≤ n ∧ g = n - k ∧ i = .int .i64 k ∧ Below w.heap.size w wx ∧ Hid (∃ cs : List Value, wx.ownsRow B2 9 1 (.slice p2 n c2) n cs) ∧
        Hid (wx.ownsRow w.heap.size 25 4 (.slice p0 n c0) n (flat zs)) ∧ Hid (wx.ownsRow B1 25 4 (.slice p1 n c1) n (flat zs)))
      case atStart => exact ⟨0, by omega, rfl, rfl, hbw9, HT9, HI9, HN9⟩
      case round =>
        clear hbw9 HT9 HI9 HN9
        obtain ⟨k, hk, rfl, rfl, hbx, hot, hoi, hon⟩ := hrel
        by_cases hlt2 : k < n
        · obtain ⟨cs, ho⟩ := hot.out
          obtain ⟨g, rfl⟩ : ∃ g, p2 = some ⟨g, 0, none⟩ := by
            rcases ho.2 with ⟨hv, h0'⟩ | ⟨g, cap, cur, hv, _⟩
            · omega
            · injection hv with e1 _ _
              exact ⟨g, e1⟩
          obtain ⟨hg1, hg2⟩ := HgT.out g rfl
          have hck : k < cs.length := by have := ho.1; omega
          have hcell : wr.cell? ⟨g, k, none⟩ = some cs[k] := by rw [ho.cellAt k (by omega), List.getElem?_eq_getElem hck]
          have hfz := ho.frozenAt k
          obtain ⟨hst, hgr⟩ := ho.stored k (.string ⟨#[63]⟩)
          have hne : ∀ v : Value, (∀ k, v.ownBlock = some k → k < B2) → v.ownBlock = none ∨ v.ownBlock ≠ some g := by
            intro v hv
            cases e : v.ownBlock with
            | none => exact .inl rfl
            | some q => exact .inr (fun e' => by injection e' with e'; have := hv q e; omega)
          have HI2 := Lib.hid (World.ownsRow.kept hoi.out hgr (hne _ HgI.out))
          have HN2 := Lib.hid (World.ownsRow.kept hon.out hgr (hne _ HgN.out))
          have HS : Hid (∃ cs : List Value, (wr.setCell ⟨g, k, none⟩ (.string ⟨#[63]⟩)).ownsRow B2 9 1 (.slice (some ⟨g, 0, none⟩) n c2) n cs) := ⟨_, hst⟩
          have hbs : Below w.heap.size w (wr.setCell ⟨g, k, none⟩ (.string ⟨#[63]⟩)) := hbx.setCell (p := ⟨g, k, none⟩) (Nat.le_trans HB2.out hg1) _
          generalize cs[k] = u at *
          clear ho hst hgr hoi hon hot hne
          go_wp2_with fail
          go_roundg (n - (k + 1))
          case rel => exact ⟨k + 1, by omega, rfl, by go_num, hbs, HS, HI2, HN2⟩
          case measure => omega
        · obtain rfl : n = k := by omega
          obtain ⟨_, _, e0, hinr⟩ := ln_owned hz hoi.out
          injection e0 with e1 e2 e3
          subst e1 e3
          obtain ⟨_, _, e0, hnow⟩ := ln_owned hz hon.out
          injection e0 with e1 e2 e3
          subst e1 e3
          have cF := refSame_any wr p0 p1 n n c0 c1 zs zs hinr hnow hz hz hl
          rw [sameB_refl] at cF
          clear hot hon hinr hnow HgI HgN HgT
          go_wp2_with fail
          refine cF.mono ?_
          rintro e w10 ⟨rfl, hb10⟩
          have hbw10 := hbx.trans (hb10.mono hbx.size)
          have HO10 := Lib.hid (owns_later hoi.out hb10)
          clear cF hoi hb10 hbx
          by_cases hneg : at_ < 0
          · go_wp2_with fail
            go_roundg (3 - (r + 1))
            case rel => exact ⟨r + 1, by omega, rfl, by go_num, hbw10, ⟨zs, hz, HO10.out⟩⟩
            case measure => omega
          · obtain ⟨a, rfl⟩ : ∃ a : Nat, at_ = a := ⟨at_.toNat, by omega⟩
            by_cases hin : a < n
            · have ho := HO10.out
              obtain ⟨g, rfl⟩ : ∃ g, p0 = some ⟨g, 0, none⟩ := by
                rcases ho.2 with ⟨hv, h0'⟩ | ⟨g, cap, cur, hv, _⟩
                · omega
                · injection hv with e1 _ _
                  exact ⟨g, e1⟩
              have hg1 := (ho.lt g rfl).1
              have haz : a < zs.length := by omega
              have hcell : w10.cell? ⟨g, a * 4 + 2, none⟩ = some (.int .i64 zs[a].r) := (ho.cellAt (a * 4 + 2) (by omega)).trans (flat_at zs a 2 haz (by omega))
              have hfz := ho.frozenAt (a * 4 + 2)
              have HS : Hid (∀ X, OwnLines (w10.setCell ⟨g, a * 4 + 2, none⟩ (.int .i64 X)) w.heap.size (some ⟨g, 0, none⟩) n c0) := fun X => by
                obtain ⟨hst, _⟩ := ho.stored (a * 4 + 2) (.int .i64 X)
                rw [flat_set zs a X haz] at hst
                exact ⟨setRev zs a X, (setRev_len zs a X).trans hz, hst⟩
              have HB : Hid (∀ X, Below w.heap.size w (w10.setCell ⟨g, a * 4 + 2, none⟩ (.int .i64 X))) := fun X => hbw10.setCell (p := ⟨g, a * 4 + 2, none⟩) hg1 _
              generalize zs[a].r = old at *
              have ha0 : (0 : Int) ≤ (a : Int) := Int.natCast_nonneg _
              have han : (a : Int) < (n : Int) := by omega
              clear ho HO10 hbw10
              go_wp2_with fail
              go_roundg (3 - (r + 1))
              case rel => exact ⟨r + 1, by omega, rfl, by go_num, HB.out _, HS.out _⟩
              case measure => omega
            · go_wp2_with fail
              go_roundg (3 - (r + 1))
              case rel => exact ⟨r + 1, by omega, rfl, by go_num, hbw10, ⟨zs, hz, HO10.out⟩⟩
              case measure => omega
    · obtain rfl : r = 2 := by omega
      clear HO
      go_wp2_with fail
      go_ret
      exact ⟨rfl, hbr⟩
end Go.Proofs.Ytbhgeikijifbgaa
