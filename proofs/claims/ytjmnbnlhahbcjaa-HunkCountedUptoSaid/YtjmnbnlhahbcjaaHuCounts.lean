/- HunkCounts: a walk over contracts. -/
import Derived.Test.YtjmnbnlhahbcjaaHuEqF
import Derived.Test.YtjmnbnlhahbcjaaHuRefTo
import Derived.Test.YtjmnbnlhahbcjaaHuMark
namespace Go.Proofs.Ytjmnbnlhahbcjaa
open Go Go.RowKit

theorem bool_at {W : World} {B g n c : Nat} {l : List Bool} (h : W.ownsRow B 4 1 (.slice (some ⟨g, 0, none⟩) n c) n (l.map Value.bool)) (k : Nat) (hk : k < l.length) : W.cell? ⟨g, k, none⟩ = some (.bool l[k]) := by
  have hl := h.1
  rw [List.length_map] at hl
  have := h.cellAt k (by omega)
  rw [List.getElem?_map, List.getElem?_eq_getElem hk] at this
  exact this
theorem slice_ptr {W : World} {B n c : Nat} {e : TypeId} {q : Option Addr} {cs : List Value} (h : W.ownsRow B e 1 (.slice q n c) n cs) (hn : 0 < n) : ∃ g, q = some ⟨g, 0, none⟩ ∧ B ≤ g ∧ g < W.heap.size := by
  obtain ⟨g, cap, e, _, hB, hg⟩ := own_ptr' h hn
  injection e with e1 e2 e3
  exact ⟨g, e1, hB, hg⟩
theorem tch_len {n : Nat} : ∀ (hs : List Hu) (l l' : List Bool), tch n hs l = some l' → l'.length = l.length
  | [], l, l', h => by
    simp only [tch, Option.some.injEq] at h
    rw [h]
  | h :: hs, l, l', e => by
    unfold tch at e
    split at e
    · cases e
    · rw [tch_len hs _ _ e, setR_len]
theorem tchX_len (hs : List Hu) (n : Int) : (tchX hs n).2.length ≤ 1048576 := by
  unfold tchX
  split
  · simp
  · rename_i h
    split
    · simp
    · rename_i l e
      have := tch_len hs _ _ e
      simp only [List.length_replicate] at this
      simp only
      omega
set_option maxRecDepth 100000 in
set_option maxHeartbeats 8000000 in
theorem hunkCounts_any (w : World) (p : Option Addr) (n c : Nat) (hs : List Hu) (q : Option Addr) (m d : Nat) (gs : List Hu) (N : Int) (hn : hs.length = n) (hnb : n ≤ 2513169434900) (hr : HuRow w p hs) (hB : HuB hs) (hm : gs.length = m) (hmb : m ≤ 2513169434900) (hq : HuRow w q gs) (hC : HuB gs) :
    Calls Try.prog 8 #[.slice p n c, .slice q m d, .int .i64 N] w fun e w' => e = .returned (.bool true) ∧ Below w.heap.size w w' := by
  have cZ := refSizes_any w p n c hs hn (by omega) hr hB
  have cT := fun W (hb : Below w.heap.size w W) => twin_any W p n c hs hn hnb (hr.later hb) hB
  have cY := fun W ph ch (hx : HuRow W ph hs) => sizes_any W ph n ch hs hn (by omega) hx hB
  have cS := fun W (hb : Below w.heap.size w W) => hunkSame_any W p q n m c d hs gs (hr.later hb) (hq.later hb) hn hm (by omega) (by omega) hB hC
  have cR := fun W (hb : Below w.heap.size w W) => refSame_any W p q n m c d hs gs (hr.later hb) (hq.later hb) hn hm (by omega) (by omega) hB hC
  have cU := fun W ph ch (hb : Below w.heap.size w W) (hx : HuRow W ph hs) => hunkSame_any W p ph n n c ch hs hs (hr.later hb) hx hn hn (by omega) (by omega) hB hB
  have cA := fun W (hb : Below w.heap.size w W) => refTouched_any W p n c hs N hn (by omega) (hr.later hb) hB
  have cB := fun W (hb : Below w.heap.size w W) => touched_any W p n c hs N hn (by omega) (hr.later hb) hB
  simp only [sameL_refl] at cU
  have HR := Lib.hid hr
  have HHB := Lib.hid hB
  have HN := Lib.hid hn
  clear hn hr hB hm hq hC
  generalize sizeX hs = S at *
  obtain ⟨s1, s2, s3⟩ := S
  generalize sameL hs gs = sb at *
  have hxl := tchX_len hs N
  generalize tchX hs N = X at *
  obtain ⟨xe, xl⟩ := X
  dsimp only at cZ cY hxl
  go_enter Try.func8, Try.ntmps8
  go_wp2_with fail
  refine cZ.mono ?_
  rintro e w1 ⟨rfl, hb1⟩
  have hs1 := hb1.size
  have cT1 := cT w1 hb1
  have HB1 := Lib.hid hb1
  clear cZ hb1
  go_wp2_with fail
  refine cT1.mono ?_
  rintro e w2 ⟨hb2, ph, ch, us, rfl, hrh, -⟩
  rw [HN.out]
  have hbw2 := HB1.out.trans (hb2.mono hs1)
  have hs2 := hbw2.size
  have HB2 := Lib.hid hbw2
  have cY2 := cY w2 ph ch hrh
  clear cT1 cY HB1 hb2 hrh hbw2
  go_wp2_with fail
  refine cY2.mono ?_
  rintro e w3 ⟨rfl, hb3⟩
  have hbw3 := HB2.out.trans (hb3.mono hs2)
  have hs3 := hbw3.size
  have HB3 := Lib.hid hbw3
  have cS3 := cS w3 hbw3
  clear cY2 cS HB2 hb3 hbw3
  go_wp2_with fail
  refine cS3.mono ?_
  rintro e w4 ⟨rfl, hb4⟩
  have hbw4 := HB3.out.trans (hb4.mono hs3)
  have hs4 := hbw4.size
  have HB4 := Lib.hid hbw4
  have cR4 := cR w4 hbw4
  clear cS3 cR HB3 hb4 hbw4
  go_wp2_with fail
  refine cR4.mono ?_
  rintro e w5 ⟨rfl, hb5⟩
  have hbw5 := HB4.out.trans (hb5.mono hs4)
  have hs5 := hbw5.size
  have HB5 := Lib.hid hbw5
  have cT5 := cT w5 hbw5
  have hss : (sb != sb) = false := by simp
  have hss2 : (sb == sb) = true := by simp
  clear cR4 cT HB4 hb5 hbw5
  go_wp2_with fail
  refine cT5.mono ?_
  rintro e w6 ⟨hb6, ph2, ch2, us2, rfl, hrh2, -⟩
  rw [HN.out]
  have hbw6 := HB5.out.trans (hb6.mono hs5)
  have hs6 := hbw6.size
  have HB6 := Lib.hid hbw6
  have cU6 := cU w6 ph2 ch2 hbw6 hrh2
  clear cT5 cU HB5 hb6 hrh2 hbw6 hss hss2
  go_wp2_with fail
  refine cU6.mono ?_
  rintro e w7 ⟨rfl, hb7⟩
  have hbw7 := HB6.out.trans (hb7.mono hs6)
  have hs7 := hbw7.size
  have HB7 := Lib.hid hbw7
  clear cU6 HB6 hb7 hbw7
  go_wp2_with fail
  go_loopg [13] n (fun g i wr => ∃ k : Nat, k + g = n ∧ i = .int .i64 k ∧ Below w.heap.size w wr)
  case atStart => exact ⟨0, by omega, rfl, HB7.out⟩
  case round =>
    obtain ⟨k, hk, rfl, hbr⟩ := hrel
    have hsr := hbr.size
    by_cases hlt : k < n
    · have hlt' : k < hs.length := by rw [HN.out]; exact hlt
      obtain ⟨b, off, p1, c1, p2, c2, rfl, -, -, hc⟩ := HR.out.at k hlt'
      obtain ⟨bo, bn, -, -⟩ := HHB.out.at k hlt'
      have HC := Lib.hid hc
      obtain ⟨g0, g1, g2⟩ := hc wr hbr
      have hkI : (k : Int) < (n : Int) := by omega
      have hk0 : (0 : Int) ≤ (k : Int) := by omega
      generalize hs[k].pos = ps at *
      generalize hs[k].old.length = lo at *
      generalize hs[k].new.length = ln at *
      have cH := fun W => refTouch_any W ps p1 p2 lo ln c1 c2 bo bn
      have cK := fun W => touch_any W ps p1 p2 lo ln c1 c2 bo bn
      generalize ((min lo ln : Nat) : Int) = k1 at *
      generalize ((lo - min lo ln : Nat) : Int) = k2 at *
      generalize ((ln - min lo ln : Nat) : Int) = k3 at *
      have HBR := Lib.hid hbr
      clear hc hbr
      go_wp2_with fail
      refine (cH _).mono ?_
      rintro e v1 ⟨rfl, hv1⟩
      have hbv1 := HBR.out.trans (hv1.mono hsr)
      obtain ⟨g0, g1, g2⟩ := HC.out v1 hbv1
      have hsv := hbv1.size
      have HBV := Lib.hid hbv1
      clear cH hv1 hbv1
      go_wp2_with fail
      refine (cK _).mono ?_
      rintro e v2 ⟨rfl, hv2⟩
      have HBV2 := Lib.hid (HBV.out.trans (hv2.mono hsv))
      clear cK hv2
      go_wp2_with fail
      go_roundg (gk - 1)
      case rel => exact ⟨k + 1, by omega, by go_num, HBV2.out⟩
      case measure => omega
    · obtain rfl : k = n := by omega
      have HBR := Lib.hid hbr
      have cA1 := cA wr hbr
      clear hbr cA HB7
      go_wp2_with fail
      refine cA1.mono ?_
      rintro e x1 ⟨hx1, vL, rfl, oL⟩
      have hbx1 := HBR.out.trans (hx1.mono hsr)
      have cB1 := cB x1 hbx1
      have HX1 := Lib.hid hbx1
      have hsx1 := hbx1.size
      have h1 := hx1.size
      clear cA1 hx1 hbx1
      go_wp2_with fail
      refine cB1.mono ?_
      rintro e x2 ⟨hx2, vM, rfl, oM⟩
      have hbx2 := HX1.out.trans (hx2.mono hsx1)
      have cB2 := cB x2 hbx2
      have HX2 := Lib.hid hbx2
      have hsx2 := hbx2.size
      have oL2 := row_later oL hx2
      have h2 := hx2.size
      clear cB1 cB hx2 hbx2
      go_wp2_with fail
      refine cB2.mono ?_
      rintro e x3 ⟨hx3, vN, rfl, oN⟩
      have hbx3 := HX2.out.trans (hx3.mono hsx2)
      have HX3 := Lib.hid hbx3
      have hsx3 := hbx3.size
      have oL3 := row_later oL2 hx3
      have oM3 := row_later oM hx3
      have dLM : Apart vM vL := fun g e1 e2 => by have := (oM.lt g e1).1; have := (oL.lt g e2).2; omega
      have dNM : Apart vM vN := fun g e1 e2 => by have := (oM.lt g e1).2; have := (oN.lt g e2).1; omega
      obtain ⟨qL, cL, rfl⟩ := row_form oL3
      obtain ⟨qM, cM, rfl⟩ := row_form oM3
      obtain ⟨qN, cN, rfl⟩ := row_form oN
      have HL := Lib.hid (own_mono oL3 hsr)
      have HM := Lib.hid (own_mono oM3 hsx1)
      have HNN := Lib.hid (own_mono oN hsx2)
      have DLM := Lib.hid dLM
      have DNM := Lib.hid dNM
      obtain ⟨len, hlen⟩ : ∃ len, xl.length = len := ⟨_, rfl⟩
      have HLEN := Lib.hid hlen
      rw [hlen] at HL HM HNN DLM DNM hxl
      rw [hlen]
      clear cB2 oL oL2 oL3 oM oM3 oN hx3 hbx3 dLM dNM HX1 HX2 HBR hlen h1 h2
      go_wp2_with fail
      go_loopg [26] len (fun g i wi => ∃ (t : Nat) (lm : List Bool), t + g = len ∧ i = .int .i64 t ∧ Below w.heap.size w wi ∧ lm.length = len ∧ Hid (wi.ownsRow w.heap.size 4 1 (.slice qL len cL) len (xl.map Value.bool)) ∧ Hid (wi.ownsRow w.heap.size 4 1 (.slice qM len cM) len (lm.map Value.bool)) ∧ Hid (wi.ownsRow w.heap.size 4 1 (.slice qN len cN) len (xl.map Value.bool)) ∧ Hid (∀ j, t ≤ j → lm[j]? = xl[j]?))
      case atStart => exact ⟨0, xl, by omega, rfl, HX3.out, HLEN.out, HL.out, HM.out, HNN.out, fun j _ => rfl⟩
      case round =>
        obtain ⟨t, lm, ht, rfl, hbi, hlm, RL, RM, RN, HE⟩ := hrel
        have hsi := hbi.size
        by_cases htl : t < len
        · have ht1 : t < xl.length := by rw [HLEN.out]; exact htl
          have ht2 : t < lm.length := by omega
          obtain ⟨gL, rfl, hgL, _⟩ := slice_ptr RL.out (by omega)
          obtain ⟨gM, rfl, hgM, _⟩ := slice_ptr RM.out (by omega)
          have cl := bool_at RL.out t ht1
          have cm := bool_at RM.out t ht2
          have hsame : lm[t] = xl[t] := by
            have := HE.out t (Nat.le_refl _)
            rw [List.getElem?_eq_getElem ht1, List.getElem?_eq_getElem ht2] at this
            exact Option.some.inj this
          rw [hsame] at cm
          have fz := RM.out.frozenAt t
          obtain ⟨rs, gr⟩ := RM.out.stored t (.bool (!xl[t]))
          generalize xl[t] = y at *
          have HFZ := Lib.hid fz
          have hne : (y != y) = false := by simp
          have hne2 : (y == y) = true := by simp
          have htI : (t : Int) < (len : Int) := by omega
          have ht0 : (0 : Int) ≤ (t : Int) := by omega
          have HBI := Lib.hid hbi
          clear hbi rs gr hsame fz
          go_wp2_with fail
          go_quiet (fail)
          have HBD := Lib.hid (belowDN HBI.out nq)
          have RL2 := Lib.hid (row_later RL.out (belowDN (Below.refl _ _) nq))
          have RM2 := Lib.hid (row_later RM.out (belowDN (Below.refl _ _) nq))
          have RN2 := Lib.hid (row_later RN.out (belowDN (Below.refl _ _) nq))
          have cm2 := (belowDN (Below.refl wr.heap.size wr) nq).cell (p := ⟨gM, t, none⟩) (World.block_lt_of_cell? _ _ cm)
          rw [cm] at cm2
          have fz := RM2.out.frozenAt t
          obtain ⟨rs, gr⟩ := RM2.out.stored t (.bool (!y))
          have hb6 := HBD.out.grown gr HBD.out.size (fun g hg => by injection hg with hg; subst hg; exact hgM)
          have rl6 := RL2.out.kept gr (blk_ne (fun g e1 e2 => DLM.out g (by rw [e2]; rfl) e1))
          have rn6 := RN2.out.kept gr (blk_ne (fun g e1 e2 => DNM.out g (by rw [e2]; rfl) e1))
          have rm6 : ((wr.drewN nq).setCell ⟨gM, t, none⟩ (.bool (!y))).ownsRow w.heap.size 4 1 (.slice (some ⟨gM, 0, none⟩) len cM) len ((lm.set t (!y)).map Value.bool) := by rw [List.map_set]; exact rs
          have he6 : Hid (∀ j, t + 1 ≤ j → (lm.set t (!y))[j]? = xl[j]?) := fun j hj => by rw [List.getElem?_set_ne (by omega)]; exact HE.out j (by omega)
          have hl6 : (lm.set t (!y)).length = len := by rw [List.length_set]; exact hlm
          have HB6 := Lib.hid hb6
          have RL6 := Lib.hid rl6
          have RM6 := Lib.hid rm6
          have RN6 := Lib.hid rn6
          clear rs gr hb6 rl6 rn6 rm6 cl cm RL2 RM2 RN2 HBD
          go_wp2
          go_roundg (gk - 1)
          case rel => exact ⟨t + 1, lm.set t (!y), by omega, by go_num, HB6.out, hl6, RL6.out, RM6.out, RN6.out, he6.out⟩
          case measure => omega
        · obtain rfl : len = t := by omega
          have HBI := Lib.hid hbi
          clear hbi RM HE
          go_wp2_with fail
          go_loopg [27] len (fun g i wi => ∃ t : Nat, t + g = len ∧ i = .int .i64 t ∧ Below wr.heap.size wr wi)
          case atStart => exact ⟨0, by omega, rfl, Below.refl _ _⟩
          case round =>
            obtain ⟨t, ht, rfl, hbj⟩ := hrel
            by_cases htl : t < len
            · have ht1 : t < xl.length := by rw [HLEN.out]; exact htl
              have rl := row_later RL.out hbj
              have rn := row_later RN.out hbj
              obtain ⟨gL, rfl, -, -⟩ := slice_ptr rl (by omega)
              obtain ⟨gN, rfl, -, -⟩ := slice_ptr rn (by omega)
              have cl := bool_at rl t ht1
              have cn := bool_at rn t ht1
              generalize xl[t] = y at *
              have hne : (y != y) = false := by simp
              have htI : (t : Int) < (len : Int) := by omega
              have ht0 : (0 : Int) ≤ (t : Int) := by omega
              have HBJ := Lib.hid hbj
              clear hbj rl rn
              go_wp2_with fail
              go_quiet (fail)
              go_wp2
              go_roundg (gk - 1)
              case rel => exact ⟨t + 1, by omega, by go_num, belowDN HBJ.out _⟩
              case measure => omega
            · obtain rfl : len = t := by omega
              have HF := Lib.hid (HBI.out.trans (hbj.mono hsi))
              clear hbj
              go_wp2_with fail
              go_ret
              exact ⟨rfl, HF.out⟩
end Go.Proofs.Ytjmnbnlhahbcjaa
