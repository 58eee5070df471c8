/- IdentApart, by a walk over the contracts. -/
import Derived.Test.YtbcfmckhgjcakaaDoorIdAwake
import Derived.Test.YtbcfmckhgjcakaaDoorIdApartP
import Derived.Test.YtbcfmckhgjcakaaDoorIdCopyL
import Derived.Test.YtbcfmckhgjcakaaDoorIdOpen
import Derived.Test.YtbcfmckhgjcakaaDoorNumOpen
namespace Go.Proofs.YtbcfmckhgjcakaaDoor
open Go Go.RowKit Go.Maps

set_option maxRecDepth 100000 in
set_option maxHeartbeats 4000000 in
/-- The lines of a label, gathered. -/
theorem identApart_any (w : World) (p pa : Option Addr) (n c na ca a : Nat) (xs : List Li) (ks : List Int) (hT : BTab w) (ha : a < 18446744073709551616) (hn : xs.length = n) (hnm : n ≤ 3518437208780) (hr : LiRow w p xs) (hf : ∀ x ∈ xs, LiOk x) (hka : ks.length = na) (hra : NumRow .u64 w pa ks) (hks : ∀ k ∈ ks, (Lit.int .u64 k).wf = true) (hnam : na ≤ 9223372036854775807) :
    Calls Tryd.prog 4 #[.slice p n c, .slice pa na ca, .int .u64 a] w fun e w' => e = .returned (.bool true) ∧ Below w.heap.size w w' := by
  obtain ⟨i0, hi, hz0, hz1, hz2⟩ := info_parts liInfo
  have HN := Lib.hid hn
  have HKA := Lib.hid hka
  clear hn hka
  go_enter Tryd.func4, Tryd.ntmps4
  go_wp2_with fail
  refine (awake_any w hT).mono ?_
  rintro e w0 ⟨rfl, hb0⟩
  have hs0 := hb0.size
  have HB0 := Lib.hid hb0
  clear hb0 hT
  go_wp2_with fail
  go_loopg [8, 9] n (fun g v i wr => ∃ k cnt : Nat, k + g = n ∧ i = .int .i64 k ∧ cnt ≤ k ∧ Hid ((ownOf a (xs.take k)).length = cnt) ∧ Below w.heap.size w wr ∧ Hid (wr.ownsRow w.heap.size 25 4 v cnt (liCells (ownOf a (xs.take k)))))
  case atStart => exact ⟨0, 0, by omega, rfl, by omega, rfl, HB0.out, World.ownsRow_nil _ _ _ _⟩
  case round =>
    obtain ⟨k, cnt, hk, rfl, hcnt, HL, hbr, HO⟩ := hrel
    by_cases hlt : k < n
    · have hlt' : k < xs.length := by rw [HN.out]; exact hlt
      obtain ⟨b1, o1, rfl, hb1', h1c⟩ := hr.at k hlt'
      obtain ⟨g0, g1, g2, g3⟩ := h1c wr hbr
      have hx := hf xs[k] (List.getElem_mem hlt')
      have hyes := Lib.hid (fun (h : xs[k].u = a) => (show ownOf a (xs.take (k + 1)) = ownOf a (xs.take k) ++ [xs[k]] by rw [List.take_succ_eq_append_getElem hlt', own_snoc_yes h]))
      have hno := Lib.hid (fun (h : xs[k].u ≠ a) => (show ownOf a (xs.take (k + 1)) = ownOf a (xs.take k) by rw [List.take_succ_eq_append_getElem hlt', own_snoc_no h]))
      generalize xs[k] = x at *
      have hk0 : (0 : Int) ≤ (k : Int) := by omega
      have hkI : (k : Int) < (n : Int) := by omega
      have hbz := hbr.size
      have hbR := Lib.hid hbr
      clear h1c hf hr hra hks HB0 hbr
      by_cases hu : x.u = a
      · have hye := Lib.hid (hyes.out hu)
        have hq : ((x.u : Int) == (a : Int)) = true := by simp [hu]
        have ho := HO.out
        clear hyes hno hu
        go_wp2_with (at_builtin; refine wpList_append_own _ rfl _ _ 31 rfl w.heap.size 25 i0 (.agg #[.int .u64 0, .int .i64 0, .int .i64 0, .string ⟨#[]⟩]) 4 40 Tryd.underlying31 hi hz0 hz1 hz2 rfl (by decide) _ _ _ rfl (ho.alloc _) ⟨wr.heap.size, 0, none⟩ 1 1 x.vals rfl rfl ?c1 ?c2 ?c3 ?c4 ?c5 ?_)
        case c1 => exact cells_four _ x _
        case c2 => intro u hu; simp [Li.vals] at hu; rcases hu with rfl | rfl | rfl | rfl <;> rfl
        case c3 => unfold maxLen; omega
        case c4 => omega
        case c5 => simp; omega
        intro v2 w2 own2' gr2 _
        have hb2 := Lib.hid ((hbR.out.alloc (by omega) _).grown gr2 (by simp; omega) (fun g hg => (ho.lt g hg).1))
        have HO2 : Hid (w2.ownsRow w.heap.size 25 4 v2 (cnt + 1) (liCells (ownOf a (xs.take (k + 1))))) := by rw [hye.out, liCells_snoc]; exact own2'
        have HL2 : Hid ((ownOf a (xs.take (k + 1))).length = cnt + 1) := by show _ = _; rw [hye.out, List.length_append, HL.out]; rfl
        clear ho own2' gr2 HO HL hbR hye
        go_wp2_with fail
        go_roundg (gk - 1)
        case rel => exact ⟨k + 1, cnt + 1, by omega, by go_num, by omega, HL2, hb2.out, HO2⟩
        case measure => omega
      · have hye := Lib.hid (hno.out hu)
        have hq : ((x.u : Int) == (a : Int)) = false := beq_false_of_ne (by omega)
        have ho := HO.out
        rw [← hye.out] at ho
        have HO2 := Lib.hid ho
        have HL2 : Hid ((ownOf a (xs.take (k + 1))).length = cnt) := by rw [hye.out]; exact HL
        clear hyes hno HO HL hye ho hu
        go_wp2_with fail
        go_roundg (gk - 1)
        case rel => exact ⟨k + 1, cnt, by omega, by go_num, by omega, HL2, hbR.out, HO2⟩
        case measure => omega
    · obtain rfl : k = n := by omega
      have hall : xs.take k = xs := by rw [← HN.out]; exact List.take_length
      rw [hall] at HL HO
      obtain ⟨po, co, rfl, hro⟩ := li_owned HL.out HO.out
      obtain ⟨wA, rfl⟩ : ∃ wA, wA = wr := ⟨_, rfl⟩
      have own_ok : Hid (∀ x ∈ ownOf a xs, LiOk x) := fun x hx => hf x (own_mem hx).1
      have HF := Lib.hid hf
      have hsr := hbr.size
      have cX := new_any wA p k c xs HN.out (by unfold maxLen; omega) (hr.later hbr) hf
      have HRO : Aside _ := hro
      have HB := Lib.hid hbr
      clear hr hf hro HO hall HB0 hbr
      go_wp2_with fail
      refine cX.mono ?_
      rintro e w1 ⟨hb1, hres1⟩
      have HB1 := Lib.hid hb1
      have hs1 := hb1.size
      have HR1 : Aside _ := hres1
      clear cX hb1 hres1
      by_cases hok : okN xs
      · rcases HR1.out with ⟨_, p1, b1, m1, hp1, hbb1, hm1, rfl, hI1⟩ | ⟨hno, _⟩
        rotate_left
        · exact absurd hok hno
        have cY := new_any w1 po cnt co (ownOf a xs) HL.out (by unfold maxLen; omega) ((show LiRow wA po (ownOf a xs) from HRO.out).later HB1.out) own_ok.out
        have HI1 : Aside _ := hI1
        have hlt1 := hI1.lt
        have hltb1 := hI1.ltb
        clear HR1 hI1
        go_wp2_with fail
        refine cY.mono ?_
        rintro e w2 ⟨hb2, ⟨_, p2, b2, m2, hp2, hbb2, hm2, rfl, hI2⟩ | ⟨hno, _⟩⟩
        rotate_left
        · exact absurd (okN_own hok a) hno
        have HI1' : Aside _ := HI1.out.later hb2
        have HI2 : Aside _ := hI2
        have HB2 := Lib.hid (HB1.out.trans (hb2.mono hs1))
        have hs2 := hb2.size
        have hm1' : m1 ≤ k := by have := HN.out; omega
        have hm2' : m2 ≤ k := by have := HL.out; omega
        have hla := lastF_own xs a
        have hlo := Lib.hid (own_le xs a)
        have cl := last_any w2 p2 b2 m2 (lastF (ownOf a xs)) a ha hI2
        rw [hla] at cl
        have HLA := Lib.hid hla
        clear hI2 hb2 cY HI1 hm1 hm2 hla hok HB1
        go_wp2_with fail
        refine cl.mono ?_
        rintro e w' ⟨rfl, rfl⟩
        clear cl
        go_wp2_with fail
        go_loopg [13, 14] 300 (fun g l i wz => ∃ (j q1 q2 : Nat) (f1 f2 : Nat → Int), j + g = 300 ∧ j ≤ na ∧ i = .int .i64 j ∧ l = .int .i64 (f1 a) ∧ Hid (f1 a = f2 a) ∧ q1 ≤ k + j ∧ q2 ≤ k + j ∧ Aside (IdsAt wz p1 b1 q1 f1) ∧ Aside (IdsAt wz p2 b2 q2 f2) ∧ Hid (∀ x ∈ ownOf a xs, x.n ≤ f1 a) ∧ Hid (Below wA.heap.size wA wz))
        case atStart => exact ⟨0, m1, m2, lastF xs, lastF (ownOf a xs), by omega, by omega, rfl, rfl, HLA.out.symm, by omega, by omega, HI1', HI2, hlo, HB2⟩
        case round =>
          obtain ⟨j, q1, q2, f1, f2, hj, hjn, rfl, rfl, hff, hq1, hq2, HI3, HI4, hlo, HB3⟩ := hrel
          have hj0 : (0 : Int) ≤ (j : Int) := by omega
          by_cases hlt : j < na
          · by_cases h300 : j < 300
            · have hlt' : j < ks.length := by rw [HKA.out]; exact hlt
              obtain ⟨b9, o9, rfl, hb9, h9c⟩ := hra.at j hlt'
              have hz := hks ks[j] (List.getElem_mem hlt')
              have g9 := h9c _ (HB.out.trans (HB3.out.mono hsr))
              generalize ks[j] = z at *
              obtain ⟨q, rfl, hqlt⟩ := lab_nat hz
              have hjI : (j : Int) < (na : Int) := by omega
              have h3I : (j : Int) < 300 := by omega
              clear h9c hz hks hra
              have hb2lt := HI4.out.ltb
              by_cases hqa : q = a
              · subst hqa
                obtain ⟨v, hv⟩ : ∃ v, f1 q = v := ⟨_, rfl⟩
                have hv2 : f2 q = v := by rw [← hff.out]; exact hv
                have hlv := HI3.out.lo q
                have hlo' : Hid (∀ x ∈ ownOf q xs, x.n ≤ v) := by rw [← hv]; exact hlo
                rw [hv] at hlv
                have hv0 : 0 ≤ v := hlv.1
                by_cases hfull : v = 4611686018427387904
                · have cx := next_full wr p1 b1 q1 f1 q hqlt HI3.out (hv.trans hfull)
                  have cy := next_full wr p2 b2 q2 f2 q hqlt HI4.out (hv2.trans hfull)
                  rw [hv]
                  subst hfull
                  clear hv hv2 hlo hlo' hlv hff
                  go_wp2_with fail
                  refine cx.mono ?_
                  rintro e w' ⟨rfl, rfl⟩
                  clear cx
                  go_wp2_with fail
                  refine cy.mono ?_
                  rintro e w' ⟨rfl, rfl⟩
                  clear cy
                  go_wp2_with fail
                  go_ret
                  exact ⟨rfl, HB.out.trans (HB3.out.mono hsr)⟩
                · have hvlt : v < 4611686018427387904 := by omega
                  have cx := next_go wr p1 b1 q1 f1 q hqlt HI3.out (by unfold maxLen; omega) (by rw [hv]; exact hfull)
                  rw [hv] at cx ⊢
                  have HV := Lib.hid hv
                  have HV2 := Lib.hid hv2
                  clear hv hv2 hlo hlv hff hfull
                  go_wp2_with fail
                  refine cx.mono ?_
                  rintro e w4 ⟨rfl, hI5, hg5⟩
                  have HI5 : Aside _ := hI5
                  have HI6 : Aside _ := HI4.out.keep hg5.size (hg5.block _ HI4.out.lt (by simp; omega)) (hg5.block _ HI4.out.ltb (by simp; omega))
                  have g94 := hg5.cell g9 (by simp; omega)
                  have HB5 := Lib.hid (HB3.out.grown hg5 HB3.out.size (fun j hj => by cases hj; omega))
                  have cy := next_go w4 p2 b2 q2 f2 q hqlt HI6.out (by unfold maxLen; omega) (by rw [HV2.out]; omega)
                  rw [HV2.out] at cy
                  clear hI5 hg5 cx HI3 HI4 HB3 g9
                  go_wp2_with fail
                  refine cy.mono ?_
                  rintro e w5 ⟨rfl, hI7, hg7⟩
                  have HI7 : Aside _ := hI7
                  have HI8 : Aside _ := HI5.out.keep hg7.size (hg7.block _ HI5.out.lt (by simp; omega)) (hg7.block _ HI5.out.ltb (by simp; omega))
                  have HB7 := Lib.hid (HB5.out.grown hg7 HB5.out.size (fun j hj => by cases hj; omega))
                  clear hI7 hg7 cy HI5 HI6 HB5
                  obtain ⟨G, rfl⟩ : ∃ G, G = gk := ⟨_, rfl⟩
                  go_wp2_with fail
                  go_loopg [19] cnt (fun g vi wy => ∃ t : Nat, t + g = cnt ∧ vi = .int .i64 t ∧ wy = w5)
                  case atStart => exact ⟨0, by omega, rfl, rfl⟩
                  case round =>
                    obtain ⟨t, ht, rfl, rfl⟩ := hrel
                    have ht0 : (0 : Int) ≤ (t : Int) := by omega
                    by_cases htc : t < cnt
                    · have htl : t < (ownOf q xs).length := by rw [HL.out]; exact htc
                      obtain ⟨b8, o8, rfl, _, h8c⟩ := LiRow.at (show LiRow wA po (ownOf q xs) from HRO.out) t htl
                      obtain ⟨g0, g1, g2, g3⟩ := h8c _ HB7.out
                      have hxv := hlo'.out _ (List.getElem_mem htl)
                      generalize (ownOf q xs)[t] = x at *
                      have hq : (x.n == v + 1) = false := beq_false_of_ne (by omega)
                      have htI : (t : Int) < (cnt : Int) := by omega
                      clear h8c HRO
                      go_wp2_with fail
                      go_roundg (gk - 1)
                      case rel => exact ⟨t + 1, by omega, by go_num, rfl⟩
                      case measure => omega
                    · have htI : ¬ ((t : Int) < (cnt : Int)) := by omega
                      go_wp2_with fail
                      go_roundg (G - 1)
                      case rel => exact ⟨j + 1, q1 + 1, q2 + 1, upd f1 q (v + 1), upd f2 q (v + 1), by omega, by omega, by go_num, by rw [upd_same], by show _ = _; rw [upd_same, upd_same], by omega, by omega, HI8, HI7, fun x hx => by rw [upd_same]; have := hlo'.out x hx; omega, HB7⟩
                      case measure => omega
              · have hneq : ((q : Int) != (a : Int)) = true := by rw [bne, beq_false_of_ne (by omega)]; rfl
                by_cases hfull : f1 q = 4611686018427387904
                · have cx := next_full wr p1 b1 q1 f1 q hqlt HI3.out hfull
                  clear hfull
                  go_wp2_with fail
                  refine cx.mono ?_
                  rintro e w' ⟨rfl, rfl⟩
                  clear cx
                  go_wp2_with fail
                  go_roundg (gk - 1)
                  case rel => exact ⟨j + 1, q1, q2, f1, f2, by omega, by omega, by go_num, rfl, hff, by omega, by omega, HI3, HI4, hlo, HB3⟩
                  case measure => omega
                · have cx := next_go wr p1 b1 q1 f1 q hqlt HI3.out (by unfold maxLen; omega) hfull
                  have hupd : upd f1 q (f1 q + 1) a = f1 a := upd_other _ _ (fun e => hqa e.symm)
                  have HU := Lib.hid hupd
                  clear hfull hupd
                  go_wp2_with fail
                  refine cx.mono ?_
                  rintro e w4 ⟨rfl, hI5, hg5⟩
                  have HI5 : Aside _ := hI5
                  have HI6 : Aside _ := HI4.out.keep hg5.size (hg5.block _ HI4.out.lt (by simp; omega)) (hg5.block _ HI4.out.ltb (by simp; omega))
                  have g94 := hg5.cell g9 (by simp; omega)
                  have HB5 := Lib.hid (HB3.out.grown hg5 HB3.out.size (fun j hj => by cases hj; omega))
                  clear hI5 hg5 cx HI3 HI4 HB3 g9
                  go_wp2_with fail
                  go_roundg (gk - 1)
                  case rel => exact ⟨j + 1, q1 + 1, q2, upd f1 q (f1 q + 1), f2, by omega, by omega, by go_num, by rw [HU.out], by show _ = _; rw [HU.out]; exact hff.out, by omega, by omega, HI5, HI6, fun x hx => by rw [HU.out]; exact hlo.out x hx, HB5⟩
                  case measure => omega
            · have h3I : ¬ ((j : Int) < 300) := by omega
              have hjI : (j : Int) < (na : Int) := by omega
              have ce := last_any _ p1 b1 q1 f1 a ha HI3.out
              generalize f1 a = v at *
              go_wp2_with fail
              refine ce.mono ?_
              rintro e w' ⟨rfl, rfl⟩
              go_wp2_with fail
              go_ret
              exact ⟨rfl, HB.out.trans (HB3.out.mono hsr)⟩
          · have hjI : ¬ ((j : Int) < (na : Int)) := by omega
            have ce := last_any _ p1 b1 q1 f1 a ha HI3.out
            generalize f1 a = v at *
            go_wp2_with fail
            refine ce.mono ?_
            rintro e w' ⟨rfl, rfl⟩
            go_wp2_with fail
            go_ret
            exact ⟨rfl, HB.out.trans (HB3.out.mono hsr)⟩
      · rcases HR1.out with ⟨ho, _⟩ | ⟨_, rfl⟩
        · exact absurd ho hok
        go_wp2_with fail
        go_ret
        exact ⟨rfl, HB.out.trans (HB1.out.mono hsr)⟩
end Go.Proofs.YtbcfmckhgjcakaaDoor
