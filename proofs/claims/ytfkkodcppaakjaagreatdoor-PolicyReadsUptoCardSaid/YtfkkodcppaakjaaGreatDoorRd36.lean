/- Texts of the proof, merged: PrErase. -/
import Derived.Test.YtfkkodcppaakjaaGreatDoorRd35
/- The document's Erase and Above of chapter 3, by contracts. -/
namespace Go.Proofs.YtfkkodcppaakjaaGreatDoor
open Go Go.RowKit

theorem flt_yes {l : List Vw} {k : Nat} (hk : k < l.length) (f : Vw → Bool) (h : f l[k] = true) : (l.take (k + 1)).filter f = (l.take k).filter f ++ [l[k]] := by rw [filter_snoc hk f, if_pos h]
theorem flt_no {l : List Vw} {k : Nat} (hk : k < l.length) (f : Vw → Bool) (h : f l[k] = false) : (l.take (k + 1)).filter f = (l.take k).filter f := by rw [filter_snoc hk f, if_neg (by simp [h]), List.append_nil]
theorem vw_cells (w : World) (x : Vw) (T : TypeId) : ∀ j u, x.vals[j]? = some u → (w.alloc (.cells #[.string (bs x.s), .int .u64 x.c] T)).cell? ((⟨w.heap.size, 0, none⟩ : Addr).add j) = some u := fun j u hj => by
  match j, hj with
  | 0, hj => simp [Vw.vals] at hj; subst hj; simp [Addr.add]
  | 1, hj => simp [Vw.vals] at hj; subst hj; simp [Addr.add]
set_option maxRecDepth 100000 in
set_option maxHeartbeats 2000000 in
theorem prErase_any (w : World) (p : Option Addr) (n c a : Nat) (l : List Vw) (hn : l.length = n) (h64 : n ≤ 64) (hr : VwRow w p l) (hl : Lo64 l) (ha : a < 18446744073709551616) :
    Calls Tryz.prog 50 #[.slice p n c, .int .u64 a] w (GivesVw w (l.filter fun x => belowB x.c a)) := by
  obtain ⟨i0, hi, hz0, hz1, hz2⟩ := info_parts vwInfo
  have HN := Lib.hid hn
  clear hn
  go_enter Tryz.func50, Tryz.ntmps50
  go_wp2
  go_loopg [5, 6] n (fun g u vi wr => ∃ k m : Nat, k + g = n ∧ vi = .int .i64 k ∧ m ≤ k ∧ Hid (((l.take k).filter fun x => belowB x.c a).length = m) ∧ Below w.heap.size w wr ∧ Hid (wr.ownsRow w.heap.size 81 2 u m (flat ((l.take k).filter fun x => belowB x.c a))))
  case atStart => exact ⟨0, 0, by omega, rfl, by omega, rfl, Below.refl _ _, World.ownsRow_nil _ _ _ _⟩
  case round =>
    obtain ⟨k, m, hk, rfl, hm, HM, hbr, HO⟩ := hrel
    have hsr := hbr.size
    have hk0 : (0 : Int) ≤ (k : Int) := by omega
    by_cases hlt : k < n
    · have hlt' : k < l.length := by rw [HN.out]; exact hlt
      obtain ⟨b1, o1, rfl, hb1, h1c⟩ := hr.at k hlt'
      obtain ⟨g1, g2⟩ := h1c wr hbr
      have hy := Lib.hid (flt_yes hlt' (fun x => belowB x.c a))
      have hno := Lib.hid (flt_no hlt' (fun x => belowB x.c a))
      have hx := hl _ (List.getElem_mem hlt')
      generalize l[k] = x at *
      have cB := prBelow_any x.c a wr hx ha
      have ho' := HO.out
      have HB := Lib.hid hbr
      have hkI : (k : Int) < (n : Int) := by omega
      clear h1c hbr hl hr
      cases hbl : belowB x.c a
      · have HE := Lib.hid (hno.out hbl)
        rw [hbl] at cB
        have HO2 := Lib.hid (HE.out.symm ▸ ho')
        have hE := HE.out
        rw [← hE] at ho'
        have HO3 := Lib.hid ho'
        have HM3 : Hid (((l.take (k + 1)).filter fun x => belowB x.c a).length = m) := by show _ = _; rw [hE]; exact HM
        clear hy hno hbl HE hE ho' HO HO2 HM
        go_wp2_with fail
        refine cB.mono ?_
        rintro e w' ⟨rfl, rfl⟩
        clear cB
        go_wp2_with fail
        go_roundg (gk - 1)
        case rel => exact ⟨k + 1, m, by omega, by go_num, by omega, HM3, HB.out, HO3⟩
        case measure => omega
      · have HE := Lib.hid (hy.out hbl)
        rw [hbl] at cB
        clear hy hno hbl HO
        go_wp2_with fail
        refine cB.mono ?_
        rintro e w' ⟨rfl, rfl⟩
        clear cB
        go_wp2_with (at_builtin; refine wpList_append_own _ rfl _ _ 28 rfl w.heap.size 81 i0 (.agg #[.string ⟨#[]⟩, .int .u64 0]) 2 24 Tryz.underlying28 hi hz0 hz1 hz2 rfl (by decide) _ _ _ rfl (ho'.alloc _) ⟨wr.heap.size, 0, none⟩ 1 1 x.vals rfl rfl ?c1 ?c2 ?c3 ?c4 ?c5 ?_)
        case c1 => exact vw_cells _ x _
        case c2 => intro u hu; simp [Vw.vals] at hu; rcases hu with rfl | rfl <;> rfl
        case c3 => unfold maxLen; omega
        case c4 => omega
        case c5 => simp; omega
        intro v2 w2 own2' gr2 _
        have hb2 := Lib.hid ((HB.out.alloc (by omega) _).grown gr2 (by simp; omega) (fun g hg => (ho'.lt g hg).1))
        have HO2 : Hid (w2.ownsRow w.heap.size 81 2 v2 (m + 1) (flat ((l.take (k + 1)).filter fun x => belowB x.c a))) := by rw [HE.out, flat_snoc]; exact own2'
        have HM2 : Hid (((l.take (k + 1)).filter fun x => belowB x.c a).length = m + 1) := by show _ = _; rw [HE.out, List.length_append, HM.out]; rfl
        clear ho' own2' gr2 HM HE
        go_wp2_with fail
        go_roundg (gk - 1)
        case rel => exact ⟨k + 1, m + 1, by omega, by go_num, by omega, HM2, hb2.out, HO2⟩
        case measure => omega
    · obtain rfl : k = n := by omega
      have hall : l.take k = l := by rw [← HN.out]; exact List.take_length
      have HO2 := Lib.hid HO.out
      rw [hall] at HO2 HM
      have HB := Lib.hid hbr
      have hkI : ¬ ((k : Int) < (k : Int)) := by omega
      clear HO hbr hall
      go_wp2_with fail
      go_ret
      obtain ⟨p1, c1, hu, hrow⟩ := vw_owned HM.out HO2.out
      have ho := HO2.out
      rw [hu] at ho ⊢
      refine ⟨HB.out, p1, c1, by rw [HM.out]; rfl, hrow, ?_⟩
      rw [HM.out]; exact ho
set_option maxRecDepth 100000 in
set_option maxHeartbeats 2000000 in
theorem prAbove_any (w : World) (p : Option Addr) (n c a : Nat) (l : List Vw) (hn : l.length = n) (h64 : n ≤ 64) (hr : VwRow w p l) (hl : Lo64 l) (ha : a < 18446744073709551616) :
    Calls Tryz.prog 52 #[.slice p n c, .int .u64 a] w (GivesNm w (names (l.filter fun x => belowB a x.c))) := by
  obtain ⟨i0, hi, hz0, hz1, hz2⟩ := info_parts strInfo
  have HN := Lib.hid hn
  clear hn
  go_enter Tryz.func52, Tryz.ntmps52
  go_wp2
  go_loopg [5, 6] n (fun g u vi wr => ∃ k m : Nat, k + g = n ∧ vi = .int .i64 k ∧ m ≤ k ∧ Hid (((l.take k).filter fun x => belowB a x.c).length = m) ∧ Below w.heap.size w wr ∧ Hid (wr.ownsRow w.heap.size 9 1 u m (nameVals (names ((l.take k).filter fun x => belowB a x.c)))))
  case atStart => exact ⟨0, 0, by omega, rfl, by omega, rfl, Below.refl _ _, World.ownsRow_nil _ _ _ _⟩
  case round =>
    obtain ⟨k, m, hk, rfl, hm, HM, hbr, HO⟩ := hrel
    have hsr := hbr.size
    have hk0 : (0 : Int) ≤ (k : Int) := by omega
    by_cases hlt : k < n
    · have hlt' : k < l.length := by rw [HN.out]; exact hlt
      obtain ⟨b1, o1, rfl, hb1, h1c⟩ := hr.at k hlt'
      obtain ⟨g1, g2⟩ := h1c wr hbr
      have hy := Lib.hid (flt_yes hlt' (fun x => belowB a x.c))
      have hno := Lib.hid (flt_no hlt' (fun x => belowB a x.c))
      have hx := hl _ (List.getElem_mem hlt')
      generalize l[k] = x at *
      have cB := prBelow_any a x.c wr ha hx
      have ho' := HO.out
      have HB := Lib.hid hbr
      have hkI : (k : Int) < (n : Int) := by omega
      clear h1c hbr hl hr
      cases hbl : belowB a x.c
      · have hE := hno.out hbl
        rw [hbl] at cB
        rw [← hE] at ho'
        have HO3 := Lib.hid ho'
        have HM3 : Hid (((l.take (k + 1)).filter fun x => belowB a x.c).length = m) := by show _ = _; rw [hE]; exact HM
        clear hy hno hbl hE ho' HO HM
        go_wp2_with fail
        refine cB.mono ?_
        rintro e w' ⟨rfl, rfl⟩
        clear cB
        go_wp2_with fail
        go_roundg (gk - 1)
        case rel => exact ⟨k + 1, m, by omega, by go_num, by omega, HM3, HB.out, HO3⟩
        case measure => omega
      · have HE := Lib.hid (hy.out hbl)
        rw [hbl] at cB
        clear hy hno hbl HO
        go_wp2_with fail
        refine cB.mono ?_
        rintro e w' ⟨rfl, rfl⟩
        clear cB
        go_wp2_with (at_builtin; refine wpList_append_own _ rfl _ _ 75 rfl w.heap.size 9 i0 (.string ⟨#[]⟩) 1 16 Tryz.underlying75 hi hz0 hz1 hz2 rfl (by decide) _ _ _ rfl (ho'.alloc _) ⟨wr.heap.size, 0, none⟩ 1 1 [.string (bs x.s)] rfl rfl ?c1 ?c2 ?c3 ?c4 ?c5 ?_)
        case c1 =>
          intro j u hj
          match j, hj with
          | 0, hj => simp at hj; subst hj; simp [Addr.add]
        case c2 => intro u hu; simp at hu; subst hu; rfl
        case c3 => unfold maxLen; omega
        case c4 => omega
        case c5 => simp; omega
        intro v2 w2 own2' gr2 _
        have hb2 := Lib.hid ((HB.out.alloc (by omega) _).grown gr2 (by simp; omega) (fun g hg => (ho'.lt g hg).1))
        have HO2 : Hid (w2.ownsRow w.heap.size 9 1 v2 (m + 1) (nameVals (names ((l.take (k + 1)).filter fun x => belowB a x.c)))) := by
          rw [HE.out]
          unfold names nameVals
          rw [List.map_append, List.map_append]
          exact own2'
        have HM2 : Hid (((l.take (k + 1)).filter fun x => belowB a x.c).length = m + 1) := by show _ = _; rw [HE.out, List.length_append, HM.out]; rfl
        clear ho' own2' gr2 HM HE
        go_wp2_with fail
        go_roundg (gk - 1)
        case rel => exact ⟨k + 1, m + 1, by omega, by go_num, by omega, HM2, hb2.out, HO2⟩
        case measure => omega
    · obtain rfl : k = n := by omega
      have hall : l.take k = l := by rw [← HN.out]; exact List.take_length
      have HO2 := Lib.hid HO.out
      rw [hall] at HO2 HM
      have hnl : (names (l.filter fun x => belowB a x.c)).length = m := by unfold names; rw [List.length_map]; exact HM.out
      have HB := Lib.hid hbr
      have HL := Lib.hid hnl
      have hkI : ¬ ((k : Int) < (k : Int)) := by omega
      clear HO hbr hall hnl
      go_wp2_with fail
      go_ret
      obtain ⟨p1, c1, hu, hrow⟩ := nm_owned HL.out HO2.out
      have ho := HO2.out
      rw [hu] at ho ⊢
      refine ⟨HB.out, p1, c1, by rw [HL.out]; rfl, hrow, ?_⟩
      rw [HL.out]; exact ho
end Go.Proofs.YtfkkodcppaakjaaGreatDoor
