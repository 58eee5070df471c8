/- The document's Apply: by its contract. -/
import Derived.Test.YtjmnbnlhahbcjaaHuApP
import Derived.Test.YtjmnbnlhahbcjaaHuMark
namespace Go.Proofs.Ytjmnbnlhahbcjaa
open Go Go.RowKit

theorem first_gt {l : Int} {k : Nat} {rest : List Hu} (g : Good l rest) (h : (k : Int) < l) : ∀ x xs, rest = x :: xs → (k : Int) < x.pos := fun x xs e => by
  subst e
  have := ((stp_iff l x).1 g.1).1
  omega
theorem ap_one {a : List Tx} {k : Nat} {rest : List Hu} (hk : k < a.length) (h : ∀ x xs, rest = x :: xs → (k : Int) < x.pos) : ap a k rest = a[k] :: ap a (k + 1) rest := by
  cases rest with
  | nil => exact List.drop_eq_getElem_cons hk
  | cons x xs =>
    have hx := h x xs rfl
    simp only [ap]
    rw [← List.cons_append]
    congr 1
    rw [← seg_app a k (k + 1) x.pos.toNat (by omega) (by omega), seg_one a k hk]
    rfl
theorem nil_of {a : List Tx} {l : Int} {m : Nat} {rest : List Hu} (g : Good l rest) (h : (m : Int) < l) (hf : ∀ h ∈ rest, fit1 a h = 0) (hm : a.length = m) : rest = [] := by
  cases rest with
  | nil => rfl
  | cons x xs =>
    have h1 := ((stp_iff l x).1 g.1).1
    have h2 := (fit1_zero (hf x (.head _))).1
    omega
theorem Good.up {l l' : Int} {x : Hu} {xs : List Hu} (g : Good l (x :: xs)) (h : l' ≤ x.pos) : Good l' (x :: xs) := by
  obtain ⟨s, g⟩ := g
  obtain ⟨_, s2, s3, s4, s5⟩ := (stp_iff l x).1 s
  exact ⟨(stp_iff l' x).2 ⟨h, s2, s3, s4, s5⟩, g⟩
set_option maxRecDepth 100000 in
set_option maxHeartbeats 4000000 in
theorem refApply_any (w : World) (q : Option Addr) (m d : Nat) (a : List Tx) (p : Option Addr) (n c : Nat) (hs : List Hu) (hn : hs.length = n) (hnb : n ≤ 2513169434900) (hr : HuRow w p hs) (hB : HuB hs) (hm : a.length = m) (hq : TxP w q d a) (hsum : m + comesN hs ≤ 2097152) :
    Calls Try.prog 40 #[.slice q m d, .slice p n c] w (GivesA w (apX a hs)) := by
  obtain ⟨i0, hi, hz0, hz1, hz2⟩ := info_parts strInfo
  have cF := refFits_any w p n c hs q m d a hn (by omega) hr hB hm (by omega) hq
  have HN := Lib.hid hn
  have HM := Lib.hid hm
  have HR := Lib.hid hr
  have HHB := Lib.hid hB
  have HQ := Lib.hid hq.1
  unfold apX
  clear hn hr hB hm hq
  by_cases hbad : (fitX a hs).2 = 0
  · rw [if_pos hbad]
    obtain ⟨e1, hG, hF, hFS⟩ := fitX_zero hbad
    rw [e1] at cF
    have hlen := ap_len 0 hs hFS (Nat.zero_le _)
    rw [HM.out] at hlen
    obtain ⟨bb, hbb⟩ : ∃ bb, ap a 0 hs = bb := ⟨_, rfl⟩
    rw [hbb] at hlen ⊢
    have hbl : bb.length ≤ 2097152 := by omega
    have HG0 := Lib.hid hG
    have HF := Lib.hid hF
    have HA0 := Lib.hid hbb
    clear hbad e1 hG hF hFS hbb hlen
    go_enter Try.func40, Try.ntmps40
    go_wp2_with fail
    refine cF.mono ?_
    rintro e w1 ⟨rfl, hb1⟩
    have HB1 := Lib.hid hb1
    clear cF hb1
    go_wp2_with fail
    go_loopg [8, 9, 10] (m + 1) (fun g v iv av wr => ∃ (k t : Nat) (l : Int) (O : List Tx), k + g = m + 1 ∧ t ≤ n ∧ av = .int .i64 k ∧ iv = .int .i64 t ∧ Below w.heap.size w wr ∧ Hid (wr.ownsRow w.heap.size 9 1 v O.length (O.map Value.string)) ∧ Hid (Good l (hs.drop t)) ∧ (k : Int) ≤ l ∧ Hid (k ≤ m → O ++ ap a k (hs.drop t) = bb) ∧ Hid (m < k → O = bb))
    case atStart => exact ⟨0, 0, 0, [], by omega, Nat.zero_le _, rfl, rfl, HB1.out, World.ownsRow_nil _ _ _ _, HG0.out, Int.le_refl _, fun _ => HA0.out, fun h => absurd h (by omega)⟩
    case round =>
      obtain ⟨k, t, l, O, hk, htn, rfl, rfl, hbr, HO, HG, hkl, HA, HE⟩ := hrel
      have hsr := hbr.size
      by_cases hkm : k ≤ m
      · have hkI : (k : Int) ≤ (m : Int) := by omega
        have hk0 : (0 : Int) ≤ (k : Int) := by omega
        have hA := HA.out hkm
        have hol : O.length ≤ 2097152 := by
          have := congrArg List.length hA
          rw [List.length_append] at this
          omega
        by_cases hat : t < n ∧ ∃ h : t < hs.length, hs[t].pos = (k : Int)
        · obtain ⟨hlt, hlt', hpos⟩ := hat
          obtain ⟨b, off, p1, c1, p2, c2, rfl, t1, t2, hc⟩ := HR.out.at t hlt'
          obtain ⟨bo, bn, -, -⟩ := HHB.out.at t hlt'
          have hg := HG.out
          have hf1 := HF.out hs[t] (List.getElem_mem hlt')
          rw [List.drop_eq_getElem_cons hlt'] at hA hg
          obtain ⟨hst, hg2⟩ := hg
          rw [hpos] at hc
          generalize hs[t] = h at *
          obtain ⟨ps, old, nw⟩ := h
          dsimp only at hpos
          subst hpos
          obtain ⟨f1, f2⟩ := fit1_zero hf1
          dsimp only at *
          obtain ⟨lo, hlo'⟩ : ∃ lo, old.length = lo := ⟨_, rfl⟩
          obtain ⟨ln, hln'⟩ : ∃ ln, nw.length = ln := ⟨_, rfl⟩
          have hAe0 : (O ++ nw) ++ ap a (k + lo) (hs.drop (t + 1)) = bb := by
            simp only [ap, Int.toNat_natCast, seg_self, List.nil_append, hlo'] at hA
            rw [List.append_assoc]; exact hA
          have hnl : ln ≤ 2097152 := by
            have := congrArg List.length hAe0
            simp only [List.length_append] at this
            omega
          have hlst0 : lst ⟨(k : Int), old, nw⟩ = (k : Int) + (lo : Int) + 1 := by unfold lst; rw [← hlo']
          rw [hlo'] at f1 bo hc
          rw [hln'] at bn hc
          rw [HM.out] at f1
          have hAe := Lib.hid hAe0
          have hlst := Lib.hid hlst0
          have HG2 := Lib.hid hg2
          have HLN := Lib.hid hln'
          have HC := Lib.hid hc
          have HT2 := Lib.hid t2.1
          obtain ⟨z0, z1, z2⟩ := hc wr hbr
          have htI : (t : Int) < (n : Int) := by omega
          have ht0 : (0 : Int) ≤ (t : Int) := by omega
          obtain ⟨gO, hgO⟩ : ∃ x, x = gk := ⟨_, rfl⟩
          clear hA HA HE HG hst hg2 hc hlo' hln' hAe0 hlst0 t1 t2 hf1 f2
          go_wp2_with fail
          go_loopg [8, 11] ln (fun g v xv wi => ∃ x : Nat, x + g = ln ∧ xv = .int .i64 x ∧ Below w.heap.size w wi ∧ Hid (wi.ownsRow w.heap.size 9 1 v (O ++ nw.take x).length ((O ++ nw.take x).map Value.string)))
          case atStart => exact ⟨0, by omega, rfl, hbr, by rw [List.take_zero, List.append_nil]; exact HO.out⟩
          case round =>
            obtain ⟨x, hx, rfl, hbi, HOi⟩ := hrel
            have hsi := hbi.size
            obtain ⟨z0, z1, z2⟩ := HC.out _ hbi
            by_cases hxl : x < ln
            · have hxn : x < nw.length := by rw [HLN.out]; exact hxl
              obtain ⟨b5, o5, rfl, e5⟩ := HT2.out.at x hxn
              have g5 := e5 _ hbi
              have hxI : (x : Int) < (ln : Int) := by omega
              have hx0 : (0 : Int) ≤ (x : Int) := by omega
              have htk : Hid ((O ++ nw.take x) ++ [nw[x]] = O ++ nw.take (x + 1)) := by show _ = _; rw [List.append_assoc, ← List.take_succ_eq_append_getElem hxn]
              obtain ⟨OX, hOX⟩ : ∃ OX, O ++ nw.take x = OX := ⟨_, rfl⟩
              have hoxl : OX.length ≤ 4194304 := by rw [← hOX, List.length_append, List.length_take]; omega
              rw [hOX] at HOi htk
              generalize nw[x] = tx at *
              have HBI := Lib.hid hbi
              clear e5 hbi hOX
              go_wp2_with (at_builtin; refine app_tx rfl _ _ 33 rfl w.heap.size 9 i0 (.string ⟨#[]⟩) Try.underlying33 hi hz0 hz1 hz2 rfl _ OX.length OX rfl (HOi.out.alloc _) (some ⟨_, 0, none⟩) 1 1 [tx] rfl rfl (lit1 _ _ _) (fun e => by cases e) (by omega) (by simp; omega) ?_)
              intro v7 w7 ho7 hgr7 _
              have hb7 : Below w.heap.size w w7 := (HBI.out.alloc HBI.out.size _).grown hgr7 (by have := HBI.out.size; simp; omega) (fun g hg => (HOi.out.lt g hg).1)
              have HO7 : Hid (w7.ownsRow w.heap.size 9 1 v7 (OX ++ [tx]).length ((OX ++ [tx]).map Value.string)) := by
                show World.ownsRow _ _ _ _ _ _ _
                rw [List.length_append, List.map_append]; exact ho7
              have HB7 := Lib.hid hb7
              rw [htk.out] at HO7
              clear ho7 hgr7 hb7 g5
              go_wp2_with fail
              go_roundg (gk - 1)
              case rel => exact ⟨x + 1, by omega, by go_num, HB7.out, HO7.out⟩
              case measure => omega
            · obtain rfl : ln = x := by omega
              have hall : nw.take ln = nw := List.take_of_length_le (by rw [HLN.out]; omega)
              have ho7 := HOi.out
              rw [hall] at ho7
              have HO7 := Lib.hid ho7
              have HB7 := Lib.hid hbi
              clear HOi hall ho7 hbi HO
              by_cases hl0 : lo = 0
              · subst hl0
                have hA2 := Lib.hid (hAe.out.trans (by rfl : _ = _))
                by_cases hkm1 : k < m
                · have hka : k < a.length := by rw [HM.out]; exact hkm1
                  obtain ⟨b6, o6, rfl, e6⟩ := HQ.out.at k hka
                  have g6 := e6 _ HB7.out
                  have hkI2 : (k : Int) < (m : Int) := by omega
                  have hone := Lib.hid (ap_one (k := k) (rest := hs.drop (t + 1)) hka (first_gt HG2.out (by rw [hlst.out]; omega)))
                  have hnxt : Hid ((O ++ nw) ++ [a[k]] ++ ap a (k + 1) (hs.drop (t + 1)) = bb) := by
                    show _ = _
                    rw [List.append_assoc, List.singleton_append, ← hone.out]
                    exact hAe.out
                  generalize a[k] = ty at *
                  obtain ⟨OY, hOY⟩ : ∃ OY, O ++ nw = OY := ⟨_, rfl⟩
                  have hoyl : OY.length ≤ 4194304 := by rw [← hOY, List.length_append, HLN.out]; omega
                  rw [hOY] at HO7 hnxt
                  clear e6 hone hOY
                  go_wp2_with (at_builtin; refine app_tx rfl _ _ 33 rfl w.heap.size 9 i0 (.string ⟨#[]⟩) Try.underlying33 hi hz0 hz1 hz2 rfl _ OY.length OY rfl (HO7.out.alloc _) (some ⟨_, 0, none⟩) 1 1 [ty] rfl rfl (lit1 _ _ _) (fun e => by cases e) (by omega) (by simp; omega) ?_)
                  intro v8 w8 ho8 hgr8 _
                  have hb8 : Below w.heap.size w w8 := (HB7.out.alloc HB7.out.size _).grown hgr8 (by have := HB7.out.size; simp; omega) (fun g hg => (HO7.out.lt g hg).1)
                  have HO8 : Hid (w8.ownsRow w.heap.size 9 1 v8 (OY ++ [ty]).length ((OY ++ [ty]).map Value.string)) := by
                    show World.ownsRow _ _ _ _ _ _ _
                    rw [List.length_append, List.map_append]; exact ho8
                  have HB8 := Lib.hid hb8
                  clear ho8 hgr8 hb8 g6
                  go_wp2_with fail
                  go_roundg (gO - 1)
                  case rel => exact ⟨k + 1, t + 1, lst ⟨(k : Int), old, nw⟩, OY ++ [ty], by omega, by omega, by go_num, by go_num, HB8.out, HO8.out, HG2.out, by rw [hlst.out]; omega, fun _ => hnxt.out, fun h => absurd h (by omega)⟩
                  case measure => omega
                · obtain rfl : k = m := by omega
                  have hnil := nil_of HG2.out (by rw [hlst.out]; omega) (fun h hh => HF.out h (List.mem_of_mem_drop hh)) HM.out
                  have hfin : Hid (O ++ nw = bb) := by
                    have := hAe.out
                    rw [hnil] at this
                    rw [show ap a (k + 0) [] = [] from List.drop_eq_nil_of_le (by have := HM.out; omega), List.append_nil] at this
                    exact this
                  have hkI2 : ¬ (k : Int) < (k : Int) := by omega
                  clear hnil
                  go_wp2_with fail
                  go_roundg (gO - 1)
                  case rel => exact ⟨k + 1, t + 1, lst ⟨(k : Int), old, nw⟩, O ++ nw, by omega, by omega, by go_num, by go_num, HB7.out, HO7.out, HG2.out, by rw [hlst.out]; omega, fun h => absurd h (by omega), fun _ => hfin.out⟩
                  case measure => omega
              · have hl1 : (0 : Int) < (lo : Int) := by omega
                have hl2 : 0 < lo := by omega
                clear hl0
                go_wp2_with fail
                go_roundg (gO - lo)
                case rel => exact ⟨k + lo, t + 1, lst ⟨(k : Int), old, nw⟩, O ++ nw, by omega, by omega, by go_num, by go_num, HB7.out, HO7.out, HG2.out, by rw [hlst.out]; omega, fun _ => hAe.out, fun h => absurd h (by omega)⟩
                case measure => omega
        · have hbig : ∀ x xs, hs.drop t = x :: xs → (k : Int) < x.pos := fun x xs e => by
            have hg := HG.out
            rw [e] at hg
            have h1 := ((stp_iff l x).1 hg.1).1
            have hlt' : t < hs.length := by
              have := congrArg List.length e
              rw [List.length_drop, List.length_cons] at this
              omega
            have h2 : hs[t] = x := by
              rw [List.drop_eq_getElem_cons hlt'] at e
              injection e
            have h3 : x.pos ≠ (k : Int) := fun e' => hat ⟨by rw [← HN.out]; exact hlt', hlt', by rw [h2]; exact e'⟩
            omega
          have hg' : ∃ l', Good l' (hs.drop t) ∧ ((k + 1 : Nat) : Int) ≤ l' := by
            cases hd : hs.drop t with
            | nil => exact ⟨(k + 1 : Nat), trivial, Int.le_refl _⟩
            | cons x xs =>
              have hg := HG.out
              rw [hd] at hg
              exact ⟨x.pos, hg.up (Int.le_refl _), by have := hbig x xs hd; omega⟩
          obtain ⟨l', hg2, hl2⟩ := hg'
          have HG2 := Lib.hid hg2
          have hno : (t < n ∧ ∃ b off p1 c1 p2 c2 ps lo ln, p = some ⟨b, off, none⟩ ∧ ps ≠ (k : Int) ∧ (wr.cell? ⟨b, off + t * 3, none⟩ = some (.int .i64 ps) ∧ wr.cell? ⟨b, off + t * 3 + 1, none⟩ = some (.slice p1 lo c1) ∧ wr.cell? ⟨b, off + t * 3 + 2, none⟩ = some (.slice p2 ln c2))) ∨ ¬ t < n := by
            by_cases h : t < n
            · have hlt' : t < hs.length := by rw [HN.out]; exact h
              obtain ⟨b, off, p1, c1, p2, c2, e, t1, t2, hc⟩ := HR.out.at t hlt'
              exact .inl ⟨h, b, off, p1, c1, p2, c2, hs[t].pos, _, _, e, fun e' => hat ⟨h, hlt', e'⟩, hc wr hbr⟩
            · exact .inr h
          have HBR := Lib.hid hbr
          by_cases hkm1 : k < m
          · have hka : k < a.length := by rw [HM.out]; exact hkm1
            obtain ⟨b6, o6, rfl, e6⟩ := HQ.out.at k hka
            have g6 := e6 _ hbr
            have hkI2 : (k : Int) < (m : Int) := by omega
            have hnxt : Hid (O ++ [a[k]] ++ ap a (k + 1) (hs.drop t) = bb) := by
              show _ = _
              rw [List.append_assoc, List.singleton_append, ← ap_one hka hbig]
              exact hA
            generalize a[k] = ty at *
            clear e6 hA HA HE HG hg2 hbig hbr hat
            rcases hno with ⟨htI0, b, off, p1, c1, p2, c2, ps, lo, ln, rfl, hne, z0, z1, z2⟩ | htI0
            · have htI : (t : Int) < (n : Int) := by omega
              have ht0 : (0 : Int) ≤ (t : Int) := by omega
              have hpb : (ps == (k : Int)) = false := beq_false_of_ne hne
              go_wp2_with (at_builtin; refine app_tx rfl _ _ 33 rfl w.heap.size 9 i0 (.string ⟨#[]⟩) Try.underlying33 hi hz0 hz1 hz2 rfl _ O.length O rfl (HO.out.alloc _) (some ⟨_, 0, none⟩) 1 1 [ty] rfl rfl (lit1 _ _ _) (fun e => by cases e) (by omega) (by simp; omega) ?_)
              intro v8 w8 ho8 hgr8 _
              have hb8 : Below w.heap.size w w8 := (HBR.out.alloc HBR.out.size _).grown hgr8 (by have := HBR.out.size; simp; omega) (fun g hg => (HO.out.lt g hg).1)
              have HO8 : Hid (w8.ownsRow w.heap.size 9 1 v8 (O ++ [ty]).length ((O ++ [ty]).map Value.string)) := by
                show World.ownsRow _ _ _ _ _ _ _
                rw [List.length_append, List.map_append]; exact ho8
              have HB8 := Lib.hid hb8
              clear ho8 hgr8 hb8 g6
              go_wp2_with fail
              go_roundg (gk - 1)
              case rel => exact ⟨k + 1, t, l', O ++ [ty], by omega, htn, by go_num, rfl, HB8.out, HO8.out, HG2.out, by omega, fun _ => hnxt.out, fun h => absurd h (by omega)⟩
              case measure => omega
            · have htI : ¬ (t : Int) < (n : Int) := by omega
              go_wp2_with (at_builtin; refine app_tx rfl _ _ 33 rfl w.heap.size 9 i0 (.string ⟨#[]⟩) Try.underlying33 hi hz0 hz1 hz2 rfl _ O.length O rfl (HO.out.alloc _) (some ⟨_, 0, none⟩) 1 1 [ty] rfl rfl (lit1 _ _ _) (fun e => by cases e) (by omega) (by simp; omega) ?_)
              intro v8 w8 ho8 hgr8 _
              have hb8 : Below w.heap.size w w8 := (HBR.out.alloc HBR.out.size _).grown hgr8 (by have := HBR.out.size; simp; omega) (fun g hg => (HO.out.lt g hg).1)
              have HO8 : Hid (w8.ownsRow w.heap.size 9 1 v8 (O ++ [ty]).length ((O ++ [ty]).map Value.string)) := by
                show World.ownsRow _ _ _ _ _ _ _
                rw [List.length_append, List.map_append]; exact ho8
              have HB8 := Lib.hid hb8
              clear ho8 hgr8 hb8 g6
              go_wp2_with fail
              go_roundg (gk - 1)
              case rel => exact ⟨k + 1, t, l', O ++ [ty], by omega, htn, by go_num, rfl, HB8.out, HO8.out, HG2.out, by omega, fun _ => hnxt.out, fun h => absurd h (by omega)⟩
              case measure => omega
          · obtain rfl : k = m := by omega
            have hnil := nil_of HG2.out (by omega) (fun h hh => HF.out h (List.mem_of_mem_drop hh)) HM.out
            have hfin : Hid (O = bb) := by
              have := hA
              rw [hnil] at this
              rw [show ap a k [] = [] from List.drop_eq_nil_of_le (by have := HM.out; omega), List.append_nil] at this
              exact this
            have hkI2 : ¬ (k : Int) < (k : Int) := by omega
            clear hnil hA HA HE HG hg2 hbig hbr hat
            rcases hno with ⟨htI0, b, off, p1, c1, p2, c2, ps, lo, ln, rfl, hne, z0, z1, z2⟩ | htI0
            · have htI : (t : Int) < (n : Int) := by omega
              have ht0 : (0 : Int) ≤ (t : Int) := by omega
              have hpb : (ps == (k : Int)) = false := beq_false_of_ne hne
              go_wp2_with fail
              go_roundg (gk - 1)
              case rel => exact ⟨k + 1, t, l', O, by omega, htn, by go_num, rfl, HBR.out, HO.out, HG2.out, by omega, fun h => absurd h (by omega), fun _ => hfin.out⟩
              case measure => omega
            · have htI : ¬ (t : Int) < (n : Int) := by omega
              go_wp2_with fail
              go_roundg (gk - 1)
              case rel => exact ⟨k + 1, t, l', O, by omega, htn, by go_num, rfl, HBR.out, HO.out, HG2.out, by omega, fun h => absurd h (by omega), fun _ => hfin.out⟩
              case measure => omega
      · have hkI : ¬ (k : Int) ≤ (m : Int) := by omega
        have hobb : O = bb := HE.out (by omega)
        subst hobb
        obtain ⟨qv, cv, rfl⟩ := row_form HO.out
        have hgv : GivesA w (0, O) (.returned (.tuple #[.slice qv O.length cv, .int .i64 0])) wr := ⟨hbr, _, rfl, HO.out⟩
        have HGV := Lib.hid hgv
        clear HO HG HA HE hbr hgv HA0
        generalize O.length = ol at *
        go_wp2_with fail
        go_ret2
        exact HGV.out
  · rw [if_neg hbad]
    generalize (fitX a hs).1 = fi at *
    generalize (fitX a hs).2 = fe at *
    have hne : (fe != 0) = true := by rw [bne, beq_false_of_ne hbad]; rfl
    go_enter Try.func40, Try.ntmps40
    go_wp2_with fail
    refine cF.mono ?_
    rintro e w1 ⟨rfl, hb1⟩
    have hgv : GivesA w (fe, []) (.returned (.tuple #[.slice none 0 0, .int .i64 fe])) w1 := GivesA.none hb1
    have HGV := Lib.hid hgv
    clear cF hb1 hgv
    go_wp2_with fail
    go_ret2
    exact HGV.out
end Go.Proofs.Ytjmnbnlhahbcjaa
