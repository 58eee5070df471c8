/- scrimref04.Twice, by its contract: a map of maps. -/
import Derived.Test.YtbcfmckhgjcakaaIdNext
namespace Go.Proofs.Ytbcfmckhgjcakaa
open Go Go.RowKit Go.Maps

/-- How a map as a map's element reads: its block. -/
def mapElem : Value → Option (DataW Unit × List MemPlace)
  | .map (some b) => some (.lit (.int .i64 (b : Int)), [])
  | .map none => some (.nil, [])
  | _ => none
theorem mapElem_none {v : Value} {ps : List MemPlace} (h : mapElem v = some (.nil, ps)) : v = .map none := by
  unfold mapElem at h
  split at h <;> simp_all
theorem mapElem_some {v : Value} {ps : List MemPlace} {b : Nat} (h : mapElem v = some (.lit (.int .i64 (b : Int)), ps)) : v = .map (some b) := by
  unfold mapElem at h
  split at h
  · simp at h
    obtain ⟨e, _⟩ := h
    simp; omega
  · simp at h
  · simp at h
theorem intLaw : Keyed Try.prog 3 := int_keyed Try.underlying3
theorem int_key {n : Int} (h : (Lit.int .i64 n).wf = true) : keyOf Try.prog 3 (.int .i64 n) = some (.int .i64 n) := keyOf_int_mk Try.underlying3 h
theorem int_lit (n : Int) : WideAt.IsKeyLit (.int .i64 n) := by simp [WideAt.IsKeyLit]
/-- The block that a label's map has. -/
def blockV (o : Option Nat) : DataW Unit := match o with
  | none => .nil
  | some b => .lit (.int .i64 (b : Int))
/-- Labels, and of each the N's that stand so far. -/
structure Nest (w : World) (B k : Nat) (l : List (Nat × Int)) (bo : Nat → Option Nat) (D : DataW Unit) : Prop where
  dom : ∀ u, bo u = none ↔ ∀ n, (u, n) ∉ l
  inj : ∀ u u' b, bo u = some b → bo u' = some b → u = u'
  own : w.ownsMap Try.prog 25 mapElem B k D
  at' : ∀ u : Nat, u < 18446744073709551616 → D.atKey (.int .u64 (u : Int)) .nil = blockV (bo u)
  inn : ∀ u b, bo u = some b → B < b ∧ ∃ (m : Nat) (Db : DataW Unit), m ≤ k ∧ w.ownsMap Try.prog 3 (plainElem Try.prog 3) b m Db ∧
    ∀ n, (Lit.int .i64 n).wf = true → Db.atKey (.int .i64 n) (.lit (.int .i64 0)) = .lit (.int .i64 (if (u, n) ∈ l then 1 else 0))
theorem nest_nil (w : World) : Nest (w.alloc (.map #[] 0)) w.heap.size 0 [] (fun _ => none) (.map []) :=
  ⟨fun u => by simp, fun u u' b h => (by cases h), World.ownsMap_made _ _ _ _, fun u _ => rfl, fun u b h => (by cases h)⟩
def updO (bo : Nat → Option Nat) (u : Nat) (o : Option Nat) : Nat → Option Nat := fun v => if v = u then o else bo v
theorem updO_same (bo : Nat → Option Nat) (u : Nat) (o : Option Nat) : updO bo u o u = o := by simp [updO]
theorem updO_other (bo : Nat → Option Nat) {u v : Nat} (o : Option Nat) (h : v ≠ u) : updO bo u o v = bo v := by simp [updO, h]
/-- A label's first N. -/
theorem nest_new {w w2 w3 : World} {B k u : Nat} {l : List (Nat × Int)} {bo : Nat → Option Nat} {D : DataW Unit} {n : Int} (h : Nest w B k l bo D) (hb : bo u = none)
    (g2 : (w.alloc (.map #[] 0)).grownBy w2 (some B)) (o2 : w2.ownsMap Try.prog 25 mapElem B (k + 1) (D.put (.int .u64 (u : Int)) (.lit (.int .i64 (w.heap.size : Int)))))
    (g3 : w2.grownBy w3 (some w.heap.size)) (o3 : w3.ownsMap Try.prog 3 (plainElem Try.prog 3) w.heap.size 1 ((.map [] : DataW Unit).put (.int .i64 n) (.lit (.int .i64 1)))) :
    Nest w3 B (k + 1) (l ++ [(u, n)]) (updO bo u (some w.heap.size)) (D.put (.int .u64 (u : Int)) (.lit (.int .i64 (w.heap.size : Int)))) := by
  have hB := h.own.lt
  have hno := (h.dom u).1 hb
  refine ⟨fun v => ?_, fun v v' b h1 h2 => ?_, o2.kept g3 (by simp; omega), fun v hv => ?_, fun v b h1 => ?_⟩
  · by_cases e : v = u
    · subst e
      rw [updO_same]
      simp only [reduceCtorEq, false_iff]
      intro h'
      exact h' n (by simp)
    · rw [updO_other _ _ e, h.dom v]
      constructor
      · intro h' n' hm
        rw [List.mem_append, List.mem_singleton] at hm
        rcases hm with hm | hm
        · exact h' n' hm
        · exact e (Prod.mk.inj hm).1
      · intro h' n' hm
        exact h' n' (List.mem_append_left _ hm)
  · by_cases e : v = u
    · by_cases e' : v' = u
      · rw [e, e']
      · rw [e, updO_same] at h1
        rw [updO_other _ _ e'] at h2
        obtain ⟨_, m, Db, _, ho, _⟩ := h.inn v' b h2
        have := ho.lt
        have := Option.some.inj h1
        omega
    · by_cases e' : v' = u
      · rw [e', updO_same] at h2
        rw [updO_other _ _ e] at h1
        obtain ⟨_, m, Db, _, ho, _⟩ := h.inn v b h1
        have := ho.lt
        have := Option.some.inj h2
        omega
      · rw [updO_other _ _ e] at h1
        rw [updO_other _ _ e'] at h2
        exact h.inj v v' b h1 h2
  · by_cases e : v = u
    · subst e
      rw [atKey_put_same h.own.isMap (lab_lit v), updO_same]; rfl
    · rw [atKey_put_other (by simp; omega), updO_other _ _ e]; exact h.at' v hv
  · by_cases e : v = u
    · subst e
      rw [updO_same] at h1
      have e1 := Option.some.inj h1
      subst e1
      refine ⟨hB, 1, _, by omega, o3, fun n' hn' => ?_⟩
      by_cases e2 : n' = n
      · subst e2
        rw [atKey_put_same ⟨[], rfl⟩ (int_lit n'), if_pos (by simp)]
      · rw [atKey_put_other (by simpa using e2), if_neg (by
          rw [List.mem_append, List.mem_singleton]
          rintro (hm | hm)
          · exact hno n' hm
          · exact e2 (Prod.mk.inj hm).2)]
        rfl
    · rw [updO_other _ _ e] at h1
      obtain ⟨h2, m, Db, hm, ho, hat⟩ := h.inn v b h1
      have hlt := ho.lt
      refine ⟨h2, m, Db, by omega, ((ho.alloc _).kept g2 (by simp; omega)).kept g3 (by simp; omega), fun n' hn' => ?_⟩
      rw [hat n' hn']
      congr 3
      simp only [List.mem_append, List.mem_singleton, Prod.mk.injEq, e, false_and, or_false]
/-- One N more of a label. -/
theorem nest_more {w w3 : World} {B k u b : Nat} {l : List (Nat × Int)} {bo : Nat → Option Nat} {D Db : DataW Unit} {n : Int} {m : Nat} (h : Nest w B k l bo D) (hb : bo u = some b) (hm : m ≤ k) (ho : w.ownsMap Try.prog 3 (plainElem Try.prog 3) b m Db)
    (hat : ∀ n, (Lit.int .i64 n).wf = true → Db.atKey (.int .i64 n) (.lit (.int .i64 0)) = .lit (.int .i64 (if (u, n) ∈ l then 1 else 0)))
    (g3 : w.grownBy w3 (some b)) (o3 : w3.ownsMap Try.prog 3 (plainElem Try.prog 3) b (m + 1) (Db.put (.int .i64 n) (.lit (.int .i64 1)))) :
    Nest w3 B (k + 1) (l ++ [(u, n)]) bo D := by
  have hBb := (h.inn u b hb).1
  refine ⟨fun v => ?_, h.inj, (h.own.kept g3 (by simp; omega)).mono (Nat.le_succ _), h.at', fun v b' h1 => ?_⟩
  · rw [h.dom v]
    constructor
    · intro h' n' hm
      rw [List.mem_append, List.mem_singleton] at hm
      rcases hm with hm | hm
      · exact h' n' hm
      · have e := (Prod.mk.inj hm).1
        rw [e, ← h.dom u, hb] at h'
        cases h'
    · intro h' n' hm
      exact h' n' (List.mem_append_left _ hm)
  · by_cases e : v = u
    · subst e
      rw [hb] at h1
      have e1 := Option.some.inj h1
      subst e1
      refine ⟨hBb, m + 1, _, by omega, o3, fun n' hn' => ?_⟩
      by_cases e2 : n' = n
      · subst e2
        rw [atKey_put_same ho.isMap (int_lit n'), if_pos (by simp)]
      · rw [atKey_put_other (by simpa using e2), hat n' hn']
        congr 3
        simp [e2]
    · have hne : b' ≠ b := fun e' => by
        subst e'
        exact e (h.inj v u b' h1 hb)
      obtain ⟨h2, m', Db', hm', ho', hat'⟩ := h.inn v b' h1
      refine ⟨h2, m', Db', by omega, ho'.kept g3 (by simp; exact hne), fun n' hn' => ?_⟩
      rw [hat' n' hn']
      congr 3
      simp only [List.mem_append, List.mem_singleton, Prod.mk.injEq, e, false_and, or_false]

theorem eqlMapI (b : Nat) (w : World) : (binOp .eql 66 (.map (some b)) (.map none)).run Try.prog w = .ok (.bool false) w := by kernel_rfl
theorem eqlMapN (w : World) : (binOp .eql 66 (.map none) (.map none)).run Try.prog w = .ok (.bool true) w := by kernel_rfl
theorem zeroMapI (w : World) : (zeroValue 66).run Try.prog w = .ok (.map none) w := by kernel_rfl

set_option maxRecDepth 100000 in
set_option maxHeartbeats 4000000 in
theorem refTwice_any (w : World) (p : Option Addr) (n c : Nat) (xs : List Li) (hn : xs.length = n) (hnm : n < maxLen) (hr : LiRow w p xs) (hf : ∀ x ∈ xs, LiOk x) :
    Calls Try.prog 18 #[.slice p n c] w fun e w' => e = .returned (twV xs) ∧ Below w.heap.size w w' := by
  have hmm := @run_makeMap Try.prog
  have HN := Lib.hid hn
  have hnm' : n ≤ 9223372036854775807 := by unfold maxLen at hnm; omega
  have HFIN := Lib.hid (fun (k : Nat) (hk : k < xs.length) (h : ∀ j, j < k → hitAt xs j = false) (hh : hitAt xs k = true) => (show twV xs = .tuple #[.int .i64 (k : Nat), .bool true] by unfold twV; rw [tw_hit hk h hh]))
  have HNO := Lib.hid (fun (h : ∀ j, j < xs.length → hitAt xs j = false) => (show twV xs = .tuple #[.int .i64 0, .bool false] by unfold twV; rw [tw_none h]))
  clear hn
  go_enter Try.func18, Try.ntmps18
  go_wp2
  go_loopg [5] n (fun g vi wr => ∃ k : Nat, k + g = n ∧ vi = .int .i64 k ∧ Hid (∀ j, j < k → hitAt xs j = false) ∧ Below w.heap.size w wr ∧ Hid (∃ bo D, Nest wr w.heap.size k (idsOf (xs.take k)) bo D))
  case atStart => exact ⟨0, by omega, rfl, fun j h => absurd h (Nat.not_lt_zero _), (Below.refl _ _).alloc (Nat.le_refl _) _, ⟨_, _, by rw [List.take_zero]; exact nest_nil w⟩⟩
  case round =>
    obtain ⟨k, hk, rfl, hno, hbr, HM⟩ := hrel
    by_cases hlt : k < n
    · have hlt' : k < xs.length := by rw [HN.out]; exact hlt
      obtain ⟨b1, o1, rfl, hb1, h1c⟩ := hr.at k hlt'
      obtain ⟨g0, g1, g2, g3⟩ := h1c wr hbr
      obtain ⟨bo, D, hN⟩ := HM.out
      have hx := hf xs[k] (List.getElem_mem hlt')
      have hkey := lab_key hx.u
      have hkeyn := int_key hx.n
      have hhit := Lib.hid (hit_iff hlt')
      have hids := Lib.hid (show idsOf (xs.take (k + 1)) = idsOf (xs.take k) ++ [(xs[k].u, xs[k].n)] from ids_snoc hlt')
      have hfin := Lib.hid (HFIN.out k hlt' hno.out)
      have hnx := Lib.hid (fun (e : hitAt xs k = false) j (hj : j < k + 1) => (show hitAt xs j = false from by
        by_cases e' : j = k
        · rw [e']; exact e
        · exact hno.out j (by omega)))
      have hid : xs[k].id = (xs[k].u, xs[k].n) := rfl
      rw [hid] at hhit
      have hrow := hr
      generalize xs[k] = x at *
      have hbz := hbr.size
      have HB := Lib.hid hbr
      have hk0 : (0 : Int) ≤ (k : Int) := by omega
      have hkI : (k : Int) < (n : Int) := by omega
      have hbl1 : b1 < wr.heap.size := by omega
      have HNest : Aside _ := hN
      have hBlt := hN.own.lt
      obtain ⟨v, ps, hrun, hv⟩ := hN.own.lookup labLaw Try.underlying65 (zeroMapI wr) (zd := .nil) (zp := []) rfl hkey
      rw [hN.at' x.u hx.u] at hv
      clear h1c HM hbr hno hid hf hr hN hrow
      cases hbo : bo x.u with
      | none =>
        rw [hbo] at hv
        have hv' := mapElem_none hv
        subst hv'
        have hne : hitAt xs k = false := by
          cases h : hitAt xs k with
          | false => rfl
          | true => exact absurd (hhit.out.1 h) ((HNest.out.dom x.u).1 hbo x.n)
        have hnx' : Hid (∀ j, j < k + 1 → hitAt xs j = false) := hnx.out hne
        have heq := eqlMapN
        have HBO := Lib.hid hbo
        clear hhit hfin hnx hne hv hbo
        have a0 := (World.cell?_alloc_some wr _ (.map #[] 0) (by rw [g0]; rfl)).trans g0
        have a1 := (World.cell?_alloc_some wr _ (.map #[] 0) (by rw [g1]; rfl)).trans g1
        have hinn := (World.ownsMap_made wr Try.prog 3 (plainElem (H := Unit) Try.prog 3))
        go_wp2_with (first
          | (at_mapUpdate; refine wpList_mapUpdate_own _ rfl _ _ _ 65 rfl 25 66 labLaw Try.underlying65 mapElem w.heap.size k D rfl (HNest.out.own.alloc _) (by omega) _ _ (.int .u64 (x.u : Int)) rfl rfl hkey (.lit (.int .i64 (wr.heap.size : Int))) [] rfl ?_; intro w2 o2 gr2
             have n1 : w2.cell? ⟨b1, o1 + k * 4 + 1, none⟩ = some (.int .i64 x.n) := gr2.cell a1 (by simp; omega)
             have hinn2 := hinn.kept gr2 (by simp; omega)
             have G2 := Lib.hid gr2
             have hs2 : wr.heap.size + 1 ≤ w2.heap.size := (by have := gr2.size; simpa using this)
             clear gr2 a0 a1 g0 g1 g2 g3)
          | (at_lookup; refine wpList_lookup_own_int _ rfl _ _ 66 rfl 3 3 .i64 intLaw Try.underlying66 Try.underlying3 (zeroInt _) wr.heap.size 0 (.map []) rfl hinn2 _ _ rfl hkeyn ?_; intro cv hat hwc; have e2 : cv = 0 := (by have h := hat.symm.trans (show (DataW.map [] : DataW Unit).atKey (.int .i64 x.n) (.lit (.int .i64 0)) = .lit (.int .i64 0) from rfl); simpa using h); subst e2; clear hat hwc)
          | (at_mapUpdate; refine wpList_mapUpdate_own _ rfl _ _ _ 66 rfl 3 3 intLaw Try.underlying66 _ wr.heap.size 0 (.map []) rfl hinn2 (by omega) _ _ (.int .i64 x.n) rfl rfl hkeyn _ [] (plainElem_int Try.underlying3 (WalkArith.wf_i64 (by decide))) ?_; intro w3 o3 gr3))
        have hM : Hid (∃ bo D, Nest w3 w.heap.size (k + 1) (idsOf (xs.take (k + 1))) bo D) := ⟨_, _, by rw [hids.out]; exact nest_new HNest.out HBO.out G2.out o2 gr3 o3⟩
        have hbe : Below w.heap.size w w3 := ((HB.out.alloc (by omega) _).grown G2.out (by simp; omega) (fun j hj => by cases hj; exact Nat.le_refl _)).grown gr3 (by omega) (fun j hj => by cases hj; exact hbz)
        clear o2 o3 gr3 hinn hinn2 n1
        go_wp2
        go_roundg (gk - 1)
        case rel => exact ⟨k + 1, by omega, by go_num, hnx'.out, hbe, hM⟩
        case measure => omega
      | some b =>
        rw [hbo] at hv
        have hv' := mapElem_some hv
        subst hv'
        have heq := eqlMapI b
        obtain ⟨hBb, m, Db, hm, ho, hat⟩ := HNest.out.inn x.u b hbo
        have HAT : Aside _ := hat
        have hatn := hat x.n hx.n
        have HBO := Lib.hid hbo
        clear hat hv hbo
        by_cases hin : (x.u, x.n) ∈ idsOf (xs.take k)
        · rw [if_pos hin] at hatn
          have hr1 := Lib.hid (hfin.out (hhit.out.2 hin))
          have HATN := Lib.hid hatn
          clear hhit hfin hnx hin hatn
          go_wp2_with (first
            | (at_lookup; refine wpList_lookup_own_int _ rfl _ _ 66 rfl 3 3 .i64 intLaw Try.underlying66 Try.underlying3 (zeroInt _) b m Db rfl ho _ _ rfl hkeyn ?_; intro cv hat hwc; have e2 : cv = 1 := (by have h := hat.symm.trans HATN.out; simpa using h); subst e2; clear hat hwc))
          go_ret2
          rw [hr1.out]
          exact ⟨rfl, HB.out⟩
        · rw [if_neg hin] at hatn
          have hne : hitAt xs k = false := by
            cases h : hitAt xs k with
            | false => rfl
            | true => exact absurd (hhit.out.1 h) hin
          have hnx' : Hid (∀ j, j < k + 1 → hitAt xs j = false) := hnx.out hne
          have HATN := Lib.hid hatn
          clear hhit hfin hnx hin hatn hne
          go_wp2_with (first
            | (at_lookup; refine wpList_lookup_own_int _ rfl _ _ 66 rfl 3 3 .i64 intLaw Try.underlying66 Try.underlying3 (zeroInt _) b m Db rfl ho _ _ rfl hkeyn ?_; intro cv hat hwc; have e2 : cv = 0 := (by have h := hat.symm.trans HATN.out; simpa using h); subst e2; clear hat hwc)
            | (at_mapUpdate; refine wpList_mapUpdate_own _ rfl _ _ _ 66 rfl 3 3 intLaw Try.underlying66 _ b m Db rfl ho (by omega) _ _ (.int .i64 x.n) rfl rfl hkeyn _ [] (plainElem_int Try.underlying3 (WalkArith.wf_i64 (by decide))) ?_; intro w3 o3 gr3))
          have hM : Hid (∃ bo D, Nest w3 w.heap.size (k + 1) (idsOf (xs.take (k + 1))) bo D) := ⟨_, _, by rw [hids.out]; exact nest_more HNest.out HBO.out hm ho HAT.out gr3 o3⟩
          have hbe : Below w.heap.size w w3 := HB.out.grown gr3 hbz (fun j hj => by cases hj; omega)
          clear o3 gr3
          go_wp2
          go_roundg (gk - 1)
          case rel => exact ⟨k + 1, by omega, by go_num, hnx'.out, hbe, hM⟩
          case measure => omega
    · obtain rfl : n = k := by omega
      have hr1 := Lib.hid (HNO.out fun j hj => hno.out j (by rw [HN.out] at hj; exact hj))
      have HB := Lib.hid hbr
      clear hbr HM
      go_wp2_with fail
      go_ret2
      rw [hr1.out]
      exact ⟨rfl, HB.out⟩
end Go.Proofs.Ytbcfmckhgjcakaa
