/- The document's May: whether lines are a document: by its contract. -/
import Derived.Test.YtfkkodcppaakjaaDcNew
import Derived.Test.YtfkkodcppaakjaaRefCheck
namespace Go.Proofs.Ytfkkodcppaakjaa
open Go Go.RowKit Go.Maps

theorem lnLaw : Keyed Try.prog 26 := Keyed.of_law (deep_law_laid (P := Try.prog) (by kernel_rfl) (m := 2) (by omega) (of_decide_eq_true (by kernel_rfl)) (by kernel_rfl) (by kernel_rfl))
theorem lnCells : Try.prog.cellsOf 26 = 4 := by kernel_rfl
/-- The key that May makes of a line. -/
def lnLit (u : Nat) (n : Int) : Lit := .string (keyBytes [.int .u64 u, .int .i64 n, .int .i64 0, .string []])
theorem ln_key {u : Nat} {n : Int} (hu : u < 18446744073709551616) (hn : (Lit.int .i64 n).wf = true) : keyOf Try.prog 26 (.agg #[.int .u64 u, .int .i64 n, .int .i64 0, .string ⟨#[]⟩]) = some (lnLit u n) := by
  have hw := wf_lab hu
  obtain ⟨m, hm⟩ : ∃ m, Try.prog.types.size = m + 1 := ⟨Try.prog.types.size - 1, by have : Try.prog.types.size ≠ 0 := of_decide_eq_true (by kernel_rfl); omega⟩
  have hk : Try.prog.keyType 26 = true := by kernel_rfl
  have h0 : (Lit.int .i64 0).wf = true := by decide
  have hs : (⟨#[]⟩ : ByteArray).size ≤ maxLen := Nat.zero_le _
  have hl : Try.prog.keyLits (Try.prog.types.size + 1) 26 [.int .u64 u, .int .i64 n, .int .i64 0, .string ⟨#[]⟩] = some [.int .u64 u, .int .i64 n, .int .i64 0, .string []] := by
    rw [hm]
    have e1 : Try.prog.cellsOf 24 = 1 := by kernel_rfl
    have e2 : Try.prog.cellsOf 3 = 1 := by kernel_rfl
    have e3 : Try.prog.cellsOf 9 = 1 := by kernel_rfl
    simp [Program.keyLits, Try.underlying26, lnCells, Try.underlying24, Try.underlying3, Try.underlying9, e1, e2, e3, hw, hn, h0, hs]
  unfold keyOf
  rw [Try.underlying26]
  simp only [hk, Value.formed, Try.underlying26]
  rw [show (Value.agg #[Value.int .u64 (u : Int), Value.int .i64 n, Value.int .i64 0, Value.string ⟨#[]⟩]).cells.toList = [Value.int .u64 (u : Int), Value.int .i64 n, Value.int .i64 0, Value.string ⟨#[]⟩] from rfl, hl]
  simp [lnCells, lnLit]
theorem ln_inj {u u' : Nat} {n n' : Int} (hu : u < 18446744073709551616) (hn : (Lit.int .i64 n).wf = true) (hu' : u' < 18446744073709551616) (hn' : (Lit.int .i64 n').wf = true) (e : lnLit u n = lnLit u' n') : (u, n) = (u', n') := by
  have h1 := ln_key hu hn
  have h2 := ln_key hu' hn'
  rw [← e] at h2
  have := lnLaw.inj h1 h2
  simp at this
  obtain ⟨e1, e2⟩ := this
  rw [show u = u' by omega, e2]
theorem ln_lit_key (u : Nat) (n : Int) : WideAt.IsKeyLit (lnLit u n) := by simp [WideAt.IsKeyLit, lnLit]
/-- What May has seen. -/
structure SeenIs (D : DataW Unit) (l : List (Nat × Int)) : Prop where
  map : IsMap D
  at' : ∀ u n, u < 18446744073709551616 → (Lit.int .i64 n).wf = true → D.atKey (lnLit u n) (.lit (.int .i64 0)) = .lit (.int .i64 (if (u, n) ∈ l then 1 else 0))
theorem seen_nil : SeenIs (.map [] : DataW Unit) [] := ⟨⟨[], rfl⟩, fun u n _ _ => by simp; rfl⟩
theorem SeenIs.put {D : DataW Unit} {l : List (Nat × Int)} (h : SeenIs D l) (u : Nat) (n : Int) (hu : u < 18446744073709551616) (hn : (Lit.int .i64 n).wf = true) : SeenIs (D.put (lnLit u n) (.lit (.int .i64 1))) (l ++ [(u, n)]) := by
  refine ⟨h.map.put _ _, fun u' n' hu' hn' => ?_⟩
  by_cases e : (u', n') = (u, n)
  · obtain ⟨rfl, rfl⟩ := Prod.mk.inj e
    rw [atKey_put_same h.map (ln_lit_key u' n')]
    simp
  · rw [atKey_put_other (fun e' => e (ln_inj hu' hn' hu hn e')), h.at' u' n' hu' hn']
    have : (u', n') ∈ l ++ [(u, n)] ↔ (u', n') ∈ l := by
      rw [List.mem_append, List.mem_singleton]
      exact ⟨fun h => h.elim id (fun h => absurd h e), .inl⟩
    simp only [this]
/-- May goes over the lines: it stops at the first that is none, or that stands ahead. -/
theorem may_bad {xs : List Li} {k : Nat} (hk : k < xs.length) (h : okLine xs[k] = false ∨ xs[k].id ∈ idsOf (xs.take k)) : takesB [] xs = false := by
  unfold takesB
  rcases h with h | h
  · have : xs.any (notFit []) = true := List.any_eq_true.2 ⟨xs[k], List.getElem_mem hk, by unfold notFit; rw [h]; simp⟩
    rw [this]; simp
  · have : (twiceI xs).isNone = false := by
      cases ht : twiceI xs with
      | some i => rfl
      | none =>
        unfold twiceI at ht
        rw [List.find?_eq_none] at ht
        exact absurd ((hit_iff hk).2 h) (ht k (List.mem_range.2 hk))
    rw [this]; rfl
theorem may_good {xs : List Li} (h : ∀ k (hk : k < xs.length), okLine xs[k] = true ∧ xs[k].id ∉ idsOf (xs.take k)) : takesB [] xs = true := by
  unfold takesB
  have h1 : twiceI xs = none := tw_none fun j hj => by
    cases hh : hitAt xs j with
    | false => rfl
    | true => exact absurd ((hit_iff hj).1 hh) (h j hj).2
  have h2 : xs.any (notFit []) = false := by
    rw [List.any_eq_false]
    intro x hx
    obtain ⟨j, hj, rfl⟩ := List.getElem_of_mem hx
    unfold notFit
    rw [(h j hj).1]
    simp [idsOf]
  rw [h1, h2]; rfl
set_option maxRecDepth 100000 in
set_option maxHeartbeats 8000000 in
theorem may_any (w : World) (p : Option Addr) (n c : Nat) (xs : List Li) (hn : xs.length = n) (hnm : n < maxLen) (hr : LiRow w p xs) (hf : ∀ x ∈ xs, LiOk x) :
    Calls Try.prog 15 #[.slice p n c] w fun e w' => e = .returned (.bool (takesB [] xs)) ∧ Below w.heap.size w w' := by
  have HN := Lib.hid hn
  have HBAD := Lib.hid (fun k hk h => may_bad (xs := xs) (k := k) hk h)
  have HGOOD := Lib.hid (fun h => may_good (xs := xs) h)
  have hnm' : n ≤ 9223372036854775807 := by unfold maxLen at hnm; omega
  obtain ⟨R, hR⟩ : ∃ R, takesB [] xs = R := ⟨_, rfl⟩
  rw [hR] at HBAD HGOOD ⊢
  have hmk := @run_makeMap Try.prog
  clear hn hR
  go_enter Try.func15, Try.ntmps15
  go_wp2_with fail
  clear hmk
  go_loopg [4] n (fun g vi wr => ∃ k : Nat, k + g = n ∧ vi = .int .i64 k ∧ Hid (∀ j (hj : j < xs.length), j < k → okLine xs[j] = true ∧ xs[j].id ∉ idsOf (xs.take j)) ∧ Below w.heap.size w wr ∧ w.heap.size < wr.heap.size ∧ Hid (∃ D : DataW Unit, wr.ownsMap Try.prog 26 (plainElem Try.prog 3) w.heap.size k D ∧ SeenIs D (idsOf (xs.take k))))
  case atStart => exact ⟨0, by omega, rfl, fun j _ h => absurd h (Nat.not_lt_zero _), (Below.refl _ _).alloc (Nat.le_refl _) _, by simp, ⟨.map [], World.ownsMap_made _ _ _ _, by rw [List.take_zero]; exact seen_nil⟩⟩
  case round =>
    obtain ⟨k, hk, rfl, hno, hbr, hsz, HM⟩ := hrel
    have hk0 : (0 : Int) ≤ (k : Int) := by omega
    by_cases hlt : k < n
    · have hlt' : k < xs.length := by rw [HN.out]; exact hlt
      obtain ⟨b1, o1, rfl, hb1, h1c⟩ := hr.at k hlt'
      obtain ⟨g0, g1, g2, g3⟩ := h1c wr hbr
      obtain ⟨D, hown, hD⟩ := HM.out
      have hx := hf xs[k] (List.getElem_mem hlt')
      have hkey := ln_key hx.u hx.n
      have hat := hD.at' xs[k].u xs[k].n hx.u hx.n
      have hput := Lib.hid (show SeenIs (D.put (lnLit xs[k].u xs[k].n) (.lit (.int .i64 1))) (idsOf (xs.take (k + 1))) by rw [ids_snoc hlt']; exact hD.put _ _ hx.u hx.n)
      have hbad := Lib.hid (fun h => HBAD.out k hlt' h)
      have hnx := Lib.hid (fun (e1 : okLine xs[k] = true) (e2 : xs[k].id ∉ idsOf (xs.take k)) j (hj : j < xs.length) (hjk : j < k + 1) => (show okLine xs[j] = true ∧ xs[j].id ∉ idsOf (xs.take j) from by
        by_cases e' : j = k
        · subst e'; exact ⟨e1, e2⟩
        · exact hno.out j hj (by omega)))
      have hid : xs[k].id = (xs[k].u, xs[k].n) := rfl
      rw [hid] at hbad hnx
      generalize xs[k] = x at *
      have HOK : Hid (okLine x = (checkE x.n x.r x.s.data.toList == 0)) := rfl
      have cC := fun W => refCheck_any (x.u : Int) x.n x.r x.s W hx.s
      have hE := check_two x.n x.r x.s.data.toList
      generalize checkE x.n x.r x.s.data.toList = E at *
      obtain ⟨q, hq⟩ : ∃ q : Int, (if (x.u, x.n) ∈ idsOf (xs.take k) then (1 : Int) else 0) = q := ⟨_, rfl⟩
      rw [hq] at hat
      have HQ := Lib.hid hq
      have HAT := Lib.hid hat
      have HB := Lib.hid hbr
      have HOWN := Lib.hid hown
      have hkI : (k : Int) < (n : Int) := by omega
      have hb1' : b1 < wr.heap.size := Nat.lt_of_lt_of_le hb1 hbr.size
      clear h1c HM hD hbr hno hid hf hr hq hat hown hlt'
      go_wp2_with fail
      have hS : (fun W : World => W.cell? ⟨b1, o1 + k * 4, none⟩ = some (.int .u64 x.u) ∧ W.cell? ⟨b1, o1 + k * 4 + 1, none⟩ = some (.int .i64 x.n)) wr.drew := ⟨g0, g1⟩
      refine region_ord (fun W : World => W.cell? ⟨b1, o1 + k * 4, none⟩ = some (.int .u64 x.u) ∧ W.cell? ⟨b1, o1 + k * 4 + 1, none⟩ = some (.int .i64 x.n)) [(0, true), (1, true), (2, true), (3, true), (4, true), (5, true), (6, true), (7, true), (8, true), (9, true), (10, true), (11, false), (12, false)] (by kernel_rfl) (by kernel_rfl) (by kernel_rfl) (by kernel_rfl) hS ?_
      have HS := Lib.hid hS
      clear hS
      iterate 11 (refine ord_take (v := ?_) rfl (by rfl) ?_ ?_; rotate_left; (focus (intro w hSw; (try dsimp only at hSw); go_simp; (try with_reducible rfl); done)); (try simp (maxSteps := 10000000) only [Act.put, List.setIfInBounds_toArray, List.set_cons_zero, List.set_cons_succ]))
      refine ord_call rfl (by rfl) (fun K hK => ?_)
      unfold Oper.wp
      simp only [execOp]
      go_simp
      refine hK.out _ _ ?hS2 (fun _ => ?_)
      case hS2 => exact ⟨(World.cell?_alloc_some wr _ _ (by rw [g0]; rfl)).trans g0, (World.cell?_alloc_some wr _ _ (by rw [g1]; rfl)).trans g1⟩
      clear hK
      (try simp (maxSteps := 10000000) only [Act.put, List.setIfInBounds_toArray, List.set_cons_zero, List.set_cons_succ])
      refine ord_call rfl (by rfl) (fun K hK => ?_)
      unfold Oper.wp
      simp only [execOp, Act.eval]
      go_simp
      refine hK.out _ _ ?hS3 (fun _ => ?_)
      case hS3 => exact ⟨(World.cell?_alloc_some wr _ _ (by rw [g0]; rfl)).trans g0, (World.cell?_alloc_some wr _ _ (by rw [g1]; rfl)).trans g1⟩
      clear hK
      refine ord_end ?_
      obtain ⟨W3, hW3⟩ : ∃ W3, (wr.alloc (.cells #[.int .u64 x.u, .int .i64 x.n, .int .i64 0, .string ⟨#[]⟩] 26)).drew = W3 := ⟨_, rfl⟩
      have HB3 : Hid (Below wr.heap.size wr W3) := by rw [← hW3]; exact Below.drew ((Below.refl _ _).alloc (Nat.le_refl _) _)
      have hs3 : W3.heap.size = wr.heap.size + 1 := by rw [← hW3]; show (wr.alloc _).heap.size = _; simp
      have m0 : W3.cell? ⟨wr.heap.size, 0, none⟩ = some (.int .u64 x.u) := by rw [← hW3]; show (wr.alloc _).cell? _ = _; rw [World.cell?_alloc_mark]; rfl
      have m1 : W3.cell? ⟨wr.heap.size, 1, none⟩ = some (.int .i64 x.n) := by rw [← hW3]; show (wr.alloc _).cell? _ = _; rw [World.cell?_alloc_mark]; rfl
      have m2 : W3.cell? ⟨wr.heap.size, 2, none⟩ = some (.int .i64 0) := by rw [← hW3]; show (wr.alloc _).cell? _ = _; rw [World.cell?_alloc_mark]; rfl
      have m3 : W3.cell? ⟨wr.heap.size, 3, none⟩ = some (.string ⟨#[]⟩) := by rw [← hW3]; show (wr.alloc _).cell? _ = _; rw [World.cell?_alloc_mark]; rfl
      have l0 := (HB3.out.cell (p := ⟨b1, o1 + k * 4, none⟩) hb1').trans g0
      have l1 := (HB3.out.cell (p := ⟨b1, o1 + k * 4 + 1, none⟩) hb1').trans g1
      have l2 := (HB3.out.cell (p := ⟨b1, o1 + k * 4 + 2, none⟩) hb1').trans g2
      have l3 := (HB3.out.cell (p := ⟨b1, o1 + k * 4 + 3, none⟩) hb1').trans g3
      rw [hW3]
      have HOWN3 := Lib.hid (map_later HOWN.out HB3.out)
      have HBW3 := Lib.hid (HB.out.trans (HB3.out.mono HB.out.size))
      have hlt3 : wr.heap.size < W3.heap.size := by omega
      have hs3' : w.heap.size ≤ W3.heap.size := by omega
      clear hW3 g0 g1 g2 g3 HS hs3
      rcases hE with rfl | rfl
      · go_wp2_with fail
        refine (cC _).mono ?_
        rintro e W4 ⟨rfl, hb4⟩
        have n0 := (hb4.cell (p := ⟨wr.heap.size, 0, none⟩) hlt3).trans m0
        have n1 := (hb4.cell (p := ⟨wr.heap.size, 1, none⟩) hlt3).trans m1
        have n2 := (hb4.cell (p := ⟨wr.heap.size, 2, none⟩) hlt3).trans m2
        have n3 := (hb4.cell (p := ⟨wr.heap.size, 3, none⟩) hlt3).trans m3
        have hown4 := map_later HOWN3.out hb4
        have HBW4 := Lib.hid (HBW3.out.trans (hb4.mono hs3'))
        have hs4 := hb4.size
        clear cC hb4 m0 m1 m2 m3 l0 l1 l2 l3 HOWN3 HBW3
        by_cases hm : (x.u, x.n) ∈ idsOf (xs.take k)
        · have hq1 : q = 1 := by have := HQ.out; rw [if_pos hm] at this; exact this.symm
          subst hq1
          have hf1 : R = false := hbad.out (.inr hm)
          subst hf1
          clear hbad hnx hput HQ hm
          obtain ⟨cv, hrun, hat2, _⟩ := hown4.lookup_int lnLaw Try.underlying57 Try.underlying3 (dZeroInt _) hkey
          have e2 : cv = 1 := (by have := hat2.symm.trans HAT.out; simpa using this)
          subst e2
          clear hat2
          go_wp2
          go_ret
          exact ⟨rfl, HBW4.out⟩
        · have hq0 : q = 0 := by have := HQ.out; rw [if_neg hm] at this; exact this.symm
          subst hq0
          have HNX := Lib.hid (hnx.out (by rw [HOK.out]; rfl) hm)
          clear hbad hnx HQ hm
          obtain ⟨cv, hrun, hat2, _⟩ := hown4.lookup_int lnLaw Try.underlying57 Try.underlying3 (dZeroInt _) hkey
          have e2 : cv = 0 := (by have := hat2.symm.trans HAT.out; simpa using this)
          subst e2
          clear hat2
          go_wp2_with (first
            | (at_mapUpdate; refine wpList_mapUpdate_own _ rfl _ _ _ 57 rfl 26 3 lnLaw Try.underlying57 _ w.heap.size k D rfl hown4 (by omega) _ _ (lnLit x.u x.n) rfl rfl hkey _ [] (plainElem_int (a := 1) Try.underlying3 (by decide)) ?_; intro w5 hown5 hgr5))
          have hbe : Below w.heap.size w w5 := HBW4.out.grown hgr5 (by omega) (fun j hj => by cases hj; exact Nat.le_refl _)
          have hs5 := hgr5.size
          have HO5 : Hid (∃ D : DataW Unit, w5.ownsMap Try.prog 26 (plainElem Try.prog 3) w.heap.size (k + 1) D ∧ SeenIs D (idsOf (xs.take (k + 1)))) := ⟨_, hown5, hput.out⟩
          clear hown5 hgr5 hown4 hput
          go_wp2_with fail
          go_roundg (gk - 1)
          case rel => exact ⟨k + 1, by omega, by go_num, HNX.out, hbe, by omega, HO5⟩
          case measure => omega
      · have hf1 : R = false := hbad.out (.inl (by rw [HOK.out]; rfl))
        subst hf1
        clear hbad hnx hput
        go_wp2_with fail
        refine (cC _).mono ?_
        rintro e W4 ⟨rfl, hb4⟩
        have HBW4 := Lib.hid (HBW3.out.trans (hb4.mono hs3'))
        clear cC hb4
        go_wp2_with fail
        go_ret
        exact ⟨rfl, HBW4.out⟩
    · obtain rfl : k = n := by omega
      have hf1 : R = true := HGOOD.out fun j hj => hno.out j hj (by rw [HN.out] at hj; exact hj)
      subst hf1
      have HB := Lib.hid hbr
      clear hbr HM hno
      go_wp2_with fail
      go_ret
      exact ⟨rfl, HB.out⟩
end Go.Proofs.Ytfkkodcppaakjaa
