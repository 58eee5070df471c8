/- Texts of the proof, merged: IdNew. -/
import Derived.Test.YtbcfmckhgjcakaaDoorTx16
import Derived.Test.YtbcfmckhgjcakaaDoorTx17
/- ident.New, by its contract; counters in memory. -/
namespace Go.Proofs.YtbcfmckhgjcakaaDoor
open Go Go.RowKit Go.Maps

/-- One label's number is another one. -/
def upd (f : Nat → Int) (a : Nat) (v : Int) : Nat → Int := fun b => if b = a then v else f b
theorem upd_same (f : Nat → Int) (a : Nat) (v : Int) : upd f a v a = v := by simp [upd]
theorem upd_other (f : Nat → Int) {a b : Nat} (v : Int) (h : b ≠ a) : upd f a v b = f b := by simp [upd, h]
/-- The greatest N of the lines, label by label. -/
def lastF (xs : List Li) : Nat → Int := xs.foldl (fun f x => upd f x.u (max (f x.u) x.n)) fun _ => 0
theorem lastF_snoc (xs : List Li) (x : Li) : lastF (xs ++ [x]) = upd (lastF xs) x.u (max (lastF xs x.u) x.n) := by
  unfold lastF
  rw [List.foldl_append]; rfl
/-- May counters begin with these lines? -/
def okN (xs : List Li) : Prop := twiceI xs = none ∧ ∀ x ∈ xs, 1 ≤ x.n ∧ x.n ≤ 4611686018427387904
/-- What a map of counters holds. -/
structure CntIs (D : DataW Unit) (f : Nat → Int) : Prop where
  map : IsMap D
  at' : ∀ a : Nat, a < 18446744073709551616 → D.atKey (.int .u64 (a : Int)) (.lit (.int .i64 0)) = .lit (.int .i64 (f a))
theorem cnt_nil : CntIs (.map [] : DataW Unit) fun _ => 0 := ⟨⟨[], rfl⟩, fun _ _ => rfl⟩
theorem lab_lit (a : Nat) : WideAt.IsKeyLit (.int .u64 (a : Int)) := by simp [WideAt.IsKeyLit]
theorem CntIs.put {D : DataW Unit} {f : Nat → Int} (h : CntIs D f) (a : Nat) (v : Int) : CntIs (D.put (.int .u64 (a : Int)) (.lit (.int .i64 v))) (upd f a v) :=
  ⟨h.map.put _ _, fun b hb => by
    by_cases e : b = a
    · subst e
      rw [atKey_put_same h.map (lab_lit b), upd_same]
    · rw [atKey_put_other (by simp; omega), h.at' b hb, upd_other _ _ e]⟩
/-- Counters in memory: the struct at block p, its map at block b. -/
structure IdsAt (w : World) (p b m : Nat) (f : Nat → Int) : Prop where
  lt : p < w.heap.size
  cell : w.cell? ⟨p, 0, none⟩ = some (.map (some b))
  own : ∃ D : DataW Unit, w.ownsMap Tryd.prog 23 (plainElem Tryd.prog 3) b m D ∧ CntIs D f
  lo : ∀ a, 0 ≤ f a ∧ f a ≤ 4611686018427387904
theorem IdsAt.ltb {w : World} {p b m : Nat} {f : Nat → Int} (h : IdsAt w p b m f) : b < w.heap.size := by
  obtain ⟨D, ho, _⟩ := h.own
  exact ho.lt
theorem IdsAt.keep {w W : World} {p b m : Nat} {f : Nat → Int} (h : IdsAt w p b m f) (hs : w.heap.size ≤ W.heap.size) (hp : W.heap[p]? = w.heap[p]?) (hb : W.heap[b]? = w.heap[b]?) : IdsAt W p b m f := by
  obtain ⟨D, ⟨es, clock, hb', F, hs', hD⟩, hc⟩ := h.own
  exact ⟨Nat.lt_of_lt_of_le h.lt hs, (World.cell?_of_block (a := ⟨p, 0, none⟩) hp).trans h.cell, ⟨D, ⟨es, clock, hb.trans hb', F, hs', hD⟩, hc⟩, h.lo⟩
theorem IdsAt.later {w W : World} {p b m : Nat} {f : Nat → Int} (h : IdsAt w p b m f) (hb : Below w.heap.size w W) : IdsAt W p b m f := h.keep hb.size (hb.block _ h.lt) (hb.block _ h.ltb)
theorem IdsAt.ne {w : World} {p b m : Nat} {f : Nat → Int} (h : IdsAt w p b m f) : p ≠ b := fun e => by
  obtain ⟨D, ⟨es, clock, hb', _⟩, _⟩ := h.own
  have hc := h.cell
  rw [e] at hc
  unfold World.cell? at hc
  rw [hb'] at hc
  simp at hc
/-- What New answers. -/
def NewIds (xs : List Li) (W : World) (e : Ending) (w' : World) : Prop := Below W.heap.size W w' ∧
  ((okN xs ∧ ∃ p b m, W.heap.size ≤ p ∧ W.heap.size ≤ b ∧ m ≤ xs.length ∧ e = .returned (.tuple #[.pointer (some ⟨p, 0, none⟩), .int .i64 0]) ∧ IdsAt w' p b m (lastF xs)) ∨
   (¬ okN xs ∧ e = .returned (.tuple #[.pointer none, .int .i64 50])))
theorem zeroInt (w : World) : (zeroValue 3).run Tryd.prog w = .ok (.int .i64 0) w := by kernel_rfl
theorem lastF_lo {xs : List Li} (h : ∀ x ∈ xs, 1 ≤ x.n ∧ x.n ≤ 4611686018427387904) : ∀ k, k ≤ xs.length → ∀ a, 0 ≤ lastF (xs.take k) a ∧ lastF (xs.take k) a ≤ 4611686018427387904
  | 0, _, a => by rw [List.take_zero]; exact ⟨Int.le_refl _, by show (0 : Int) ≤ _; omega⟩
  | k + 1, hk, a => by
    have ih := lastF_lo h k (by omega)
    have hx := h _ (List.getElem_mem (l := xs) (n := k) (by omega))
    rw [List.take_succ_eq_append_getElem (by omega), lastF_snoc]
    by_cases e : a = xs[k].u
    · subst e
      rw [upd_same]
      have := ih xs[k].u
      omega
    · rw [upd_other _ _ e]; exact ih a

set_option maxRecDepth 100000 in
set_option maxHeartbeats 4000000 in
theorem new_any (w : World) (p : Option Addr) (n c : Nat) (xs : List Li) (hn : xs.length = n) (hnm : n < maxLen) (hr : LiRow w p xs) (hf : ∀ x ∈ xs, LiOk x) :
    Calls Tryd.prog 11 #[.slice p n c] w (NewIds xs w) := by
  have cT := twice_any w p n c xs hn hnm hr hf
  have HN := Lib.hid hn
  have hnm' : n ≤ 9223372036854775807 := by unfold maxLen at hnm; omega
  have hmm := @run_makeMap Tryd.prog
  clear hn
  unfold twV at cT
  cases htw : twiceI xs with
  | some i =>
    rw [htw] at cT
    have hno : Hid (¬ okN xs) := fun h => by have := h.1; rw [htw] at this; cases this
    clear htw
    go_enter Tryd.func11, Tryd.ntmps11
    go_wp2_with (go_at_call 14; refine cT.mono ?_; rintro e w1 ⟨rfl, hb1⟩)
    go_ret2
    exact ⟨hb1, .inr ⟨hno.out, rfl⟩⟩
  | none =>
    rw [htw] at cT
    have HT := Lib.hid htw
    clear htw
    go_enter Tryd.func11, Tryd.ntmps11
    go_wp2_with (go_at_call 14; refine cT.mono ?_; rintro e w1 ⟨rfl, hb1⟩)
    clear hmm
    have hbw : Below w.heap.size w ((w1.alloc (.map #[] 0)).alloc (.cells #[.map (some w1.heap.size)] 60)) := (hb1.alloc hb1.size _).alloc (by have := hb1.size; simp; omega) _
    have hs1 := hb1.size
    have h0 : IdsAt ((w1.alloc (.map #[] 0)).alloc (.cells #[.map (some w1.heap.size)] 60)) (w1.heap.size + 1) w1.heap.size 0 (lastF (xs.take 0)) := by
      refine ⟨by simp, ?_, ⟨.map [], (World.ownsMap_made _ _ _ _).alloc _, cnt_nil⟩, fun a => by rw [List.take_zero]; exact ⟨Int.le_refl _, by show (0 : Int) ≤ _; omega⟩⟩
      rw [show w1.heap.size + 1 = (w1.alloc (.map #[] 0)).heap.size by simp, World.cell?_alloc_mark]; rfl
    go_loopg [20] n (fun g vi wr => ∃ k : Nat, k + g = n ∧ vi = .int .i64 k ∧ Hid (∀ x ∈ xs.take k, 1 ≤ x.n ∧ x.n ≤ 4611686018427387904) ∧ Below w.heap.size w wr ∧ w1.heap.size + 2 ≤ wr.heap.size ∧ Hid (IdsAt wr (w1.heap.size + 1) w1.heap.size k (lastF (xs.take k))))
    case atStart => exact ⟨0, by omega, rfl, fun x hx => by simp at hx, hbw, by simp, h0⟩
    case round =>
      obtain ⟨k, hk, rfl, hgo, hbr, hs2, HI⟩ := hrel
      by_cases hlt : k < n
      · have hlt' : k < xs.length := by rw [HN.out]; exact hlt
        obtain ⟨b1, o1, rfl, hb1', h1c⟩ := hr.at k hlt'
        obtain ⟨g0, g1, g2, g3⟩ := h1c wr hbr
        have hx := hf xs[k] (List.getElem_mem hlt')
        have hbad := Lib.hid (fun (h : ¬ (1 ≤ xs[k].n ∧ xs[k].n ≤ 4611686018427387904)) => (show ¬ okN xs from fun ho => h (ho.2 _ (List.getElem_mem hlt'))))
        have hgood := Lib.hid (fun (h : 1 ≤ xs[k].n ∧ xs[k].n ≤ 4611686018427387904) => (show ∀ x ∈ xs.take (k + 1), 1 ≤ x.n ∧ x.n ≤ 4611686018427387904 from fun x hx => by
          rw [List.take_succ_eq_append_getElem hlt', List.mem_append, List.mem_singleton] at hx
          rcases hx with hx | rfl
          · exact hgo.out x hx
          · exact h))
        have hst := Lib.hid (show lastF (xs.take (k + 1)) = upd (lastF (xs.take k)) xs[k].u (max (lastF (xs.take k) xs[k].u) xs[k].n) by rw [List.take_succ_eq_append_getElem hlt', lastF_snoc])
        generalize xs[k] = x at *
        have hI := HI.out
        have hbz := hbr.size
        have HB := Lib.hid hbr
        have hk0 : (0 : Int) ≤ (k : Int) := by omega
        have hkI : (k : Int) < (n : Int) := by omega
        clear h1c hbr hf hr hgo cT h0 hbw HI
        by_cases hN1 : x.n < 1
        · have hno : Hid (¬ okN xs) := hbad.out (by omega)
          clear hbad hgood hst hI
          go_wp2_with fail
          go_ret2
          exact ⟨HB.out.alloc (by omega) _, .inr ⟨hno.out, rfl⟩⟩
        · by_cases hN2 : 4611686018427387904 < x.n
          · have hno : Hid (¬ okN xs) := hbad.out (by omega)
            clear hbad hgood hst hI
            go_wp2_with fail
            go_ret2
            exact ⟨HB.out.alloc (by omega) _, .inr ⟨hno.out, rfl⟩⟩
          · have hgood' := Lib.hid (hgood.out ⟨by omega, by omega⟩)
            clear hbad hgood
            have HI := Lib.hid hI
            clear hI
            go_wp2_with fail
            have hS : (fun W : World => W.cell? ⟨w1.heap.size + 1, 0, none⟩ = some (.map (some w1.heap.size)) ∧ W.cell? ⟨wr.heap.size, 0, none⟩ = some (.int .u64 x.u) ∧ W.cell? ⟨wr.heap.size, 1, none⟩ = some (.int .i64 x.n)) (wr.alloc (.cells #[.int .u64 x.u, .int .i64 x.n, .int .i64 x.r, .string x.s] 25)).drew := by
              have hc := HI.out.cell
              refine ⟨(World.cell?_alloc_some wr _ _ (by rw [hc]; rfl)).trans hc, ?_, ?_⟩
              · show (wr.alloc _).cell? _ = _
                rw [World.cell?_alloc_mark]; rfl
              · show (wr.alloc _).cell? _ = _
                rw [World.cell?_alloc_mark]; rfl
            refine region_ord (fun W : World => W.cell? ⟨w1.heap.size + 1, 0, none⟩ = some (.map (some w1.heap.size)) ∧ W.cell? ⟨wr.heap.size, 0, none⟩ = some (.int .u64 x.u) ∧ W.cell? ⟨wr.heap.size, 1, none⟩ = some (.int .i64 x.n)) [(0, true), (1, true), (2, true), (3, true), (4, true), (5, true), (6, true), (7, true), (8, true), (9, true), (10, true), (11, true), (13, true), (14, true), (12, false), (15, true), (16, false)] (by kernel_rfl) (by kernel_rfl) (by kernel_rfl) (by kernel_rfl) hS ?_
            have HS := Lib.hid hS
            clear hS
            iterate 14 (refine ord_take (v := ?_) rfl (by rfl) ?_ ?_; rotate_left; (focus (intro w hSw; (try dsimp only at hSw); go_simp; (try with_reducible rfl); done)); (try simp (maxSteps := 10000000) only [Act.put, List.setIfInBounds_toArray, List.set_cons_zero, List.set_cons_succ]))
            obtain ⟨D, hown0, hcnt⟩ := HI.out.own
            have hown := (hown0.alloc (.cells #[.int .u64 x.u, .int .i64 x.n, .int .i64 x.r, .string x.s] 25)).drew
            obtain ⟨cv, hrun, hat, hwc⟩ := hown.lookup_int labLaw Tryd.underlying58 Tryd.underlying3 (zeroInt _) (lab_key hx.u)
            have hcv : cv = lastF (xs.take k) x.u := by
              rw [hcnt.at' _ hx.u] at hat
              simpa using hat.symm
            have HCV := Lib.hid hcv
            have HO := Lib.hid hown
            clear hown0 hat hown hcv
            refine ord_call rfl (by rfl) (fun K hK => ?_)
            unfold Oper.wp
            simp only [execOp, Act.eval]
            go_simp
            refine hK.out _ _ HS.out (fun _ => ?_)
            clear hK hrun
            (refine ord_take (v := ?_) rfl (by rfl) ?_ ?_; rotate_left; (focus (intro w hSw; (try dsimp only at hSw); go_simp; (try with_reducible rfl); done)); (try simp (maxSteps := 10000000) only [Act.put, List.setIfInBounds_toArray, List.set_cons_zero, List.set_cons_succ]))
            obtain ⟨mv, hmv⟩ : ∃ mv, (if cv < x.n then x.n else cv) = mv := ⟨_, rfl⟩
            have hmx : mv = max cv x.n := by rw [← hmv]; split <;> omega
            have hwm : (Lit.int .i64 mv).wf = true := by
              rw [← hmv]
              split
              · exact hx.n
              · exact hwc
            rw [hmv]
            have HMX := Lib.hid hmx
            clear hmv hmx hwc
            obtain ⟨w5, hrun5, hown5, hgr5⟩ := HO.out.update labLaw Tryd.underlying58 (by omega) (lab_key hx.u) (plainElem_int Tryd.underlying3 hwm)
            have hS5 : w5.cell? ⟨w1.heap.size + 1, 0, none⟩ = some (.map (some w1.heap.size)) ∧ w5.cell? ⟨wr.heap.size, 0, none⟩ = some (.int .u64 x.u) ∧ w5.cell? ⟨wr.heap.size, 1, none⟩ = some (.int .i64 x.n) :=
              ⟨hgr5.cell HS.out.1 (by simp), hgr5.cell HS.out.2.1 (by simp; omega), hgr5.cell HS.out.2.2 (by simp; omega)⟩
            have HS5 := Lib.hid hS5
            clear hS5
            refine ord_call rfl (by rfl) (fun K hK => ?_)
            unfold Oper.wp
            simp only [execOp, Act.eval]
            go_simp
            refine hK.out _ _ HS5.out (fun _ => ?_)
            clear hK hrun5
            refine ord_end ?_
            have hbe : Below w.heap.size w w5 := (Below.drew (HB.out.alloc (by omega) _)).grown hgr5 (by show w.heap.size ≤ (wr.alloc _).heap.size; simp; omega) (fun j hj => by cases hj; exact hs1)
            have hs5 : w1.heap.size + 2 ≤ w5.heap.size := by
              have := hgr5.size
              have e : ((wr.alloc (.cells #[.int .u64 x.u, .int .i64 x.n, .int .i64 x.r, .string x.s] 25)).drew).heap.size = wr.heap.size + 1 := by show (wr.alloc _).heap.size = _; simp
              omega
            have HI5 : Hid (IdsAt w5 (w1.heap.size + 1) w1.heap.size (k + 1) (lastF (xs.take (k + 1)))) := by
              rw [hst.out]
              refine ⟨by omega, HS5.out.1, ⟨_, hown5, ?_⟩, fun a => ?_⟩
              · rw [HMX.out, HCV.out]; exact hcnt.put _ _
              · by_cases e : a = x.u
                · rw [e, upd_same]
                  have := HI.out.lo x.u
                  omega
                · rw [upd_other _ _ e]; exact HI.out.lo a
            clear hown5 hgr5 hcnt HI hwm HO HS HS5 hst
            go_wp2_with fail
            go_roundg (gk - 1)
            case rel => exact ⟨k + 1, by omega, by go_num, hgood', hbe, hs5, HI5⟩
            case measure => omega
      · obtain rfl : n = k := by omega
        have hall : xs.take n = xs := by rw [← HN.out]; exact List.take_length
        rw [hall] at hgo HI
        have HB := Lib.hid hbr
        have hle : Hid (n ≤ xs.length) := by show n ≤ xs.length; rw [HN.out]; exact Nat.le_refl _
        clear hbr hall hbw h0
        go_wp2_with fail
        go_ret2
        exact ⟨HB.out, .inl ⟨⟨HT.out, hgo.out⟩, _, _, n, by omega, hs1, hle.out, rfl, HI.out⟩⟩
end Go.Proofs.YtbcfmckhgjcakaaDoor
