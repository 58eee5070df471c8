/- The document's counters: Copy, by contract. -/
import Derived.Test.YtbcfmckhgjcakaaIdRefNext
import Derived.Test.YtbcfmckhgjcakaaRegTree
import Derived.Laws.AppendOwnNone
namespace Go.Proofs.Ytbcfmckhgjcakaa
open Go Go.RowKit Go.Maps

/-- A row copied behind an empty one, at one operation. -/
theorem wp_copy {P : Program} {o : Oper} {a : Act} {w : World} {K : Act → World → Prop} {Q : Exit → Act → World → Prop} (s x : Operand) (t : TypeId)
    (ho : o.op = .call { callee := .builtin .append, args := #[s, x], argTypes := #[t, t] })
    (base B : Nat) (e : TypeId) (i : TypeInfo) (z : Value) (ht : P.underlying t = some (.slice e)) (hi : P.info? e = some i) (hz : i.zero = some z)
    (hsize : i.size = 1) (hby : i.bytes = 8) (hzs : z.cells.size = 1)
    (v : Value) (hs : a.eval s = v) (hown : w.ownsRow base e 1 v 0 [])
    (q : Option Addr) (n c : Nat) (cs : List Value) (hx : a.eval x = .slice q n c) (hrow : w.ownsRow B e 1 (.slice q n c) n cs) (h1 : ∀ u ∈ cs, u.oneCell' = true)
    (h63 : n ≤ 17592186044416) (hbase : base ≤ w.heap.size)
    (h : ∀ v' w', w'.ownsRow base e 1 v' n cs → w.grownBy w' v.ownBlock → (v'.ownBlock = v.ownBlock ∨ v'.ownBlock = some w.heap.size) → K (a.put o.dst v') w') : Oper.wp P o a w K Q := by
  cases q with
  | none =>
    have h0 : n = 0 ∧ c = 0 := by
      rcases hrow.2 with ⟨hv, h0⟩ | ⟨g, cap, cur, hv, _⟩
      · simp at hv; exact hv
      · simp at hv
    obtain ⟨rfl, rfl⟩ := h0
    have hcs : cs = [] := List.eq_nil_of_length_eq_zero (by simpa using hrow.1)
    subst hcs
    have hr := run_append_owned_none (P := P) (w := w) base t o.type e i 1 ht hi v 0 [] hown
    unfold Oper.wp execOp
    simp only [ho, resolve, invoke, builtin, Sem.run_bind, Sem.run_pure, Result.andThen_ok, List.map_toArray, List.map_cons, List.map_nil, hs, hx, hr]
    exact h v w hown (World.grownBy.refl _ _) (.inl rfl)
  | some ad =>
    obtain ⟨v', w', hr, h2, h3, _, h5⟩ := run_append_own_at (P := P) w base t o.type e i z 1 8 ht hi hz hsize hby hzs (by decide) v 0 [] hown ad n c cs (by rw [hrow.1]) (by
      rcases hrow.2 with ⟨hv, _⟩ | ⟨g, cap, cur, hv, hB, hg, _⟩
      · simp at hv
      · have e1 : ad = ⟨g, 0, none⟩ := by simp at hv; exact hv.1
        subst e1
        exact hrow.cells rfl) h1 (by unfold maxLen; omega) (by omega) hbase
    rw [Nat.zero_add, List.nil_append] at h2
    unfold Oper.wp execOp
    simp only [ho, resolve, invoke, builtin, Sem.run_bind, Sem.run_pure, Result.andThen_ok, List.map_toArray, List.map_cons, List.map_nil, hs, hx, hr]
    exact h v' w' h2 h3 h5
theorem copy_fin {w W : World} {p B : Nat} {v1 v2 va vb : Value} {ls : List (Nat × Int)} (h : RefAt w p B v1 v2 ls) (hb : Below w.heap.size w W) (ra : W.ownsRow w.heap.size 25 1 va ls.length (labsV ls)) (rb : W.ownsRow w.heap.size 3 1 vb ls.length (lastsV ls))
    (hd : ∀ g, va.ownBlock = some g → vb.ownBlock ≠ some g) : Below w.heap.size w (W.alloc (.cells #[va, vb] 56)) ∧ RefAt (W.alloc (.cells #[va, vb] 56)) W.heap.size w.heap.size va vb ls :=
  ⟨hb.alloc hb.size _, heap_alloc_new W _, hb.size, ra.alloc _, rb.alloc _, fun e => by have := (ra.lt _ e).2; omega, fun e => by have := (rb.lt _ e).2; omega, hd, h.nd, h.lo⟩
theorem refCopy_nil (w : World) : Calls Try.prog 12 #[.pointer none] w fun e w' => e = .returned (.pointer none) ∧ w = w' := by
  go_enter Try.func12, Try.ntmps12
  go_wp2
  go_ret
  exact ⟨rfl, rfl⟩
set_option maxRecDepth 100000 in
set_option maxHeartbeats 4000000 in
theorem refCopy_any (w : World) (p B : Nat) (v1 v2 : Value) (ls : List (Nat × Int)) (h : RefAt w p B v1 v2 ls) (hlen : ls.length < 17592186044415) :
    Calls Try.prog 12 #[.pointer (some ⟨p, 0, none⟩)] w fun e w' => Below w.heap.size w w' ∧ ∃ p' v1' v2', e = .returned (.pointer (some ⟨p', 0, none⟩)) ∧ RefAt w' p' w.heap.size v1' v2' ls := by
  obtain ⟨k0, k1, f0, f1⟩ := cells2 h.blk
  have hpl := h.ltp
  obtain ⟨i0, hi, hz0, hz1, hz2⟩ := info_parts labInfo
  obtain ⟨j0, hj, hy0, hy1, hy2⟩ := info_parts intInfo
  obtain ⟨q1, c1, rfl⟩ := row_form h.o1
  obtain ⟨q2, c2, rfl⟩ := row_form h.o2
  have H : Aside _ := h
  clear h
  go_enter Try.func12, Try.ntmps12
  go_wp2_with fail
  have hn : ls.length < 17592186044415 := hlen
  have SB : ∀ W, Below w.heap.size w W → W.cell? ⟨p, 0, none⟩ = some (.slice q1 ls.length c1) ∧ W.cell? ⟨p, 1, none⟩ = some (.slice q2 ls.length c2) := fun W hb => ⟨(hb.cell (p := ⟨p, 0, none⟩) hpl).trans k0, (hb.cell (p := ⟨p, 1, none⟩) hpl).trans k1⟩
  have hb0 : Below w.heap.size w w.drew := (Below.refl _ w).drew
  have one1 : ∀ u ∈ labsV ls, u.oneCell' = true := fun u hu => by
    unfold labsV at hu
    obtain ⟨x, _, rfl⟩ := List.mem_map.1 hu
    rfl
  have one2 : ∀ u ∈ lastsV ls, u.oneCell' = true := fun u hu => by
    unfold lastsV at hu
    obtain ⟨x, _, rfl⟩ := List.mem_map.1 hu
    rfl
  refine region_tree (fun W : World => W.cell? ⟨p, 0, none⟩ = some (.slice q1 ls.length c1) ∧ W.cell? ⟨p, 1, none⟩ = some (.slice q2 ls.length c2))
    (.take 1 (.take 2 (.take 3 (.take 4 (.take 7 (.take 8 (.take 9 (.take 10 (.two 0 6 (.two 5 6 (.call 6 (.call 11 (.take 12 (.call 13 (.take 14 .done))))) (.call 5 (.call 11 (.take 12 (.call 13 (.take 14 .done)))))) (.call 0 (.call 5 (.call 11 (.take 12 (.call 13 (.take 14 .done)))))))))))))))
    (by kernel_rfl) (by kernel_rfl) (by kernel_rfl) (SB _ hb0) ?_
  have SB' : Aside _ := SB
  clear SB k0 k1 f0 f1
  iterate 8 (refine tree_take (v := ?_) rfl (by rfl) ?_ ?_; rotate_left; (focus (intro w hSw; (try dsimp only at hSw); go_simp; (try with_reducible rfl); done)); (try simp (maxSteps := 10000000) only [Act.put, List.setIfInBounds_toArray, List.set_cons_zero, List.set_cons_succ]))
  refine tree_two ?_ ?_
  · refine call_at rfl (by rfl) (fun K hK => ?_)
    unfold Oper.wp
    simp only [execOp, Act.eval]
    go_simp
    have hb1 : Below w.heap.size w (w.drew.alloc (.cells #[] 25)) := hb0.alloc hb0.size _
    have e1 : (w.drew.alloc (.cells #[] 25)).ownsRow w.heap.size 25 1 (.slice (some ⟨w.heap.size, 0, none⟩) 0 0) 0 [] := by
      have h := World.ownsRow_made (e := 25) (size := 1) (base := w.heap.size) w.drew #[] 0 hb0.size (by unfold maxLen; omega) rfl
      (try rw [show w.drew.heap.size = w.heap.size by first | rfl | simp] at h)
      exact h
    refine hK.out _ _ (SB'.out _ hb1) (fun _ => ?_)
    clear hK
    (try simp (maxSteps := 10000000) only [Act.put, List.setIfInBounds_toArray, List.set_cons_zero, List.set_cons_succ])
    refine tree_two ?_ ?_
    · refine call_at rfl (by rfl) (fun K hK => ?_)
      refine wp_copy _ _ 53 rfl w.heap.size B 25 i0 (.int .u64 0) Try.underlying53 hi hz0 hz1 hz2 rfl (.slice (some ⟨w.heap.size, 0, none⟩) 0 0) rfl e1 q1 ls.length c1 (labsV ls) rfl (row_later H.out.o1 hb1) one1 (by omega) hb1.size ?_
      intro va W2 ra2 gra2 loca2
      have hb2 : Below w.heap.size w W2 := hb1.grown gra2 hb1.size (fun k hk => (e1.lt k hk).1)
      have hva := ra2.lt
      obtain ⟨qa, ca, rfl⟩ := row_form ra2
      refine hK.out _ _ (SB'.out _ hb2) (fun _ => ?_)
      clear hK
      (try simp (maxSteps := 10000000) only [Act.put, List.setIfInBounds_toArray, List.set_cons_zero, List.set_cons_succ])
      refine tree_call ?_
      refine call_at rfl (by rfl) (fun K hK => ?_)
      unfold Oper.wp
      simp only [execOp, Act.eval]
      go_simp
      have hb3 : Below w.heap.size w (W2.alloc (.cells #[] 3)) := hb2.alloc hb2.size _
      have e3 : (W2.alloc (.cells #[] 3)).ownsRow w.heap.size 3 1 (.slice (some ⟨W2.heap.size, 0, none⟩) 0 0) 0 [] := by
        have h := World.ownsRow_made (e := 3) (size := 1) (base := w.heap.size) W2 #[] 0 hb2.size (by unfold maxLen; omega) rfl
        (try rw [show W2.heap.size = W2.heap.size by first | rfl | simp] at h)
        exact h
      have t3 := ra2.alloc (.cells #[] 3)
      refine hK.out _ _ (SB'.out _ hb3) (fun _ => ?_)
      clear hK
      (try simp (maxSteps := 10000000) only [Act.put, List.setIfInBounds_toArray, List.set_cons_zero, List.set_cons_succ])
      refine tree_call ?_
      refine call_at rfl (by rfl) (fun K hK => ?_)
      refine wp_copy _ _ 54 rfl w.heap.size B 3 j0 (.int .i64 0) Try.underlying54 hj hy0 hy1 hy2 rfl (.slice (some ⟨W2.heap.size, 0, none⟩) 0 0) rfl e3 q2 ls.length c2 (lastsV ls) rfl (row_later H.out.o2 hb3) one2 (by omega) hb3.size ?_
      intro vb Wb rb grb locb
      have hbz : Below w.heap.size w Wb := hb3.grown grb hb3.size (fun k hk => (e3.lt k hk).1)
      have hna : ∀ g, (Value.slice qa ls.length ca).ownBlock = some g → g ≠ W2.heap.size := fun g e => by have := (hva g e).2; omega
      have hla := t3.lt
      have raz := t3.kept grb (by
        cases hq : (Value.slice qa ls.length ca).ownBlock with
        | none => exact .inl rfl
        | some g => exact .inr fun e => hna g hq (Option.some.inj (show some g = some (W2.heap.size) from e)))
      have hdz : ∀ g, (Value.slice qa ls.length ca).ownBlock = some g → vb.ownBlock ≠ some g := fun g e e2 => by
        rcases locb with h | h
        · have h2 := Option.some.inj (show some g = some (W2.heap.size) from e2.symm.trans h); exact hna g e h2
        · have h1 := Option.some.inj (e2.symm.trans h); have h2 := (hla g e).2; (try simp at h1); (try simp at h2); omega
      obtain ⟨qb, cb, rfl⟩ := row_form rb
      refine hK.out _ _ (SB'.out _ hbz) (fun _ => ?_)
      clear hK
      (try simp (maxSteps := 10000000) only [Act.put, List.setIfInBounds_toArray, List.set_cons_zero, List.set_cons_succ])
      (refine tree_take (v := ?_) rfl (by rfl) ?_ ?_; rotate_left; (focus (intro w hSw; (try dsimp only at hSw); go_simp; (try with_reducible rfl); done)); (try simp (maxSteps := 10000000) only [Act.put, List.setIfInBounds_toArray, List.set_cons_zero, List.set_cons_succ]))
      refine tree_call ?_
      refine call_at rfl (by rfl) (fun K hK => ?_)
      unfold Oper.wp
      simp only [execOp, Act.eval]
      go_simp
      have hfin := copy_fin H.out hbz raz rb hdz
      refine hK.out _ _ (SB'.out _ hfin.1) (fun _ => ?_)
      clear hK
      (try simp (maxSteps := 10000000) only [Act.put, List.setIfInBounds_toArray, List.set_cons_zero, List.set_cons_succ])
      (refine tree_take (v := ?_) rfl (by rfl) ?_ ?_; rotate_left; (focus (intro w hSw; (try dsimp only at hSw); go_simp; (try with_reducible rfl); done)); (try simp (maxSteps := 10000000) only [Act.put, List.setIfInBounds_toArray, List.set_cons_zero, List.set_cons_succ]))
      refine tree_end ?_
      have HF := Lib.hid hfin
      clear hfin raz rb hdz locb grb hbz hla hna
      go_wp2
      go_ret
      exact ⟨HF.out.1, _, _, _, rfl, HF.out.2⟩
    · refine call_at rfl (by rfl) (fun K hK => ?_)
      unfold Oper.wp
      simp only [execOp, Act.eval]
      go_simp
      have hb2 : Below w.heap.size w ((w.drew.alloc (.cells #[] 25)).alloc (.cells #[] 3)) := hb1.alloc hb1.size _
      have e2 : ((w.drew.alloc (.cells #[] 25)).alloc (.cells #[] 3)).ownsRow w.heap.size 3 1 (.slice (some ⟨w.heap.size + 1, 0, none⟩) 0 0) 0 [] := by
        have h := World.ownsRow_made (e := 3) (size := 1) (base := w.heap.size) (w.drew.alloc (.cells #[] 25)) #[] 0 hb1.size (by unfold maxLen; omega) rfl
        (try rw [show (w.drew.alloc (.cells #[] 25)).heap.size = w.heap.size + 1 by first | rfl | simp] at h)
        exact h
      have t2 := e1.alloc (.cells #[] 3)
      refine hK.out _ _ (SB'.out _ hb2) (fun _ => ?_)
      clear hK
      (try simp (maxSteps := 10000000) only [Act.put, List.setIfInBounds_toArray, List.set_cons_zero, List.set_cons_succ])
      refine tree_call ?_
      refine call_at rfl (by rfl) (fun K hK => ?_)
      refine wp_copy _ _ 53 rfl w.heap.size B 25 i0 (.int .u64 0) Try.underlying53 hi hz0 hz1 hz2 rfl (.slice (some ⟨w.heap.size, 0, none⟩) 0 0) rfl t2 q1 ls.length c1 (labsV ls) rfl (row_later H.out.o1 hb2) one1 (by omega) hb2.size ?_
      intro va W3 ra3 gra3 loca3
      have hb3 : Below w.heap.size w W3 := hb2.grown gra3 hb2.size (fun k hk => (t2.lt k hk).1)
      have t3 := e2.kept gra3 (.inr (fun e => by have h := Option.some.inj (show some (w.heap.size + 1) = some (w.heap.size) from e); omega))
      have hsz3 : ((w.drew.alloc (.cells #[] 25)).alloc (.cells #[] 3)).heap.size = w.heap.size + 2 := by first | rfl | simp
      have dab : ∀ g, va.ownBlock = some g → g ≠ w.heap.size + 1 := fun g e => by
        have hlt : w.heap.size + 1 < ((w.drew.alloc (.cells #[] 25)).alloc (.cells #[] 3)).heap.size := (e2.lt _ rfl).2
        rcases loca3 with h | h
        · have h2 := Option.some.inj (show some g = some (w.heap.size) from e.symm.trans h); omega
        · have h2 := Option.some.inj (e.symm.trans h); (try simp at h2); omega
      obtain ⟨qa, ca, rfl⟩ := row_form ra3
      refine hK.out _ _ (SB'.out _ hb3) (fun _ => ?_)
      clear hK
      (try simp (maxSteps := 10000000) only [Act.put, List.setIfInBounds_toArray, List.set_cons_zero, List.set_cons_succ])
      refine tree_call ?_
      refine call_at rfl (by rfl) (fun K hK => ?_)
      refine wp_copy _ _ 54 rfl w.heap.size B 3 j0 (.int .i64 0) Try.underlying54 hj hy0 hy1 hy2 rfl (.slice (some ⟨w.heap.size + 1, 0, none⟩) 0 0) rfl t3 q2 ls.length c2 (lastsV ls) rfl (row_later H.out.o2 hb3) one2 (by omega) hb3.size ?_
      intro vb Wb rb grb locb
      have hbz : Below w.heap.size w Wb := hb3.grown grb hb3.size (fun k hk => (t3.lt k hk).1)
      have hna := dab
      have hla := ra3.lt
      have raz := ra3.kept grb (by
        cases hq : (Value.slice qa ls.length ca).ownBlock with
        | none => exact .inl rfl
        | some g => exact .inr fun e => hna g hq (Option.some.inj (show some g = some (w.heap.size + 1) from e)))
      have hdz : ∀ g, (Value.slice qa ls.length ca).ownBlock = some g → vb.ownBlock ≠ some g := fun g e e2 => by
        rcases locb with h | h
        · have h2 := Option.some.inj (show some g = some (w.heap.size + 1) from e2.symm.trans h); exact hna g e h2
        · have h1 := Option.some.inj (e2.symm.trans h); have h2 := (hla g e).2; (try simp at h1); (try simp at h2); omega
      obtain ⟨qb, cb, rfl⟩ := row_form rb
      refine hK.out _ _ (SB'.out _ hbz) (fun _ => ?_)
      clear hK
      (try simp (maxSteps := 10000000) only [Act.put, List.setIfInBounds_toArray, List.set_cons_zero, List.set_cons_succ])
      (refine tree_take (v := ?_) rfl (by rfl) ?_ ?_; rotate_left; (focus (intro w hSw; (try dsimp only at hSw); go_simp; (try with_reducible rfl); done)); (try simp (maxSteps := 10000000) only [Act.put, List.setIfInBounds_toArray, List.set_cons_zero, List.set_cons_succ]))
      refine tree_call ?_
      refine call_at rfl (by rfl) (fun K hK => ?_)
      unfold Oper.wp
      simp only [execOp, Act.eval]
      go_simp
      have hfin := copy_fin H.out hbz raz rb hdz
      refine hK.out _ _ (SB'.out _ hfin.1) (fun _ => ?_)
      clear hK
      (try simp (maxSteps := 10000000) only [Act.put, List.setIfInBounds_toArray, List.set_cons_zero, List.set_cons_succ])
      (refine tree_take (v := ?_) rfl (by rfl) ?_ ?_; rotate_left; (focus (intro w hSw; (try dsimp only at hSw); go_simp; (try with_reducible rfl); done)); (try simp (maxSteps := 10000000) only [Act.put, List.setIfInBounds_toArray, List.set_cons_zero, List.set_cons_succ]))
      refine tree_end ?_
      have HF := Lib.hid hfin
      clear hfin raz rb hdz locb grb hbz hla hna
      go_wp2
      go_ret
      exact ⟨HF.out.1, _, _, _, rfl, HF.out.2⟩
  · refine call_at rfl (by rfl) (fun K hK => ?_)
    unfold Oper.wp
    simp only [execOp, Act.eval]
    go_simp
    have hb1 : Below w.heap.size w (w.drew.alloc (.cells #[] 3)) := hb0.alloc hb0.size _
    have e1 : (w.drew.alloc (.cells #[] 3)).ownsRow w.heap.size 3 1 (.slice (some ⟨w.heap.size, 0, none⟩) 0 0) 0 [] := by
      have h := World.ownsRow_made (e := 3) (size := 1) (base := w.heap.size) w.drew #[] 0 hb0.size (by unfold maxLen; omega) rfl
      (try rw [show w.drew.heap.size = w.heap.size by first | rfl | simp] at h)
      exact h
    refine hK.out _ _ (SB'.out _ hb1) (fun _ => ?_)
    clear hK
    (try simp (maxSteps := 10000000) only [Act.put, List.setIfInBounds_toArray, List.set_cons_zero, List.set_cons_succ])
    refine tree_call ?_
    refine call_at rfl (by rfl) (fun K hK => ?_)
    unfold Oper.wp
    simp only [execOp, Act.eval]
    go_simp
    have hb2 : Below w.heap.size w ((w.drew.alloc (.cells #[] 3)).alloc (.cells #[] 25)) := hb1.alloc hb1.size _
    have e2 : ((w.drew.alloc (.cells #[] 3)).alloc (.cells #[] 25)).ownsRow w.heap.size 25 1 (.slice (some ⟨w.heap.size + 1, 0, none⟩) 0 0) 0 [] := by
      have h := World.ownsRow_made (e := 25) (size := 1) (base := w.heap.size) (w.drew.alloc (.cells #[] 3)) #[] 0 hb1.size (by unfold maxLen; omega) rfl
      (try rw [show (w.drew.alloc (.cells #[] 3)).heap.size = w.heap.size + 1 by first | rfl | simp] at h)
      exact h
    have t2 := e1.alloc (.cells #[] 25)
    refine hK.out _ _ (SB'.out _ hb2) (fun _ => ?_)
    clear hK
    (try simp (maxSteps := 10000000) only [Act.put, List.setIfInBounds_toArray, List.set_cons_zero, List.set_cons_succ])
    refine tree_call ?_
    refine call_at rfl (by rfl) (fun K hK => ?_)
    refine wp_copy _ _ 53 rfl w.heap.size B 25 i0 (.int .u64 0) Try.underlying53 hi hz0 hz1 hz2 rfl (.slice (some ⟨w.heap.size + 1, 0, none⟩) 0 0) rfl e2 q1 ls.length c1 (labsV ls) rfl (row_later H.out.o1 hb2) one1 (by omega) hb2.size ?_
    intro va W3 ra3 gra3 loca3
    have hb3 : Below w.heap.size w W3 := hb2.grown gra3 hb2.size (fun k hk => (e2.lt k hk).1)
    have t3 := t2.kept gra3 (.inr (fun e => by have h := Option.some.inj (show some (w.heap.size) = some (w.heap.size + 1) from e); omega))
    have hsz3 : ((w.drew.alloc (.cells #[] 3)).alloc (.cells #[] 25)).heap.size = w.heap.size + 2 := by first | rfl | simp
    have dab : ∀ g, va.ownBlock = some g → g ≠ w.heap.size := fun g e => by
      have hlt : w.heap.size < ((w.drew.alloc (.cells #[] 3)).alloc (.cells #[] 25)).heap.size := (t2.lt _ rfl).2
      rcases loca3 with h | h
      · have h2 := Option.some.inj (show some g = some (w.heap.size + 1) from e.symm.trans h); omega
      · have h2 := Option.some.inj (e.symm.trans h); (try simp at h2); omega
    obtain ⟨qa, ca, rfl⟩ := row_form ra3
    refine hK.out _ _ (SB'.out _ hb3) (fun _ => ?_)
    clear hK
    (try simp (maxSteps := 10000000) only [Act.put, List.setIfInBounds_toArray, List.set_cons_zero, List.set_cons_succ])
    refine tree_call ?_
    refine call_at rfl (by rfl) (fun K hK => ?_)
    refine wp_copy _ _ 54 rfl w.heap.size B 3 j0 (.int .i64 0) Try.underlying54 hj hy0 hy1 hy2 rfl (.slice (some ⟨w.heap.size, 0, none⟩) 0 0) rfl t3 q2 ls.length c2 (lastsV ls) rfl (row_later H.out.o2 hb3) one2 (by omega) hb3.size ?_
    intro vb Wb rb grb locb
    have hbz : Below w.heap.size w Wb := hb3.grown grb hb3.size (fun k hk => (t3.lt k hk).1)
    have hna := dab
    have hla := ra3.lt
    have raz := ra3.kept grb (by
      cases hq : (Value.slice qa ls.length ca).ownBlock with
      | none => exact .inl rfl
      | some g => exact .inr fun e => hna g hq (Option.some.inj (show some g = some (w.heap.size) from e)))
    have hdz : ∀ g, (Value.slice qa ls.length ca).ownBlock = some g → vb.ownBlock ≠ some g := fun g e e2 => by
      rcases locb with h | h
      · have h2 := Option.some.inj (show some g = some (w.heap.size) from e2.symm.trans h); exact hna g e h2
      · have h1 := Option.some.inj (e2.symm.trans h); have h2 := (hla g e).2; (try simp at h1); (try simp at h2); omega
    obtain ⟨qb, cb, rfl⟩ := row_form rb
    refine hK.out _ _ (SB'.out _ hbz) (fun _ => ?_)
    clear hK
    (try simp (maxSteps := 10000000) only [Act.put, List.setIfInBounds_toArray, List.set_cons_zero, List.set_cons_succ])
    (refine tree_take (v := ?_) rfl (by rfl) ?_ ?_; rotate_left; (focus (intro w hSw; (try dsimp only at hSw); go_simp; (try with_reducible rfl); done)); (try simp (maxSteps := 10000000) only [Act.put, List.setIfInBounds_toArray, List.set_cons_zero, List.set_cons_succ]))
    refine tree_call ?_
    refine call_at rfl (by rfl) (fun K hK => ?_)
    unfold Oper.wp
    simp only [execOp, Act.eval]
    go_simp
    have hfin := copy_fin H.out hbz raz rb hdz
    refine hK.out _ _ (SB'.out _ hfin.1) (fun _ => ?_)
    clear hK
    (try simp (maxSteps := 10000000) only [Act.put, List.setIfInBounds_toArray, List.set_cons_zero, List.set_cons_succ])
    (refine tree_take (v := ?_) rfl (by rfl) ?_ ?_; rotate_left; (focus (intro w hSw; (try dsimp only at hSw); go_simp; (try with_reducible rfl); done)); (try simp (maxSteps := 10000000) only [Act.put, List.setIfInBounds_toArray, List.set_cons_zero, List.set_cons_succ]))
    refine tree_end ?_
    have HF := Lib.hid hfin
    clear hfin raz rb hdz locb grb hbz hla hna
    go_wp2
    go_ret
    exact ⟨HF.out.1, _, _, _, rfl, HF.out.2⟩
end Go.Proofs.Ytbcfmckhgjcakaa
