/- The document's counters: Next and Last, by contracts. -/
import Derived.Test.YtbcfmckhgjcakaaIdRefMiss
import Derived.Test.YtbcfmckhgjcakaaRegOrd
namespace Go.Proofs.Ytbcfmckhgjcakaa
open Go Go.RowKit Go.Maps

/-- Some counters of the document's at block p, in blocks from B on. -/
def AtSays (w : World) (p B : Nat) (v1 v2 : Value) (ls : List (Nat × Int)) (a : Nat) (e : Ending) (w' : World) : Prop :=
  ∃ v1' v2' ls' i, e = .returned (.int .i64 (i : Nat)) ∧ RefAt w' p B v1' v2' ls' ∧ KeptBut (ownS p v1 v2) w w' ∧ (∀ k, ownS p v1' v2' k → ownS p v1 v2 k ∨ w.heap.size ≤ k) ∧
    ls'[i]?.map (·.1) = some a ∧ lookF ls' = lookF ls ∧ ls'.length ≤ ls.length + 1
theorem at_any (w : World) (p B : Nat) (v1 v2 : Value) (ls : List (Nat × Int)) (a : Nat) (ha : a < 18446744073709551616) (h : RefAt w p B v1 v2 ls) (hB : B ≤ w.heap.size) (hlen : ls.length < 17592186044415) :
    Calls Try.prog 23 #[.pointer (some ⟨p, 0, none⟩), .int .u64 (a : Int)] w (AtSays w p B v1 v2 ls a) := by
  by_cases hm : ∀ x ∈ ls, x.1 ≠ a
  · refine (at_miss w p B v1 v2 ls a ha hm h hB hlen).mono ?_
    rintro e w' ⟨rfl, v1', v2', h', hk, ho⟩
    exact ⟨v1', v2', _, ls.length, rfl, h', hk, ho, by simp, lookF_snoc ls a, by simp⟩
  · have hex : ∃ x ∈ ls, x.1 = a := Classical.byContradiction fun hc => hm fun x hx e => hc ⟨x, hx, e⟩
    obtain ⟨x, hx, rfl⟩ := hex
    obtain ⟨i, hi, rfl⟩ := List.getElem_of_mem hx
    refine (at_hit w p B v1 v2 ls i hi h (by omega)).mono ?_
    rintro e w' ⟨rfl, rfl⟩
    exact ⟨v1, v2, ls, i, rfl, h, KeptBut.refl _ _, fun k hk => .inl hk, by rw [List.getElem?_eq_getElem hi]; rfl, rfl, by omega⟩
theorem at_get {ls : List (Nat × Int)} {i a : Nat} (hn : (ls.map (·.1)).Nodup) (h : ls[i]?.map (·.1) = some a) : ∃ hi : i < ls.length, ls[i] = (a, lookF ls a) := by
  cases e : ls[i]? with
  | none => rw [e] at h; cases h
  | some x =>
    rw [e] at h
    obtain ⟨hi, rfl⟩ := List.getElem?_eq_some_iff.1 e
    have h1 : ls[i].1 = a := by simpa using h
    refine ⟨hi, ?_⟩
    have := lookF_hit hn hi
    rw [h1] at this
    rw [this, ← h1]
/-- The row of numbers: its block, its cell. -/
theorem last_cell {w : World} {p B : Nat} {v1 v2 : Value} {ls : List (Nat × Int)} (h : RefAt w p B v1 v2 ls) {i : Nat} (hi : i < ls.length) : ∃ g cap, v2 = .slice (some ⟨g, 0, none⟩) ls.length cap ∧ g < w.heap.size ∧ g ≠ p ∧ w.cell? ⟨g, i, none⟩ = some (.int .i64 ls[i].2) ∧ w.frozen? ⟨g, i, none⟩ = false := by
  obtain ⟨g, cap, rfl, hg⟩ := row_some h.o2 (by omega)
  refine ⟨g, cap, rfl, hg, fun e => h.d2 (by rw [e]; rfl), ?_, h.o2.frozenAt i⟩
  have := h.o2.cellAt i (by omega)
  unfold lastsV at this
  rw [List.getElem?_map, List.getElem?_eq_getElem hi] at this
  exact this

theorem refNext_nil (a : Nat) (w : World) : Calls Try.prog 10 #[.pointer none, .int .u64 a] w fun e w' => e = .returned (.tuple #[.int .i64 0, .int .i64 2]) ∧ w = w' := by
  go_enter Try.func10, Try.ntmps10
  go_wp2
  go_ret2
  exact ⟨rfl, rfl⟩
theorem refLast_nil (a : Nat) (w : World) : Calls Try.prog 14 #[.pointer none, .int .u64 a] w fun e w' => e = .returned (.int .i64 0) ∧ w = w' := by
  go_enter Try.func14, Try.ntmps14
  go_wp2
  go_ret
  exact ⟨rfl, rfl⟩
/-- What such a call leaves of the counters. -/
def Leaves (w : World) (p B : Nat) (v1 v2 : Value) (ls : List (Nat × Int)) (f : Nat → Int) (w' : World) : Prop :=
  ∃ v1' v2' ls', RefAt w' p B v1' v2' ls' ∧ KeptBut (ownS p v1 v2) w w' ∧ (∀ k, ownS p v1' v2' k → ownS p v1 v2 k ∨ w.heap.size ≤ k) ∧ (∀ a, lookF ls' a = f a) ∧ ls'.length ≤ ls.length + 1
theorem RefAt.drew {w : World} {p B : Nat} {v1 v2 : Value} {ls : List (Nat × Int)} (h : RefAt w p B v1 v2 ls) : RefAt w.drew p B v1 v2 ls := ⟨h.blk, h.hp, h.o1, h.o2, h.d1, h.d2, h.d3, h.nd, h.lo⟩
theorem KeptBut.drew {S : Nat → Prop} {a w : World} (h : KeptBut S a w) : KeptBut S a w.drew := ⟨h.os, h.tape, h.output, h.size, h.block⟩
theorem Leaves.drew {w : World} {p B : Nat} {v1 v2 : Value} {ls : List (Nat × Int)} {f : Nat → Int} {w' : World} (h : Leaves w p B v1 v2 ls f w') : Leaves w p B v1 v2 ls f w'.drew := by
  obtain ⟨a, b, c, h1, h2, h3, h4, h5⟩ := h
  exact ⟨a, b, c, h1.drew, h2.drew, h3, h4, h5⟩
theorem refLast_any (w : World) (p B : Nat) (v1 v2 : Value) (ls : List (Nat × Int)) (a : Nat) (ha : a < 18446744073709551616) (h : RefAt w p B v1 v2 ls) (hB : B ≤ w.heap.size) (hlen : ls.length < 17592186044415) :
    Calls Try.prog 14 #[.pointer (some ⟨p, 0, none⟩), .int .u64 (a : Int)] w fun e w' => e = .returned (.int .i64 (lookF ls a)) ∧ Leaves w p B v1 v2 ls (lookF ls) w' := by
  have cA := at_any w p B v1 v2 ls a ha h hB hlen
  have HL := Lib.hid hlen
  clear h hlen
  go_enter Try.func14, Try.ntmps14
  go_wp2_with fail
  refine cA.mono ?_
  rintro e w' ⟨v1', v2', ls', i, rfl, h', hk, ho, hg, hl, hle⟩
  obtain ⟨hi, e1⟩ := at_get h'.nd hg
  obtain ⟨k0, k1, f0, f1⟩ := cells2 h'.blk
  have H' : Aside _ := h'
  obtain ⟨g, cap, rfl, hgl, hgp, hc, _⟩ := last_cell h' hi
  rw [e1, hl] at hc
  obtain ⟨n, hn⟩ : ∃ n, ls'.length = n := ⟨_, rfl⟩
  rw [hn] at k1
  have hi0 : (0 : Int) ≤ (i : Int) := by omega
  have hiI : (i : Int) < (n : Int) := by omega
  have hnn : n < 17592186044416 := by have := HL.out; omega
  have HFIN : Hid (Leaves w p B v1 v2 ls (lookF ls) w') := ⟨_, _, _, H'.out, hk, ho, fun b => by rw [hl], hle⟩
  clear cA h' hk ho hg hl hle e1 hn H'
  go_wp2
  go_ret
  exact ⟨rfl, HFIN.out⟩
theorem set_same {α : Type} {l : List α} {i : Nat} {x : α} (h : l[i]? = some x) : l.set i x = l := by
  obtain ⟨hi, rfl⟩ := List.getElem?_eq_some_iff.1 h
  exact List.set_getElem_self hi
theorem lookF_set {ls : List (Nat × Int)} (hn : (ls.map (·.1)).Nodup) {i a : Nat} (hi : i < ls.length) (ha : ls[i].1 = a) (v : Int) : ∀ b, lookF (ls.set i (a, v)) b = upd (lookF ls) a v b := by
  have hk : (ls.set i (a, v)).map (·.1) = ls.map (·.1) := by
    rw [List.map_set]
    exact set_same (by rw [List.getElem?_map, List.getElem?_eq_getElem hi]; simp [ha])
  intro b
  by_cases e : b = a
  · rw [e, upd_same]
    have hi' : i < (ls.set i (a, v)).length := by simpa using hi
    have := lookF_hit (ls := ls.set i (a, v)) (by rw [hk]; exact hn) hi'
    simpa using this
  · rw [upd_other _ _ e]
    by_cases hex : ∃ (j : Nat) (hj : j < ls.length), ls[j].1 = b
    · obtain ⟨j, hj, rfl⟩ := hex
      have hji : i ≠ j := fun e' => e (by subst e'; exact ha)
      have hj' : j < (ls.set i (a, v)).length := by simpa using hj
      have h1 := lookF_hit (ls := ls.set i (a, v)) (by rw [hk]; exact hn) hj'
      rw [List.getElem_set_ne hji] at h1
      rw [h1, lookF_hit hn hj]
    · rw [lookF_miss (ls := ls) fun x hx e' => by
        obtain ⟨j, hj, rfl⟩ := List.getElem_of_mem hx
        exact hex ⟨j, hj, e'⟩]
      refine lookF_miss fun x hx e' => ?_
      obtain ⟨j, hj, rfl⟩ := List.getElem_of_mem hx
      have hj2 : j < ls.length := by simpa using hj
      by_cases hji : i = j
      · subst hji
        rw [List.getElem_set_self] at e'
        exact e e'.symm
      · rw [List.getElem_set_ne hji] at e'
        exact hex ⟨j, hj2, e'⟩
theorem lastsV_set (ls : List (Nat × Int)) (i a : Nat) (v : Int) : lastsV (ls.set i (a, v)) = (lastsV ls).set i (.int .i64 v) := by unfold lastsV; rw [List.map_set]
theorem labsV_set {ls : List (Nat × Int)} {i a : Nat} (hi : i < ls.length) (ha : ls[i].1 = a) (v : Int) : labsV (ls.set i (a, v)) = labsV ls := by
  unfold labsV
  rw [List.map_set]
  exact set_same (by rw [List.getElem?_map, List.getElem?_eq_getElem hi]; simp [ha])
/-- One number written. -/
theorem RefAt.write {w : World} {p B : Nat} {v1 : Value} {ls : List (Nat × Int)} {g cap i a : Nat} (h : RefAt w p B v1 (.slice (some ⟨g, 0, none⟩) ls.length cap) ls) (hi : i < ls.length) (ha : ls[i].1 = a) (v : Int) (hv : 0 ≤ v ∧ v ≤ 4611686018427387904) :
    RefAt (w.setCell ⟨g, i, none⟩ (.int .i64 v)) p B v1 (.slice (some ⟨g, 0, none⟩) ls.length cap) (ls.set i (a, v)) := by
  obtain ⟨o2, g2⟩ := h.o2.stored i (.int .i64 v)
  have hgp : p ≠ g := fun e => h.d2 (by rw [e]; rfl)
  refine ⟨?_, h.hp, ?_, ?_, h.d1, h.d2, h.d3, ?_, fun x hx => ?_⟩
  · rw [heap_setCell_other w ⟨g, i, none⟩ p _ hgp]; exact h.blk
  · rw [List.length_set, labsV_set hi ha]
    exact h.o1.kept g2 (by
      cases hq : v1.ownBlock with
      | none => exact .inl rfl
      | some g' => exact .inr fun e => h.d3 g' hq e.symm)
  · rw [List.length_set, lastsV_set]; exact o2
  · rw [List.map_set, set_same (by rw [List.getElem?_map, List.getElem?_eq_getElem hi]; simp [ha])]
    exact h.nd
  · rcases List.mem_or_eq_of_mem_set hx with hx | rfl
    · exact h.lo x hx
    · refine ⟨?_, hv⟩
      have := (h.lo _ (List.getElem_mem hi)).1
      rw [ha] at this
      exact this

theorem refNext_full (w : World) (p B : Nat) (v1 v2 : Value) (ls : List (Nat × Int)) (a : Nat) (ha : a < 18446744073709551616) (h : RefAt w p B v1 v2 ls) (hB : B ≤ w.heap.size) (hlen : ls.length < 17592186044415) (hf : lookF ls a = 4611686018427387904) :
    Calls Try.prog 10 #[.pointer (some ⟨p, 0, none⟩), .int .u64 (a : Int)] w fun e w' => e = .returned (.tuple #[.int .i64 0, .int .i64 3]) ∧ Leaves w p B v1 v2 ls (lookF ls) w' := by
  have cA := at_any w p B v1 v2 ls a ha h hB hlen
  have HL := Lib.hid hlen
  have HF := Lib.hid hf
  clear h hlen hf
  go_enter Try.func10, Try.ntmps10
  go_wp2_with fail
  refine cA.mono ?_
  rintro e w' ⟨v1', v2', ls', i, rfl, h', hk, ho, hg, hl, hle⟩
  obtain ⟨hi, e1⟩ := at_get h'.nd hg
  obtain ⟨k0, k1, f0, f1⟩ := cells2 h'.blk
  have H' : Aside _ := h'
  obtain ⟨g, cap, rfl, hgl, hgp, hc, _⟩ := last_cell h' hi
  rw [e1, hl, HF.out] at hc
  obtain ⟨n, hn⟩ : ∃ n, ls'.length = n := ⟨_, rfl⟩
  rw [hn] at k1
  have hi0 : (0 : Int) ≤ (i : Int) := by omega
  have hiI : (i : Int) < (n : Int) := by omega
  have hnn : n < 17592186044416 := by have := HL.out; omega
  have HFIN : Hid (Leaves w p B v1 v2 ls (lookF ls) w') := ⟨_, _, _, H'.out, hk, ho, fun b => by rw [hl], hle⟩
  clear cA h' hk ho hg hl hle e1 hn H'
  go_wp2
  go_ret2
  exact ⟨rfl, HFIN.out⟩
set_option maxRecDepth 100000 in
set_option maxHeartbeats 4000000 in
theorem refNext_go (w : World) (p B : Nat) (v1 v2 : Value) (ls : List (Nat × Int)) (a : Nat) (ha : a < 18446744073709551616) (h : RefAt w p B v1 v2 ls) (hB : B ≤ w.heap.size) (hlen : ls.length < 17592186044415) (hf : lookF ls a ≠ 4611686018427387904) (hlo : 0 ≤ lookF ls a ∧ lookF ls a ≤ 4611686018427387904) :
    Calls Try.prog 10 #[.pointer (some ⟨p, 0, none⟩), .int .u64 (a : Int)] w fun e w' => e = .returned (.tuple #[.int .i64 (lookF ls a + 1), .int .i64 0]) ∧ Leaves w p B v1 v2 ls (upd (lookF ls) a (lookF ls a + 1)) w' := by
  have cA := at_any w p B v1 v2 ls a ha h hB hlen
  have HL := Lib.hid hlen
  obtain ⟨y, hy⟩ : ∃ y, lookF ls a = y := ⟨_, rfl⟩
  rw [hy] at hf hlo ⊢
  have HY := Lib.hid hy
  have hy0 : 0 ≤ y := hlo.1
  have hy1 : y < 4611686018427387904 := by omega
  have hne : (y == 4611686018427387904) = false := beq_false_of_ne hf
  clear h hlen hf hy hlo
  go_enter Try.func10, Try.ntmps10
  go_wp2_with fail
  refine cA.mono ?_
  rintro e w' ⟨v1', v2', ls', i, rfl, h', hk, ho, hg, hl, hle⟩
  obtain ⟨hi, e1⟩ := at_get h'.nd hg
  obtain ⟨k0, k1, f0, f1⟩ := cells2 h'.blk
  obtain ⟨g, cap, rfl, hgl, hgp, hc, hfz⟩ := last_cell h' hi
  have e1' : ls'[i].1 = a := by rw [e1]
  have hwr := h'.write hi e1' (y + 1) ⟨by omega, by omega⟩
  have hls := lookF_set h'.nd hi e1' (y + 1)
  rw [e1, hl, HY.out] at hc
  obtain ⟨n, hn⟩ : ∃ n, ls'.length = n := ⟨_, rfl⟩
  have HFIN : Hid (Leaves w p B v1 v2 ls (upd (lookF ls) a (y + 1)) (w'.setCell ⟨g, i, none⟩ (.int .i64 (y + 1)))) := by
    refine ⟨_, _, _, hwr, hk.set g i _ ?_, ho, fun b => ?_, by simpa using hle⟩
    · exact ho g (.inr (.inr rfl))
    · rw [hls b, hl]
  have HCW : Hid ((w'.setCell ⟨g, i, none⟩ (.int .i64 (y + 1))).cell? ⟨g, i, none⟩ = some (.int .i64 (y + 1))) := by
    have o2 := hwr.o2
    rw [List.length_set] at o2
    have h := o2.cellAt i (by omega)
    rw [lastsV_set, List.getElem?_set_self (by rw [lastsV_len]; exact hi)] at h
    exact h
  rw [hn] at k1
  have hi0 : (0 : Int) ≤ (i : Int) := by omega
  have hiI : (i : Int) < (n : Int) := by omega
  have hnn : n < 17592186044416 := by have := HL.out; omega
  clear cA h' hk ho hg hl hle e1 hn hwr hls e1'
  go_wp2_with fail
  have hS : (fun W : World => W.cell? ⟨p, 1, none⟩ = some (.slice (some ⟨g, 0, none⟩) n cap)) w'.drew := k1
  refine region_ord (fun W : World => W.cell? ⟨p, 1, none⟩ = some (.slice (some ⟨g, 0, none⟩) n cap)) [(0, true), (1, true), (2, true), (3, true), (4, true), (5, true), (6, true), (7, true), (8, true), (9, true), (10, true), (11, false), (12, true), (13, true), (14, false)] (by kernel_rfl) (by kernel_rfl) (by kernel_rfl) (by kernel_rfl) hS ?_
  have HS := Lib.hid hS
  have hwrap : IntKind.i64.wrap (y + 1) = y + 1 := by rw [IntKind.wrap_i64]; omega
  clear hS
  iterate 11 (refine ord_take (v := ?_) rfl (by rfl) ?_ ?_; rotate_left; (focus (intro w hSw; (try dsimp only at hSw); go_simp; (try with_reducible rfl); done)); (try simp (maxSteps := 10000000) only [Act.put, List.setIfInBounds_toArray, List.set_cons_zero, List.set_cons_succ]))
  refine ord_call rfl (by rfl) (fun K hK => ?_)
  unfold Oper.wp
  simp only [execOp, Act.eval]
  go_simp
  refine hK.out _ _ HS.out (fun _ => ?_)
  clear hK
  iterate 2 (refine ord_take (v := ?_) rfl (by rfl) ?_ ?_; rotate_left; (focus (intro w hSw; (try dsimp only at hSw); go_simp; (try with_reducible rfl); done)); (try simp (maxSteps := 10000000) only [Act.put, List.setIfInBounds_toArray, List.set_cons_zero, List.set_cons_succ]))
  refine ord_call rfl (by rfl) (fun K hK => ?_)
  unfold Oper.wp
  simp only [execOp, Act.eval]
  go_simp
  have HS2 : Hid ((w'.setCell ⟨g, i, none⟩ (.int .i64 (y + 1))).drew.cell? ⟨p, 1, none⟩ = some (.slice (some ⟨g, 0, none⟩) n cap)) := by
    have h := World.cell?_of_block (w := w') (w' := w'.setCell ⟨g, i, none⟩ (.int .i64 (y + 1))) (a := ⟨p, 1, none⟩) (heap_setCell_other w' ⟨g, i, none⟩ p _ (fun e => hgp e.symm))
    exact h.trans k1
  have hc2 : (w'.setCell ⟨g, i, none⟩ (.int .i64 (y + 1))).drew.cell? ⟨g, i, none⟩ = some (.int .i64 (y + 1)) := by
    exact HCW.out
  refine hK.out _ _ HS2.out (fun _ => ?_)
  clear hK
  refine ord_end ?_
  have hk2 := HS2.out
  clear hc hfz k0 k1 f0 f1 HS
  go_wp2_with fail
  go_ret2
  exact ⟨rfl, HFIN.out.drew⟩
end Go.Proofs.Ytbcfmckhgjcakaa
