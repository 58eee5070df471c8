/- ident's Next, Last and Copy, by their contracts. -/
import Derived.Test.YtbcfmckhgjcakaaIdNew
namespace Go.Proofs.Ytbcfmckhgjcakaa
open Go Go.RowKit Go.Maps

theorem eqlMap (b : Nat) (w : World) : (binOp .eql 50 (.map (some b)) (.map none)).run Try.prog w = .ok (.bool false) w := by kernel_rfl
theorem next_nil (a : Nat) (w : World) : Calls Try.prog 9 #[.pointer none, .int .u64 a] w fun e w' => e = .returned (.tuple #[.int .i64 0, .int .i64 2]) ∧ w = w' := by
  go_enter Try.func9, Try.ntmps9
  go_wp2
  go_ret2
  exact ⟨rfl, rfl⟩
theorem last_nil (a : Nat) (w : World) : Calls Try.prog 13 #[.pointer none, .int .u64 a] w fun e w' => e = .returned (.int .i64 0) ∧ w = w' := by
  go_enter Try.func13, Try.ntmps13
  go_wp2
  go_ret
  exact ⟨rfl, rfl⟩
theorem last_any (w : World) (p b m : Nat) (f : Nat → Int) (a : Nat) (ha : a < 18446744073709551616) (h : IdsAt w p b m f) :
    Calls Try.prog 13 #[.pointer (some ⟨p, 0, none⟩), .int .u64 a] w fun e w' => e = .returned (.int .i64 (f a)) ∧ w = w' := by
  obtain ⟨D, hown, hcnt⟩ := h.own
  have hat0 := Lib.hid (hcnt.at' a ha)
  have hc := h.cell
  have hkey := lab_key ha
  clear h hcnt
  go_enter Try.func13, Try.ntmps13
  go_wp2_with (at_lookup; refine wpList_lookup_own_int _ rfl _ _ 50 rfl 25 3 .i64 labLaw Try.underlying50 Try.underlying3 (zeroInt _) b m D rfl hown _ _ rfl hkey ?_; intro cv hat hwc; have HAT := Lib.hid hat; clear hat hwc)
  go_ret
  have e2 : cv = f a := by have := HAT.out.symm.trans hat0.out; simpa using this
  exact ⟨retI e2, rfl⟩
theorem next_full (w : World) (p b m : Nat) (f : Nat → Int) (a : Nat) (ha : a < 18446744073709551616) (h : IdsAt w p b m f) (hf : f a = 4611686018427387904) :
    Calls Try.prog 9 #[.pointer (some ⟨p, 0, none⟩), .int .u64 a] w fun e w' => e = .returned (.tuple #[.int .i64 0, .int .i64 3]) ∧ w = w' := by
  obtain ⟨D, hown, hcnt⟩ := h.own
  have hat0 := Lib.hid (hcnt.at' a ha)
  have hc := h.cell
  have hkey := lab_key ha
  have HF := Lib.hid hf
  clear h hcnt hf
  go_enter Try.func9, Try.ntmps9
  go_wp2_with (at_lookup; refine wpList_lookup_own_int _ rfl _ _ 50 rfl 25 3 .i64 labLaw Try.underlying50 Try.underlying3 (zeroInt _) b m D rfl hown _ _ rfl hkey ?_; intro cv hat hwc; have e2 : cv = f a := (by have := hat.symm.trans hat0.out; simpa using this); have hge : (4611686018427387904 : Int) ≤ cv := (by rw [e2, HF.out]; exact Int.le_refl _); clear hat hwc e2)
  go_ret2
  exact ⟨rfl, rfl⟩
set_option maxHeartbeats 1000000 in
theorem next_go (w : World) (p b m : Nat) (f : Nat → Int) (a : Nat) (ha : a < 18446744073709551616) (h : IdsAt w p b m f) (hm : m < maxLen) (hf : f a ≠ 4611686018427387904) :
    Calls Try.prog 9 #[.pointer (some ⟨p, 0, none⟩), .int .u64 a] w fun e w' => e = .returned (.tuple #[.int .i64 (f a + 1), .int .i64 0]) ∧ IdsAt w' p b (m + 1) (upd f a (f a + 1)) ∧ w.grownBy w' (some b) := by
  obtain ⟨D, hown, hcnt⟩ := h.own
  have hat0 := Lib.hid (hcnt.at' a ha)
  have hc := h.cell
  have hkey := lab_key ha
  have hlo := h.lo a
  obtain ⟨v, hv⟩ : ∃ v, f a = v := ⟨_, rfl⟩
  have hput := Lib.hid (hcnt.put a (f a + 1))
  rw [hv] at hlo hf hat0 hput ⊢
  have HV := Lib.hid hv
  have hlt : v < 4611686018427387904 := by omega
  have hv0 : 0 ≤ v := hlo.1
  have hwf : (Lit.int .i64 (v + 1)).wf = true := WalkArith.wf_i64 (by omega)
  have H : Aside _ := h
  have hq := eqlMap b
  clear h hcnt hf hv hlo
  go_enter Try.func9, Try.ntmps9
  go_wp2_with (first
    | (at_lookup; refine wpList_lookup_own_int _ rfl _ _ 50 rfl 25 3 .i64 labLaw Try.underlying50 Try.underlying3 (zeroInt _) b m D rfl hown _ _ rfl hkey ?_; intro cv hat hwc; have e2 : v = cv := (by have := hat.symm.trans hat0.out; simpa using this.symm); subst e2; clear hat hwc)
    | (at_mapUpdate; refine wpList_mapUpdate_own _ rfl _ _ _ 50 rfl 25 3 labLaw Try.underlying50 _ b m D rfl hown hm _ _ (.int .u64 (a : Int)) rfl rfl hkey _ [] (plainElem_int Try.underlying3 hwf) ?_; intro w3 hown3 hgr3))
  go_ret2
  refine ⟨rfl, ⟨Nat.lt_of_lt_of_le H.out.lt hgr3.size, hgr3.cell H.out.cell (by have := H.out.ne; simpa using this), ⟨_, hown3, hput.out⟩, fun a' => ?_⟩, hgr3⟩
  by_cases e : a' = a
  · rw [e, upd_same]; omega
  · rw [upd_other _ _ e]; exact H.out.lo a'
theorem copy_nil (w : World) : Calls Try.prog 11 #[.pointer none] w fun e w' => e = .returned (.pointer none) ∧ w = w' := by
  go_enter Try.func11, Try.ntmps11
  go_wp2
  go_ret
  exact ⟨rfl, rfl⟩
theorem cntHint (n : Int) (w : World) : (Instr.makeMap 50 (some (.int .i64 n))).run Try.prog w = .ok (.map (some w.heap.size)) (w.alloc (.map #[] 0)) := by
  simp [Instr.makeMap, asInt, asIntOf, Sem.run_bind, run_underlying Try.underlying50]
set_option maxRecDepth 100000 in
set_option maxHeartbeats 1000000 in
theorem copy_any (w : World) (p b m : Nat) (f : Nat → Int) (h : IdsAt w p b m f) (hm : m ≤ maxLen) :
    Calls Try.prog 11 #[.pointer (some ⟨p, 0, none⟩)] w fun e w' => Below w.heap.size w w' ∧ ∃ p' b', e = .returned (.pointer (some ⟨p', 0, none⟩)) ∧ w.heap.size ≤ p' ∧ w.heap.size ≤ b' ∧ IdsAt w' p' b' m f := by
  obtain ⟨D0, hown, hcnt⟩ := h.own
  have hsz : Maps.size D0 ≤ m := hown.size_le
  have hmax : Maps.size D0 ≤ maxLen := by omega
  have hc := h.cell
  have hp := h.lt
  have hbl := hown.lt
  have HLO : Aside _ := h.lo
  have HCNT : Aside _ := hcnt
  have hmk := cntHint
  have e1 : (w.alloc (.map #[] 0)).heap.size = w.heap.size + 1 := by simp
  have c1 : (w.alloc (.map #[] 0)).cell? ⟨p, 0, none⟩ = some (.map (some b)) := (World.cell?_alloc_some w _ _ (by rw [hc]; rfl)).trans hc
  clear h hcnt
  go_enter Try.func11, Try.ntmps11
  go_wp2_with (first
    | (at_len; refine wpList_len_own _ rfl _ 50 rfl 25 3 Try.underlying50 _ b m D0 rfl hown ?_)
    | (at_range; refine wpList_range_own _ rfl _ 50 rfl 25 3 labLaw Try.underlying50 _ b m _ rfl (hown.alloc _) ?_; intro w0 hrg0 hg0 hs0))
  go_frame
  rw [e1] at hrg0 hs0 ⊢
  go_loopw [4, 5] (fun _ _ wr => ∃ (left : Lit → Bool) (cnt : Nat) (Dout : DataW Unit), wr.ranges Try.prog 25 (plainElem Try.prog 3) b (w.heap.size + 1) m D0 left cnt ∧ cnt ≤ Maps.size D0 ∧
      wr.ownsMap Try.prog 25 (plainElem Try.prog 3) w.heap.size (Maps.size D0 - cnt) Dout ∧ Agree Dout D0 left ∧ Below w.heap.size w wr ∧ w.heap.size + 2 ≤ wr.heap.size)
    (fun _ _ wr => wr.rangeLeft b (w.heap.size + 1))
  case atStart =>
    exact ⟨_, _, .map [], hrg0, Nat.le_refl _, ((World.ownsMap_made _ _ _ _).kept hg0 (by simp)).mono (Nat.zero_le _), agree_start D0, ((Below.refl _ _).alloc (Nat.le_refl _) _).grown hg0 (by simp) (fun j hj => by cases hj), by omega⟩
  case round =>
    obtain ⟨left, cnt, Dout, hrg, hcs, hout, hA, hnx, hw2⟩ := hrel
    have HA : Aside _ := hA
    have HN := Lib.hid hnx
    clear hA hnx hmk
    go_wp2_with (first
      | (at_next; refine wpList_next_ranges_ii _ rfl _ rfl 25 3 .u64 .i64 labLaw Try.underlying25 Try.underlying3 b (w.heap.size + 1) m _ _ _ rfl hrg ?_ ?_))
    · intro hc0 hl0
      have e := agree_end HA.out hl0 (hout.canon labLaw) (hown.canon labLaw)
      have HO := Lib.hid hout
      subst hc0
      rw [e] at HO
      clear hout hl0 e
      go_wp2
      go_ret
      refine ⟨HN.out.alloc (by omega) _, _, _, rfl, by omega, Nat.le_refl _, ?_⟩
      exact ⟨by simp, by rw [World.cell?_alloc_mark]; rfl, ⟨_, (HO.out.alloc _).mono (by omega), HCNT.out⟩, HLO.out⟩
    · intro x c w1 cnt1 hwx hwc hlx hat hrg1 hlt hg1 hs1 hen
      have hout1 := hout.kept hg1 (by simp)
      have HAT : Aside _ := hat
      have HLX := Lib.hid hlx
      clear hat hlx
      go_wp2_with (first
        | (at_mapUpdate; refine wpList_mapUpdate_own _ rfl _ _ _ 50 rfl 25 3 labLaw Try.underlying50 _ w.heap.size _ _ rfl hout1 (by omega) _ _ _ rfl rfl (keyOf_int_mk Try.underlying25 hwx) _ [] (plainElem_int Try.underlying3 hwc) ?_; intro w2 hout2 hg2; go_frame))
      have hrg2 := hrg1.kept hg2 (fun e => by have := Option.some.inj e; omega) (fun e => by have := Option.some.inj e; omega)
      have hsz2 := hg2.size
      go_roundw
      case rel =>
        exact ⟨_, cnt1, _, hrg2, by omega, hout2.mono (by omega), agree_step HA.out hout.isMap trivial HAT.out,
          (HN.out.grown hg1 HN.out.size (fun j hj => by cases hj; exact Nat.le_succ _)).grown hg2 (by have := HN.out.size; omega) (fun j hj => by cases hj; exact Nat.le_refl _), by omega⟩
      case measure => rw [hrg2.left_eq, hrg.left_eq]; exact hlt
end Go.Proofs.Ytbcfmckhgjcakaa
