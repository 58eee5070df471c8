/- ident's Next, Last and Copy, by their contracts. -/
import Derived.Test.YtbcfmckhgjcakaaDoorIdNew
namespace Go.Proofs.YtbcfmckhgjcakaaDoor
open Go Go.RowKit Go.Maps

theorem eqlMap (b : Nat) (w : World) : (binOp .eql 58 (.map (some b)) (.map none)).run Tryd.prog w = .ok (.bool false) w := by kernel_rfl
theorem next_nil (a : Nat) (w : World) : Calls Tryd.prog 13 #[.pointer none, .int .u64 a] w fun e w' => e = .returned (.tuple #[.int .i64 0, .int .i64 2]) ∧ w = w' := by
  go_enter Tryd.func13, Tryd.ntmps13
  go_wp2
  go_ret2
  exact ⟨rfl, rfl⟩
theorem last_nil (a : Nat) (w : World) : Calls Tryd.prog 12 #[.pointer none, .int .u64 a] w fun e w' => e = .returned (.int .i64 0) ∧ w = w' := by
  go_enter Tryd.func12, Tryd.ntmps12
  go_wp2
  go_ret
  exact ⟨rfl, rfl⟩
set_option maxRecDepth 100000 in
theorem last_any (w : World) (p b m : Nat) (f : Nat → Int) (a : Nat) (ha : a < 18446744073709551616) (h : IdsAt w p b m f) :
    Calls Tryd.prog 12 #[.pointer (some ⟨p, 0, none⟩), .int .u64 a] w fun e w' => e = .returned (.int .i64 (f a)) ∧ w = w' := by
  obtain ⟨D, hown, hcnt⟩ := h.own
  have hat0 := Lib.hid (hcnt.at' a ha)
  have hc := h.cell
  have hkey := lab_key ha
  clear h hcnt
  go_enter Tryd.func12, Tryd.ntmps12
  go_wp2_with (at_lookup; refine wpList_lookup_own_int _ rfl _ _ 58 rfl 23 3 .i64 labLaw Tryd.underlying58 Tryd.underlying3 (zeroInt _) b m D rfl hown _ _ rfl hkey ?_; intro cv hat hwc; have HAT := Lib.hid hat; clear hat hwc)
  go_ret
  have e2 : cv = f a := by have := HAT.out.symm.trans hat0.out; simpa using this
  exact ⟨retI e2, rfl⟩
set_option maxRecDepth 100000 in
theorem next_full (w : World) (p b m : Nat) (f : Nat → Int) (a : Nat) (ha : a < 18446744073709551616) (h : IdsAt w p b m f) (hf : f a = 4611686018427387904) :
    Calls Tryd.prog 13 #[.pointer (some ⟨p, 0, none⟩), .int .u64 a] w fun e w' => e = .returned (.tuple #[.int .i64 0, .int .i64 3]) ∧ w = w' := by
  obtain ⟨D, hown, hcnt⟩ := h.own
  have hat0 := Lib.hid (hcnt.at' a ha)
  have hc := h.cell
  have hkey := lab_key ha
  have HF := Lib.hid hf
  clear h hcnt hf
  go_enter Tryd.func13, Tryd.ntmps13
  go_wp2_with (at_lookup; refine wpList_lookup_own_int _ rfl _ _ 58 rfl 23 3 .i64 labLaw Tryd.underlying58 Tryd.underlying3 (zeroInt _) b m D rfl hown _ _ rfl hkey ?_; intro cv hat hwc; have e2 : cv = f a := (by have := hat.symm.trans hat0.out; simpa using this); have hge : (4611686018427387904 : Int) ≤ cv := (by rw [e2, HF.out]; exact Int.le_refl _); clear hat hwc e2)
  go_ret2
  exact ⟨rfl, rfl⟩
set_option maxRecDepth 100000 in
set_option maxHeartbeats 1000000 in
theorem next_go (w : World) (p b m : Nat) (f : Nat → Int) (a : Nat) (ha : a < 18446744073709551616) (h : IdsAt w p b m f) (hm : m < maxLen) (hf : f a ≠ 4611686018427387904) :
    Calls Tryd.prog 13 #[.pointer (some ⟨p, 0, none⟩), .int .u64 a] w fun e w' => e = .returned (.tuple #[.int .i64 (f a + 1), .int .i64 0]) ∧ IdsAt w' p b (m + 1) (upd f a (f a + 1)) ∧ w.grownBy w' (some b) := by
  obtain ⟨D, hown, hcnt⟩ := h.own
  have hat0 := Lib.hid (hcnt.at' a ha)
  have hc := h.cell
  have hkey := lab_key ha
  have hlo := h.lo a
  obtain ⟨v, hv⟩ : ∃ v, f a = v := ⟨_, rfl⟩
  have hput := Lib.hid (hcnt.put a (f a + 1))
  rw [hv] at hlo hf hat0 hput ⊢
  have HV := Lib.hid hv
  have hlt : v < 4611686018427387904 := by omega
  have hv0 : 0 ≤ v := hlo.1
  have hwf : (Lit.int .i64 (v + 1)).wf = true := WalkArith.wf_i64 (by omega)
  have H : Aside _ := h
  have hq := eqlMap b
  clear h hcnt hf hv hlo
  go_enter Tryd.func13, Tryd.ntmps13
  go_wp2_with (first
    | (at_lookup; refine wpList_lookup_own_int _ rfl _ _ 58 rfl 23 3 .i64 labLaw Tryd.underlying58 Tryd.underlying3 (zeroInt _) b m D rfl hown _ _ rfl hkey ?_; intro cv hat hwc; have e2 : v = cv := (by have := hat.symm.trans hat0.out; simpa using this.symm); subst e2; clear hat hwc)
    | (at_mapUpdate; refine wpList_mapUpdate_own _ rfl _ _ _ 58 rfl 23 3 labLaw Tryd.underlying58 _ b m D rfl hown hm _ _ (.int .u64 (a : Int)) rfl rfl hkey _ [] (plainElem_int Tryd.underlying3 hwf) ?_; intro w3 hown3 hgr3))
  go_ret2
  refine ⟨rfl, ⟨Nat.lt_of_lt_of_le H.out.lt hgr3.size, hgr3.cell H.out.cell (by have := H.out.ne; simpa using this), ⟨_, hown3, hput.out⟩, fun a' => ?_⟩, hgr3⟩
  by_cases e : a' = a
  · rw [e, upd_same]; omega
  · rw [upd_other _ _ e]; exact H.out.lo a'
end Go.Proofs.YtbcfmckhgjcakaaDoor
