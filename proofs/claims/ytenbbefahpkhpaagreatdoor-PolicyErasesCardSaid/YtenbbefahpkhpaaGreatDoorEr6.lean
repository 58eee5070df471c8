/- Texts of the proof, merged: PoWorks, PoFit, PoHas, PoErasesP, RegOrd, ErDefs. -/
import Derived.Test.YtenbbefahpkhpaaGreatDoorEr4
import Derived.Test.YtenbbefahpkhpaaGreatDoorEr5
import Derived.Laws.IdiomStrings
import Derived.Deep.LoopGhost
import Derived.Deep.RegionHeld3
import Derived.RowKit
/- scrimlaw03.works, by its contract. -/
namespace Go.Proofs.YtenbbefahpkhpaaGreatDoor
open Go Go.RowKit Go.Maps

def bobN : List UInt8 := [98, 111, 98]
def annN : List UInt8 := [97, 110, 110]
def lw : List Vw := [⟨bobN, 8⟩, ⟨annN, 0⟩]
def lr : List Vw := [⟨annN, 0⟩, ⟨bobN, 8⟩]
theorem lw_ok : okL lw := by decide
theorem lr_ok : okL lr := by decide
theorem lr_rising : Rising lr := by unfold Rising lr; decide
theorem lw_sort : sortV lw = lr := sortV_of_perm lr_rising (List.Perm.swap _ _ _)
theorem lr_lo : Lo64 lr := fun x hx => by
  simp only [lr, List.mem_cons, List.not_mem_nil, or_false] at hx
  rcases hx with rfl | rfl <;> decide
theorem lw_fit : Fit64 lw := fun x hx => by
  simp only [lw, List.mem_cons, List.not_mem_nil, or_false] at hx
  rcases hx with rfl | rfl
  · exact ⟨by decide, by unfold maxLen; simp [bobN]⟩
  · exact ⟨by decide, by unfold maxLen; simp [annN]⟩
def lrText : List UInt8 := [97, 110, 110, 32, 45, 10, 98, 111, 98, 32, 51, 10]
theorem lr_print : printL lr = lrText := by
  have h : textN 8 = [51] := by
    unfold textN
    rw [if_neg (by decide), show listTo 8 64 = [3] by decide +kernel, List.map_cons, List.map_nil, Lib.join_one, dec_lt 3 (by decide)]
    decide +kernel
  have h0 : textN 0 = [45] := rfl
  unfold printL lr
  simp only [List.map_cons, List.map_nil, lineOf, h, h0]
  rfl
theorem lr_spells : Spells (printL lr) lr := ⟨lr_ok, lr_rising, lr_lo, rfl⟩
theorem lw_row (w : World) (T : TypeId) : VwRow (w.alloc (.cells #[.string ⟨#[98, 111, 98]⟩, .int .u64 8, .string ⟨#[97, 110, 110]⟩, .int .u64 0] T)) (some ⟨w.heap.size, 0, none⟩) lw := fun i hi => by
  have h2 : i < 2 := hi
  refine ⟨w.heap.size, 0, rfl, by simp, ?_⟩
  rcases (by omega : i = 0 ∨ i = 1) with rfl | rfl
  · refine ⟨?_, ?_⟩ <;> (rw [World.cell?_alloc_mark]; rfl)
  · refine ⟨?_, ?_⟩ <;> (rw [World.cell?_alloc_mark]; rfl)

set_option maxRecDepth 100000 in
set_option maxHeartbeats 4000000 in
theorem works_pol (w : World) (hM : MaxS w) (hT : BTab w) (hE : EvW w) : Calls Tryz.prog 8 #[] w fun e w' => e = .returned (.bool true) ∧ Below w.heap.size w w' := by
  have cN := fun T => new_any _ (some ⟨w.heap.size, 0, none⟩) 2 2 lw rfl (by unfold maxLen; omega) (lw_row w T) lw_fit
  have HM := Lib.hid hM; have HT := Lib.hid hT; have HE := Lib.hid hE
  clear hM hT hE
  go_enter Tryz.func8, Tryz.ntmps8
  go_wp2_with fail
  refine (cN _).mono ?_
  rintro e w1 ⟨hb1, ⟨_, v1, rfl, hp1, a, rfl⟩ | ⟨hno, _⟩⟩
  rotate_left
  · exact absurd lw_ok hno
  rw [lw_sort] at hp1
  have hbw : Below w.heap.size w w1 := ((Below.refl _ w).alloc (Nat.le_refl _) _).trans (hb1.mono (by simp))
  have c1 := clearance_any _ lr ⟨#[98, 111, 98]⟩ w1 hp1 (by unfold maxLen; simp [ByteArray.size])
  have e1 : clrV lr (⟨#[98, 111, 98]⟩ : ByteArray).data.toList = .tuple #[.int .u64 8, .int .i64 0] := by
    have hl : look lr bobN = some 8 := by decide
    show clrV lr bobN = _
    unfold clrV; rw [hl]; rfl
  rw [e1] at c1
  have c2 := print_any _ lr w1 hp1 (HT.out.below hbw)
  have HP : Aside _ := hp1
  clear cN hb1 hp1 e1
  go_wp2_with (first
    | (go_at_call 9; refine c1.mono ?_; rintro e w' ⟨rfl, rfl⟩)
    | (go_at_call 14; refine c2.mono ?_; rintro e w2 ⟨rfl, hb2⟩))
  have hbw2 := hbw.trans (hb2.mono hbw.size)
  have hp2 := PolAt.later HP.out hb2
  have c3 := parse_pol (bs (printL lr)) w2 (by rw [bs_size]; have := print_le lr_ok; omega) (HM.out.below hbw2) (HT.out.below hbw2) (HE.out.below hbw2)
  rw [bs_list] at c3
  have HP2 : Aside _ := hp2
  clear c1 c2 HP hp2 hb2
  refine c3.mono ?_
  rintro e w3 ⟨hb3, ⟨aq, lq, rfl, hq3, hsp⟩ | ⟨hno, _⟩⟩
  rotate_left
  · exact absurd ⟨lr, lr_spells⟩ hno
  have hlq : lq = lr := spells_one hsp lr_spells
  subst hlq
  have hbw3 := hbw2.trans (hb3.mono hbw2.size)
  have hp3 := PolAt.later HP2.out hb3
  have HQ3 : Aside _ := hq3
  have HP3 : Aside _ := hp3
  have c4 := viewers_any _ lr w3 hp3
  unfold GivesVw at c4
  have hl2 : lr.length = 2 := rfl
  rw [hl2] at c4
  clear c3 HP2 hp3 hq3 hsp hb3 hl2
  go_wp2_with (first | (go_at_call 10; refine c4.mono ?_; rintro e w4 ⟨hb4, p4, k4, rfl, _, _⟩))
  have hbw4 := hbw3.trans (hb4.mono hbw3.size)
  have hp4 := PolAt.later HP3.out hb4
  have c5 := polAbove_any _ lr 8 w4 hp4 (by decide)
  unfold GivesNm at c5
  have hl1 : (names (lr.filter fun x => belowB 8 x.c)).length = 1 := by decide
  rw [hl1] at c5
  have HP4 : Aside _ := hp4
  have HQ4 : Aside _ := PolAt.later HQ3.out hb4
  clear c4 HP3 HQ3 hb4 hp4 hl1
  go_wp2_with (first | (go_at_call 13; refine c5.mono ?_; rintro e w5 ⟨hb5, p5, k5, rfl, _, _⟩))
  have hbw5 := hbw4.trans (hb5.mono hbw4.size)
  have hp5 := PolAt.later HP4.out hb5
  have c6 := print_any _ lr w5 hp5 (HT.out.below hbw5)
  rw [lr_print] at c6
  have HP5 : Aside _ := hp5
  have HQ5 : Aside _ := PolAt.later HQ4.out hb5
  clear c5 HP4 HQ4 hb5 hp5
  have heq : ((bs lrText).toList == (⟨#[97, 110, 110, 32, 45, 10, 98, 111, 98, 32, 51, 10]⟩ : ByteArray).toList) = true := by decide +kernel
  have heq2 : ((bs lrText).toList == [97, 110, 110, 32, 45, 10, 98, 111, 98, 32, 51, 10]) = true := by decide +kernel
  have tok : True := trivial
  obtain ⟨tx, htx⟩ : ∃ tx, bs lrText = tx := ⟨_, rfl⟩
  rw [htx] at c6 heq heq2
  have HTX := Lib.hid htx
  clear htx
  go_wp2_with (first | (go_at_call 14; have _t := tok; refine c6.mono ?_; rintro e w6 ⟨rfl, hb6⟩; clear tok) | fail)
  have hbw6 := hbw5.trans (hb6.mono hbw5.size)
  have c7 := print_any _ lr w6 (PolAt.later HQ5.out hb6) (HT.out.below hbw6)
  rw [lr_print, HTX.out] at c7
  have HP6 : Aside _ := PolAt.later HP5.out hb6
  clear c6 HP5 HQ5 hb6
  refine c7.mono ?_
  rintro e w7 ⟨rfl, hb7⟩
  have hbw7 := hbw6.trans (hb7.mono hbw6.size)
  have c8 := print_any _ lr w7 (PolAt.later HP6.out hb7) (HT.out.below hbw7)
  rw [lr_print, HTX.out] at c8
  clear c7 HP6 hb7
  go_wp2_with fail
  refine c8.mono ?_
  rintro e w8 ⟨rfl, hb8⟩
  have hbw8 := hbw7.trans (hb8.mono hbw7.size)
  have hsame : (tx.toList == tx.toList) = true := by simp
  clear c8 hb8
  go_wp2_with fail
  go_ret
  exact ⟨rfl, hbw8⟩
end Go.Proofs.YtenbbefahpkhpaaGreatDoor
/- scrimlaw03.fit, by its contract. -/
namespace Go.Proofs.YtenbbefahpkhpaaGreatDoor
open Go Go.RowKit Go.Maps

/-- A list of labels that a slice points to. -/
def LabRow (w : World) (p : Option Addr) (cs : List Nat) : Prop := ∀ i (h : i < cs.length), ∃ b off, p = some ⟨b, off, none⟩ ∧ b < w.heap.size ∧ w.cell? ⟨b, off + i, none⟩ = some (.int .u64 cs[i])
theorem LabRow.at {w : World} {p : Option Addr} {cs : List Nat} (h : LabRow w p cs) (i : Nat) (hi : i < cs.length) : ∃ b off, p = some ⟨b, off, none⟩ ∧ b < w.heap.size ∧ ∀ W, Below w.heap.size w W → W.cell? ⟨b, off + i, none⟩ = some (.int .u64 cs[i]) := by
  obtain ⟨b, off, e, hlt, hc⟩ := h i hi
  exact ⟨b, off, e, hlt, fun W hb => (hb.cell (p := ⟨b, off + i, none⟩) hlt).trans hc⟩
theorem LabRow.later {w W : World} {p : Option Addr} {cs : List Nat} (h : LabRow w p cs) (hb : Below w.heap.size w W) : LabRow W p cs := fun i hi => by
  obtain ⟨b, off, e, hlt, hc⟩ := h i hi
  exact ⟨b, off, e, Nat.lt_of_lt_of_le hlt hb.size, (hb.cell (p := ⟨b, off + i, none⟩) hlt).trans hc⟩
/-- The i-th name. -/
def nameF (i : Nat) : List UInt8 := [UInt8.ofNat (97 + i % 26), UInt8.ofNat (97 + i / 26)]
def fitTo (cs : List Nat) (k : Nat) : List Vw := (List.range k).map fun i => ⟨nameF i, cs.getD i 0⟩
def fitL (cs : List Nat) : List Vw := fitTo cs (min cs.length 64)
theorem fitTo_len (cs : List Nat) (k : Nat) : (fitTo cs k).length = k := by simp [fitTo]
theorem fitTo_step (cs : List Nat) (k : Nat) (h : k < cs.length) : fitTo cs (k + 1) = fitTo cs k ++ [⟨nameF k, cs[k]⟩] := by
  unfold fitTo
  rw [List.range_succ, List.map_append]
  simp [List.getD_eq_getElem?_getD, List.getElem?_eq_getElem h]
theorem names_fit (cs : List Nat) (k : Nat) : names (fitTo cs k) = (List.range k).map nameF := by
  unfold names fitTo
  rw [List.map_map]; rfl
theorem nameF_nodup : ((List.range 64).map nameF).Nodup := by decide +kernel
theorem nameF_ok : ∀ i : Fin 64, nameL (nameF i.val) = true := by decide +kernel
theorem fit_ok (cs : List Nat) (k : Nat) (hk : k ≤ 64) : okL (fitTo cs k) := by
  refine ⟨by rw [fitTo_len]; exact hk, ?_, fun x hx => ?_⟩
  · rw [names_fit]
    exact nameF_nodup.sublist ((List.range_sublist.2 hk).map _)
  · unfold fitTo at hx
    obtain ⟨i, hi, rfl⟩ := List.mem_map.1 hx
    exact nameF_ok ⟨i, by have := List.mem_range.1 hi; omega⟩
theorem fit_lo (cs : List Nat) (k : Nat) (h : ∀ c ∈ cs, c < 18446744073709551616) : Lo64 (fitTo cs k) := fun x hx => by
  unfold fitTo at hx
  obtain ⟨i, _, rfl⟩ := List.mem_map.1 hx
  show cs.getD i 0 < _
  rw [List.getD_eq_getElem?_getD]
  cases e : cs[i]? with
  | none => decide
  | some c => exact h c (List.mem_of_getElem? e)
theorem fit_text (W : World) (b k : Nat) (hk : k < 64) (h0 : W.cell? ⟨b, 0, none⟩ = some (.int .u8 (97 + ((k % 26 : Nat) : Int)))) (h1 : W.cell? ⟨b, 1, none⟩ = some (.int .u8 (97 + ((k / 26 : Nat) : Int)))) :
    (convert 68 9 (.slice (some ⟨b, 0, none⟩) 2 2)).run Tryz.prog W = .ok (.string (bs (nameF k))) W := by
  refine run_convert_bytes_back (P := Tryz.prog) _ 68 9 5 ⟨b, 0, none⟩ 2 (nameF k) Tryz.underlying68 Tryz.underlying5 Tryz.underlying9 (fun j hj => ?_)
  have e1 : (UInt8.ofNat (97 + k % 26)).toNat = 97 + k % 26 := by rw [UInt8.toNat_ofNat']; omega
  have e2 : (UInt8.ofNat (97 + k / 26)).toNat = 97 + k / 26 := by rw [UInt8.toNat_ofNat']; omega
  rcases (by have : j < 2 := hj; omega : j = 0 ∨ j = 1) with rfl | rfl
  · rw [show (⟨b, 0, none⟩ : Addr).add 0 = ⟨b, 0, none⟩ from rfl, h0]
    show some (Value.int .u8 (97 + ((k % 26 : Nat) : Int))) = some (Value.int .u8 ((UInt8.ofNat (97 + k % 26)).toNat : Int))
    rw [e1]; simp
  · rw [show (⟨b, 0, none⟩ : Addr).add 1 = ⟨b, 1, none⟩ from rfl, h1]
    show some (Value.int .u8 (97 + ((k / 26 : Nat) : Int))) = some (Value.int .u8 ((UInt8.ofNat (97 + k / 26)).toNat : Int))
    rw [e2]; simp
theorem fit_conv (w : World) (k : Nat) (hk : k < 64) :
    (convert 68 9 (.slice (some ⟨w.heap.size, 0, none⟩) 2 2)).run Tryz.prog (w.alloc (.cells #[.int .u8 (IntKind.u8.wrap (IntKind.i64.wrap (97 + (k : Int) % 26))), .int .u8 (IntKind.u8.wrap (IntKind.i64.wrap (97 + IntKind.i64.wrap ((k : Int) / 26))))] 5)).drew = .ok (.string (bs (nameF k))) (w.alloc (.cells #[.int .u8 (IntKind.u8.wrap (IntKind.i64.wrap (97 + (k : Int) % 26))), .int .u8 (IntKind.u8.wrap (IntKind.i64.wrap (97 + IntKind.i64.wrap ((k : Int) / 26))))] 5)).drew := by
  have e1 : IntKind.u8.wrap (IntKind.i64.wrap (97 + (k : Int) % 26)) = 97 + ((k % 26 : Nat) : Int) := by rw [IntKind.wrap_i64, IntKind.wrap_u8]; omega
  have e2 : IntKind.u8.wrap (IntKind.i64.wrap (97 + IntKind.i64.wrap ((k : Int) / 26))) = 97 + ((k / 26 : Nat) : Int) := by rw [IntKind.wrap_i64, IntKind.wrap_i64, IntKind.wrap_u8]; omega
  rw [e1, e2]
  refine fit_text _ _ k hk ?_ ?_
  · show (w.alloc _).cell? _ = _
    rw [World.cell?_alloc_mark]; rfl
  · show (w.alloc _).cell? _ = _
    rw [World.cell?_alloc_mark]; rfl
theorem cells_two (w : World) (x y : Value) (T : TypeId) : ∀ j u, [x, y][j]? = some u → (w.alloc (.cells #[x, y] T)).cell? ((⟨w.heap.size, 0, none⟩ : Addr).add j) = some u := by
  intro j u hj
  match j, hj with
  | 0, hj => simp at hj; subst hj; simp [Addr.add]
  | 1, hj => simp at hj; subst hj; simp [Addr.add]

theorem cells_two2 (w : World) (o : Obj) (x y : Value) (T : TypeId) : ∀ j u, [x, y][j]? = some u → ((w.alloc o).alloc (.cells #[x, y] T)).drew.cell? ((⟨w.heap.size + 1, 0, none⟩ : Addr).add j) = some u := by
  intro j u hj
  have h := cells_two (w.alloc o) x y T j u hj
  rw [show (w.alloc o).heap.size = w.heap.size + 1 by simp] at h
  exact h

set_option maxRecDepth 100000 in
set_option maxHeartbeats 4000000 in
theorem fit_any (w : World) (p : Option Addr) (n c : Nat) (cs : List Nat) (hn : cs.length = n) (hr : LabRow w p cs) :
    Calls Tryz.prog 18 #[.slice p n c] w (GivesVw w (fitL cs)) := by
  obtain ⟨i0, hi, hz0, hz1, hz2⟩ := info_parts vwInfo
  have HN := Lib.hid hn
  clear hn
  go_enter Tryz.func18, Tryz.ntmps18
  go_wp2
  go_loopg [3, 4] (64 - 0) (fun g u vi wr => ∃ k : Nat, k + g = 64 ∧ k ≤ n ∧ vi = .int .i64 k ∧ Below w.heap.size w wr ∧ Hid (wr.ownsRow w.heap.size 40 2 u k (flat (fitTo cs k))))
  case atStart => exact ⟨0, by omega, by omega, rfl, Below.refl _ _, World.ownsRow_nil _ _ _ _⟩
  case round =>
    obtain ⟨k, hk, hkn, rfl, hbr, HO⟩ := hrel
    have hsr := hbr.size
    by_cases hlt : k < n
    · by_cases h64 : k < 64
      · have hlt' : k < cs.length := by rw [HN.out]; exact hlt
        obtain ⟨b1, o1, rfl, hb1, h1c⟩ := hr.at k hlt'
        have g1 := h1c wr hbr
        have g0 := h1c w (Below.refl _ _)
        have hst := Lib.hid (fitTo_step cs k hlt')
        generalize cs[k] = y at *
        have cT := fit_conv wr k h64
        have e1 : Int.tmod (k : Int) 26 = ((k % 26 : Nat) : Int) := by rw [Int.tmod_eq_emod_of_nonneg (by omega)]; omega
        have e2 : Int.tdiv (k : Int) 26 = ((k / 26 : Nat) : Int) := by rw [Int.tdiv_eq_ediv_of_nonneg (by omega)]; omega
        have hk0 : (0 : Int) ≤ (k : Int) := by omega
        have hkI : (k : Int) < (n : Int) := by omega
        have h64I : (k : Int) < 64 := by omega
        have ho0 := HO.out
        have HB := Lib.hid hbr
        have G0 := Lib.hid g0
        clear h1c HO hbr g0
        go_wp2_with fail
        have gA : ∀ o, (wr.alloc o).cell? ⟨b1, o1 + k, none⟩ = some (.int .u64 y) := fun o => (World.cell?_alloc_some wr _ o (by rw [g1]; rfl)).trans g1
        go_region_law (first | (refine step_append_own rfl _ _ 29 rfl w.heap.size 40 i0 (.agg #[.string ⟨#[]⟩, .int .u64 0]) 2 24 Tryz.underlying29 hi hz0 hz1 hz2 rfl (by decide) _ k _ rfl ((ho0.alloc _).alloc _) ⟨wr.heap.size + 1, 0, none⟩ 1 1 [.string (bs (nameF k)), .int .u64 y] rfl rfl (by exact cells_two2 wr _ _ _ _) (by simp [Value.oneCell']) (by unfold maxLen; omega) (by omega) (by simp; omega) ?_; intro u' w3 hown' hgr'; have hB3 : Below w.heap.size w w3 := ((HB.out.alloc hsr _).alloc (by simp; omega) _).drew.grown hgr' (by simp; omega) (fun g hg => (ho0.lt g hg).1)))
        all_goals
          have HO2 : Hid (w3.ownsRow w.heap.size 40 2 u' (k + 1) (flat (fitTo cs (k + 1)))) := by
            show w3.ownsRow _ _ _ _ _ _
            rw [hst.out, flat_snoc]; exact hown'
          clear hown' hgr' ho0 cT
          go_wp2_with fail
          go_roundg (gk - 1)
        all_goals first
          | exact ⟨k + 1, by omega, by omega, by go_num, hB3, HO2⟩
          | omega
      · have hk64 : k = 64 := by omega
        have HB := Lib.hid hbr
        have hmin : fitL cs = fitTo cs k := by unfold fitL; rw [HN.out, Nat.min_eq_right (by omega), hk64]
        have HM := Lib.hid hmin
        clear hbr hmin
        go_wp2_with fail
        go_ret
        obtain ⟨p1, c1, hu, hrow⟩ := vw_owned (fitTo_len cs k) HO.out
        have ho := HO.out
        refine ⟨HB.out, p1, c1, ?_, ?_, ?_⟩
        · rw [HM.out, fitTo_len, hu]; rfl
        · rw [HM.out]; exact hrow
        · rw [HM.out, fitTo_len, ← hu]; exact ho
    · have hkn' : k = n := by omega
      have HB := Lib.hid hbr
      have hmin : fitL cs = fitTo cs k := by unfold fitL; rw [HN.out, Nat.min_eq_left (by omega), hkn']
      have HM := Lib.hid hmin
      clear hbr hmin
      go_wp2_with fail
      go_ret
      obtain ⟨p1, c1, hu, hrow⟩ := vw_owned (fitTo_len cs k) HO.out
      have ho := HO.out
      refine ⟨HB.out, p1, c1, ?_, ?_, ?_⟩
      · rw [HM.out, fitTo_len, hu]; rfl
      · rw [HM.out]; exact hrow
      · rw [HM.out, fitTo_len, ← hu]; exact ho
end Go.Proofs.YtenbbefahpkhpaaGreatDoor
/- scrimlaw03.same and has, by their contracts. -/
namespace Go.Proofs.YtenbbefahpkhpaaGreatDoor
open Go Go.RowKit

theorem bs_beq (x y : List UInt8) : ((bs x).toList == (bs y).toList) = (x == y) := by rw [ByteArray.toList_eq, ByteArray.toList_eq, bs_list, bs_list]

set_option maxRecDepth 100000 in
set_option maxHeartbeats 2000000 in
theorem has_any (w : World) (p : Option Addr) (n c : Nat) (ns : List (List UInt8)) (s : List UInt8) (hn : ns.length = n) (h64 : n ≤ 64) (hr : NmRow w p ns) :
    Calls Tryz.prog 25 #[.slice p n c, .string (bs s)] w fun e w' => e = .returned (.bool (decide (s ∈ ns))) ∧ w = w' := by
  have HN := Lib.hid hn
  have hhit := Lib.hid (fun (k : Nat) (h : k < ns.length) (e : ns[k] = s) => (show decide (s ∈ ns) = true from decide_eq_true (e ▸ List.getElem_mem h)))
  have hall := Lib.hid (fun (h : ∀ k (h : k < ns.length), ns[k] ≠ s) => (show decide (s ∈ ns) = false from decide_eq_false (fun hm => by
    obtain ⟨k, hk, e⟩ := List.getElem_of_mem hm
    exact h k hk e)))
  obtain ⟨res, hres⟩ : ∃ b, decide (s ∈ ns) = b := ⟨_, rfl⟩
  rw [hres] at hhit hall ⊢
  clear hn hres
  go_enter Tryz.func25, Tryz.ntmps25
  go_wp2
  go_loopg [5] n (fun g vi wr => ∃ k : Nat, k + g = n ∧ vi = .int .i64 k ∧ w = wr ∧ Hid (∀ j (h : j < ns.length), j < k → ns[j] ≠ s))
  case atStart => exact ⟨0, by omega, rfl, rfl, fun j _ h => absurd h (Nat.not_lt_zero _)⟩
  case round =>
    obtain ⟨k, hk, rfl, rfl, HO⟩ := hrel
    by_cases hlt : k < n
    · have hlt' : k < ns.length := by rw [HN.out]; exact hlt
      obtain ⟨b1, o1, rfl, h1c⟩ := hr.at k hlt'
      have g1 := h1c _ (Below.refl _ _)
      have hh := Lib.hid (hhit.out k hlt')
      have hnx := Lib.hid (fun (e : ns[k] ≠ s) j (h : j < ns.length) (hj : j < k + 1) => (show ns[j] ≠ s from by
        by_cases e' : j = k
        · subst e'; exact e
        · exact HO.out j h (by omega)))
      generalize ns[k] = t at *
      have hbb := bs_beq t s
      have hk0 : (0 : Int) ≤ (k : Int) := by omega
      have hkI : (k : Int) < (n : Int) := by omega
      clear h1c hhit hall HO
      by_cases e : t = s
      · have hr1 := hh.out e
        rw [beq_iff_eq.2 e] at hbb
        subst hr1
        clear hh hnx e
        go_wp2_with fail
        go_ret
        exact ⟨rfl, rfl⟩
      · rw [beq_false_of_ne e] at hbb
        have hnx' := Lib.hid (hnx.out e)
        clear hh hnx e
        go_wp2_with fail
        go_roundg (gk - 1)
        case rel => exact ⟨k + 1, by omega, by go_num, rfl, fun j h hj => hnx'.out j h hj⟩
        case measure => omega
    · obtain rfl : k = n := by omega
      have hr1 := hall.out fun j h => HO.out j h (by have := HN.out; omega)
      subst hr1
      clear hhit hall HO
      go_wp2_with fail
      go_ret
      exact ⟨rfl, rfl⟩

set_option maxRecDepth 100000 in
set_option maxHeartbeats 2000000 in
theorem same_any (w : World) (p q : Option Addr) (n c d : Nat) (xs : List Vw) (hn : xs.length = n) (h64 : n ≤ 64) (hp : VwRow w p xs) (hq : VwRow w q xs) :
    Calls Tryz.prog 24 #[.slice p n c, .slice q n d] w fun e w' => e = .returned (.bool true) ∧ Below w.heap.size w w' := by
  have HN := Lib.hid hn
  clear hn
  go_enter Tryz.func24, Tryz.ntmps24
  go_wp2
  go_loopg [5] n (fun g vi wr => ∃ k : Nat, k + g = n ∧ vi = .int .i64 k ∧ Below w.heap.size w wr)
  case atStart => exact ⟨0, by omega, rfl, Below.refl _ _⟩
  case round =>
    obtain ⟨k, hk, rfl, hbr⟩ := hrel
    by_cases hlt : k < n
    · have hlt' : k < xs.length := by rw [HN.out]; exact hlt
      obtain ⟨b1, o1, rfl, _, h1c⟩ := hp.at k hlt'
      obtain ⟨b2, o2, rfl, _, h2c⟩ := hq.at k hlt'
      obtain ⟨g1, g2⟩ := h1c wr hbr
      obtain ⟨g3, g4⟩ := h2c wr hbr
      generalize xs[k] = x at *
      have hk0 : (0 : Int) ≤ (k : Int) := by omega
      have hkI : (k : Int) < (n : Int) := by omega
      have HB := Lib.hid hbr
      clear h1c h2c hbr
      go_wp2_with fail
      go_quiet (fail)
      go_wp2
      go_roundg (gk - 1)
      case rel => exact ⟨k + 1, by omega, by go_num, below_drewN' HB.out _⟩
      case measure => omega
    · obtain rfl : k = n := by omega
      go_wp2_with fail
      go_ret
      exact ⟨rfl, hbr⟩
end Go.Proofs.YtenbbefahpkhpaaGreatDoor
/- What is asked of a policy about one of its viewers: by contract. -/
namespace Go.Proofs.YtenbbefahpkhpaaGreatDoor
open Go Go.RowKit Go.Maps

theorem vw_one {L : List Vw} (hn : (names L).Nodup) {x y : Vw} (hx : x ∈ L) (hy : y ∈ L) (e : x.s = y.s) : x = y := by
  have h1 := look_mem hn hx
  have h2 := look_mem hn hy
  rw [e, h2] at h1
  injection h1 with h1
  cases x; cases y
  simp_all
theorem named {L : List Vw} (hn : (names L).Nodup) {x : Vw} (hx : x ∈ L) (p : Vw → Bool) : decide (x.s ∈ names (L.filter p)) = p x := by
  cases h : p x with
  | true => exact decide_eq_true (List.mem_map_of_mem (List.mem_filter.2 ⟨hx, h⟩))
  | false =>
    refine decide_eq_false fun hm => ?_
    obtain ⟨y, hy, e⟩ := List.mem_map.1 hm
    obtain ⟨hy1, hy2⟩ := List.mem_filter.1 hy
    have := vw_one hn hy1 hx e
    rw [this, h] at hy2; cases hy2
theorem clr_filter {L : List Vw} (hn : (names L).Nodup) {x : Vw} (hx : x ∈ L) (p : Vw → Bool) : clrV (L.filter p) x.s = if p x then .tuple #[.int .u64 x.c, .int .i64 0] else .tuple #[.int .u64 0, .int .i64 160] := by
  have hd := named hn hx p
  unfold clrV
  cases h : p x with
  | true =>
    have hn' : (names (L.filter p)).Nodup := hn.sublist (List.filter_sublist.map _)
    rw [look_mem hn' (List.mem_filter.2 ⟨hx, h⟩)]; rfl
  | false =>
    rw [h] at hd
    rw [look_none (of_decide_eq_false hd)]; rfl
/-- A call tells names; is the viewer's among them? -/
def Asked (f : Nat) (args : Array Value) (s : List UInt8) (b : Bool) (W0 : World) : Prop := ∃ ns : List (List UInt8), (∀ W, Below W0.heap.size W0 W → Calls Tryz.prog f args W (GivesNm W ns)) ∧
  ∀ W q k, NmRow W q ns → Calls Tryz.prog 25 #[.slice q ns.length k, .string (bs s)] W fun e w' => e = .returned (.bool b) ∧ W = w'
theorem asked_of {f : Nat} {args : Array Value} {W0 : World} {L : List Vw} {x : Vw} {p : Vw → Bool} (hok : okL L) (hx : x ∈ L) (h : ∀ W, Below W0.heap.size W0 W → Calls Tryz.prog f args W (GivesNm W (names (L.filter p)))) : Asked f args x.s (p x) W0 :=
  ⟨_, h, fun W q k hr => by
    have := has_any W q _ k _ x.s rfl (by have := (okL_filter hok p).1; simpa [names] using this) hr
    rw [named hok.2.1 hx p] at this
    exact this⟩
theorem asked_below {W0 : World} {v : Value} {L : List Vw} {x : Vw} (hp : PolAt W0 v L) (hx : x ∈ L) (c : Nat) (hc : c < 18446744073709551616) : Asked 12 #[v, .int .u64 c] x.s (belowB x.c c) W0 :=
  asked_of (p := fun y => belowB y.c c) hp.ok hx fun W hb => polBelow_any v L c W (hp.later hb) hc
theorem asked_above {W0 : World} {v : Value} {L : List Vw} {x : Vw} (hp : PolAt W0 v L) (hx : x ∈ L) (c : Nat) (hc : c < 18446744073709551616) : Asked 13 #[v, .int .u64 c] x.s (belowB c x.c) W0 :=
  asked_of (p := fun y => belowB c y.c) hp.ok hx fun W hb => polAbove_any v L c W (hp.later hb) hc
theorem below_self (a : Nat) : belowB a a = true := (below_iff a a).2 fun _ _ h => h
theorem below_and (a c d : Nat) : belowB a (c &&& d) = (belowB a c && belowB a d) := by
  rw [Bool.eq_iff_iff, Bool.and_eq_true, below_iff, below_iff, below_iff]
  constructor
  · intro h
    exact ⟨fun i hi ha => by have := h i hi ha; rw [Nat.testBit_and, Bool.and_eq_true] at this; exact this.1, fun i hi ha => by have := h i hi ha; rw [Nat.testBit_and, Bool.and_eq_true] at this; exact this.2⟩
  · rintro ⟨h1, h2⟩ i hi ha
    rw [Nat.testBit_and, h1 i hi ha, h2 i hi ha]; rfl
theorem below_or (c d a : Nat) (h : belowB (c ||| d) a = true) : belowB c a = true := by
  rw [below_iff] at h ⊢
  exact fun i hi hc => h i hi (by rw [Nat.testBit_or, hc]; rfl)
theorem erase_twice (L : List Vw) (c d : Nat) : (L.filter fun x => belowB x.c c).filter (fun x => belowB x.c d) = L.filter fun x => belowB x.c (c &&& d) := by
  rw [List.filter_filter]
  apply List.filter_congr
  intro x _
  rw [below_and, Bool.and_comm]
theorem andNot_zero (a b : Nat) (ha : a < 18446744073709551616) (hb : b < 18446744073709551616) : (bits .andNot .u64 (a : Int) (b : Int) == 0) = belowB a b := by
  rw [u64_andNot_nat a b ha hb]
  exact less_zero a b ha hb
end Go.Proofs.YtenbbefahpkhpaaGreatDoor
/- A region that draws its order, walked once, in an order that is told: what yields in every world that meets S is taken first; a call is taken when nothing else may come up. No program. -/
namespace Go.Proofs.YtenbbefahpkhpaaGreatDoor
open Go Go.RowKit

section
variable {P : Program} {l : List Oper} {Q : Exit → Act → World → Prop} {S : World → Prop}

/-- The operation at a place. -/
def opL : List Oper → Nat → Option Oper
  | [], _ => none
  | o :: _, 0 => some o
  | _ :: r, n + 1 => opL r n
theorem opL_get : ∀ (l : List Oper) (i : Nat), opL l i = l[i]?
  | [], i => by simp [opL]
  | o :: r, 0 => by simp [opL]
  | o :: r, n + 1 => by rw [opL, opL_get r n]; simp
/-- The walk in the order that is told. -/
def wpOrd (P : Program) (l : List Oper) (Q : Exit → Act → World → Prop) (S : World → Prop) : List (Nat × Bool) → Act → World → Prop
  | [], a, w => Q .normal a w
  | (i, true) :: r, a, w => ∃ o v, opL l i = some o ∧ YieldsIf P l.toArray S o v a ∧ wpOrd P l Q S r (a.put o.dst v) w
  | (i, false) :: r, a, w => ∃ o, opL l i = some o ∧ ∀ K : Act → World → Prop, Shut (∀ a' w', S w' → (S w' → wpOrd P l Q S r a' w') → K a' w') → if Region.wanted o (yielded l.toArray a.tmps) = true then Oper.wp P o a w K Q else K (a.put o.dst undef) w
/-- May the order be so? -/
def ordB (l : List Oper) : List (Nat × Bool) → Array Bool → Bool
  | [], listed => (Region.ready .any l.toArray listed).isEmpty
  | (i, true) :: r, listed => Region.free .any l.toArray listed i && (Region.ready .any l.toArray listed).contains i && ordB l r (listed.setIfInBounds i true)
  | (i, false) :: r, listed => decide (Region.ready .any l.toArray listed = [i]) && ordB l r (listed.setIfInBounds i true)

theorem ord_any (hs : Region.noSelect l.toArray = true) (hQ : ∀ c (a : Act) d v w, Q (.panic c) (a.put d v) w → Q (.panic c) a w) : ∀ (ord : List (Nat × Bool)) (listed : Array Bool) (a : Act) (w : World),
    ordB l ord listed = true → S w → wpOrd P l Q S ord a w → wpAnyH P .any l.toArray Q S ord.length listed a w
  | [], listed, a, w, hB, _, h => wpAnyH_done (by simpa [ordB] using hB) h _
  | (i, true) :: r, listed, a, w, hB, hS, h => by
    simp only [ordB, Bool.and_eq_true] at hB
    obtain ⟨⟨hf, hr⟩, hB'⟩ := hB
    obtain ⟨o, v, ho, hy, hr'⟩ := h
    have hi : l.toArray[i]? = some o := by rw [List.getElem?_toArray, ← opL_get]; exact ho
    exact wpAnyH_take hi hs hf hr (fun c a w h => hQ c a _ _ w h) hy hS (ord_any hs hQ r _ _ _ hB' hS hr')
  | (i, false) :: r, listed, a, w, hB, hS, h => by
    simp only [ordB, Bool.and_eq_true, decide_eq_true_eq] at hB
    obtain ⟨hr, hB'⟩ := hB
    obtain ⟨o, ho, h⟩ := h
    have hi : l.toArray[i]? = some o := by rw [List.getElem?_toArray, ← opL_get]; exact ho
    refine wpAnyH_ready hr (by simp) (AllReadyH.cons hi (fun K hK => h K ?_) AllReadyH.nil)
    exact fun a' w' hS' hw' => hK.out a' w' hS' (fun hS'' => ord_any hs hQ r _ _ _ hB' hS'' (hw' hS''))
/-- The region, in the order that is told. (That nothing panics is shown on the way.) -/
theorem region_ord (S : World → Prop) (ord : List (Nat × Bool)) {id : Nat} {a : Act} {w : World} (hm : P.follows .mixedOrders = true) (hs : Region.noSelect l.toArray = true) (hlen : ord.length = l.length) (hB : ordB l ord (Array.replicate l.length false) = true)
    (hS : S w.drew) (h : wpOrd P l (NoPanic Q) S ord a w.drew) : (Code.region id l.toArray true).wp P Q a w := by
  refine wp_region_noPanic (wp_region_held_drew hm hS fun hS' => ?_)
  have := ord_any hs (fun _ _ _ _ _ h => h) ord (Array.replicate l.length false) a w.drew hB hS' h
  rw [hlen] at this
  simpa using this
theorem ord_take {i : Nat} {r : List (Nat × Bool)} {a : Act} {w : World} {o : Oper} {v : Value} (ho : opL l i = some o) (hw : Region.wanted o (yielded l.toArray a.tmps) = true) (hv : ∀ w, S w → (execOp a.eval o).run P w = .ok (.value v) w) (h : wpOrd P l Q S r (a.put o.dst v) w) : wpOrd P l Q S ((i, true) :: r) a w :=
  ⟨o, v, ho, .inl ⟨hw, hv⟩, h⟩
theorem ord_skip {i : Nat} {r : List (Nat × Bool)} {a : Act} {w : World} {o : Oper} (ho : opL l i = some o) (hw : Region.wanted o (yielded l.toArray a.tmps) = false) (h : wpOrd P l Q S r (a.put o.dst undef) w) : wpOrd P l Q S ((i, true) :: r) a w :=
  ⟨o, undef, ho, .inr ⟨hw, rfl⟩, h⟩
theorem ord_call {i : Nat} {r : List (Nat × Bool)} {a : Act} {w : World} {o : Oper} (ho : opL l i = some o) (hw : Region.wanted o (yielded l.toArray a.tmps) = true) (h : ∀ K : Act → World → Prop, Shut (∀ a' w', S w' → (S w' → wpOrd P l Q S r a' w') → K a' w') → Oper.wp P o a w K Q) : wpOrd P l Q S ((i, false) :: r) a w :=
  ⟨o, ho, fun K hK => by rw [if_pos hw]; exact h K hK⟩
theorem ord_end {a : Act} {w : World} (h : Q .normal a w) : wpOrd P l (NoPanic Q) S [] a w := NoPanic.normal h
end
end Go.Proofs.YtenbbefahpkhpaaGreatDoor
/- The two drawn regions of PolicyErases, as the program has them; the orders in which they are walked. -/
namespace Go.Proofs.YtenbbefahpkhpaaGreatDoor
open Go Go.RowKit

/-- What stands while one viewer is looked at: its name's cell; nothing of before is written. -/
def Stay (w0 : World) (b o : Nat) (s : List UInt8) (W : World) : Prop := W.cell? ⟨b, o, none⟩ = some (.string (bs s)) ∧ Below w0.heap.size w0 W
theorem Stay.later {w0 W W' : World} {b o : Nat} {s : List UInt8} (h : Stay w0 b o s W) (hb : Below W.heap.size W W') : Stay w0 b o s W' :=
  ⟨(hb.cell (p := ⟨b, o, none⟩) (World.block_lt_of_cell? W _ h.1)).trans h.1, h.2.trans (hb.mono h.2.size)⟩
set_option maxRecDepth 100000 in
def er18 : List Oper := ({ dst := some 97, op := Op.move (Operand.tmp 16), type := 26, pos := "outright.go:115", after := #[], guard := none } :: { dst := some 98, op := Op.binOp BinOp.eql 26 (Operand.tmp 97) (Operand.const (Value.int IntKind.i64 0)) 26, type := 4, pos := "outright.go:115", after := #[{ on := 0, ground := Ground.data }], guard := none } :: { dst := some 99, op := Op.move (Operand.tmp 17), type := 4, pos := "outright.go:115", after := #[], guard := none } :: { dst := some 100, op := Op.binOp BinOp.neq 4 (Operand.tmp 98) (Operand.tmp 99) 4, type := 4, pos := "outright.go:115", after := #[{ on := 1, ground := Ground.data }, { on := 2, ground := Ground.data }], guard := none } :: { dst := some 101, op := Op.move (Operand.tmp 100), type := 4, pos := "outright.go:115", after := #[{ on := 3, ground := Ground.data }], guard := none } :: { dst := some 102, op := Op.move (Operand.tmp 17), type := 4, pos := "outright.go:115", after := #[{ on := 4, ground := Ground.guard }], guard := some (4, false) } :: { dst := some 103, op := Op.move (Operand.tmp 102), type := 4, pos := "outright.go:115", after := #[{ on := 5, ground := Ground.data }, { on := 4, ground := Ground.chain }, { on := 4, ground := Ground.guard }], guard := some (4, false) } :: { dst := some 104, op := Op.move (Operand.tmp 15), type := 25, pos := "outright.go:115", after := #[{ on := 6, ground := Ground.guard }], guard := some (6, true) } :: { dst := some 105, op := Op.move (Operand.tmp 14), type := 25, pos := "outright.go:115", after := #[{ on := 6, ground := Ground.guard }], guard := some (6, true) } :: { dst := some 106, op := Op.binOp BinOp.neq 25 (Operand.tmp 104) (Operand.tmp 105) 25, type := 4, pos := "outright.go:115", after := #[{ on := 7, ground := Ground.data }, { on := 8, ground := Ground.data }, { on := 6, ground := Ground.guard }], guard := some (6, true) } :: { dst := some 107, op := Op.pick (Operand.tmp 103) (Operand.tmp 106) (Operand.const (Value.bool false)), type := 4, pos := "outright.go:115", after := #[{ on := 6, ground := Ground.data }, { on := 9, ground := Ground.data }, { on := 4, ground := Ground.guard }], guard := some (4, false) } :: { dst := some 108, op := Op.pick (Operand.tmp 101) (Operand.const (Value.bool true)) (Operand.tmp 107), type := 4, pos := "outright.go:115", after := #[{ on := 4, ground := Ground.data }, { on := 10, ground := Ground.data }], guard := none } :: { dst := some 109, op := Op.move (Operand.tmp 108), type := 4, pos := "outright.go:115", after := #[{ on := 11, ground := Ground.data }, { on := 6, ground := Ground.chain }], guard := none } :: { dst := some 110, op := Op.move (Operand.tmp 8), type := 23, pos := "outright.go:115", after := #[{ on := 12, ground := Ground.guard }], guard := some (12, false) } :: { dst := some 111, op := Op.move (Operand.tmp 1), type := 25, pos := "outright.go:115", after := #[{ on := 12, ground := Ground.guard }], guard := some (12, false) } :: { dst := some 112, op := Op.call { callee := Callee.value (Operand.func 12), args := #[Operand.tmp 110, Operand.tmp 111], argTypes := #[23, 25] }, type := 33, pos := "outright.go:115", after := #[{ on := 13, ground := Ground.data }, { on := 14, ground := Ground.data }, { on := 12, ground := Ground.chain }, { on := 12, ground := Ground.guard }], guard := some (12, false) } :: { dst := some 113, op := Op.move (Operand.tmp 7), type := 29, pos := "outright.go:115", after := #[{ on := 12, ground := Ground.guard }], guard := some (12, false) } :: { dst := some 114, op := Op.move (Operand.tmp 13), type := 3, pos := "outright.go:115", after := #[{ on := 12, ground := Ground.guard }], guard := some (12, false) } :: { dst := some 115, op := Op.indexAddr 29 (Operand.tmp 113) (Operand.tmp 114), type := 0, pos := "outright.go:115", after := #[{ on := 16, ground := Ground.data }, { on := 17, ground := Ground.data }, { on := 12, ground := Ground.guard }], guard := some (12, false) } :: { dst := some 116, op := Op.fieldAddr 40 (Operand.tmp 115) 0, type := 0, pos := "outright.go:115", after := #[{ on := 18, ground := Ground.data }, { on := 12, ground := Ground.guard }], guard := some (12, false) } :: { dst := some 117, op := Op.load 9 (Operand.tmp 116), type := 9, pos := "outright.go:115", after := #[{ on := 19, ground := Ground.data }, { on := 12, ground := Ground.guard }], guard := some (12, false) } :: { dst := some 118, op := Op.call { callee := Callee.value (Operand.func 25), args := #[Operand.tmp 112, Operand.tmp 117], argTypes := #[33, 9] }, type := 4, pos := "outright.go:115", after := #[{ on := 15, ground := Ground.data }, { on := 20, ground := Ground.data }, { on := 15, ground := Ground.chain }, { on := 12, ground := Ground.guard }], guard := some (12, false) } :: { dst := some 119, op := Op.move (Operand.tmp 17), type := 4, pos := "outright.go:115", after := #[{ on := 12, ground := Ground.guard }], guard := some (12, false) } :: { dst := some 120, op := Op.binOp BinOp.neq 4 (Operand.tmp 118) (Operand.tmp 119) 4, type := 4, pos := "outright.go:115", after := #[{ on := 21, ground := Ground.data }, { on := 22, ground := Ground.data }, { on := 12, ground := Ground.guard }], guard := some (12, false) } :: { dst := some 121, op := Op.pick (Operand.tmp 109) (Operand.const (Value.bool true)) (Operand.tmp 120), type := 4, pos := "outright.go:115", after := #[{ on := 12, ground := Ground.data }, { on := 23, ground := Ground.data }], guard := none } :: { dst := some 122, op := Op.move (Operand.tmp 121), type := 4, pos := "outright.go:115", after := #[{ on := 24, ground := Ground.data }, { on := 21, ground := Ground.chain }], guard := none } :: { dst := some 123, op := Op.move (Operand.tmp 8), type := 23, pos := "outright.go:115", after := #[{ on := 25, ground := Ground.guard }], guard := some (25, false) } :: { dst := some 124, op := Op.move (Operand.tmp 1), type := 25, pos := "outright.go:115", after := #[{ on := 25, ground := Ground.guard }], guard := some (25, false) } :: { dst := some 125, op := Op.call { callee := Callee.value (Operand.func 13), args := #[Operand.tmp 123, Operand.tmp 124], argTypes := #[23, 25] }, type := 33, pos := "outright.go:115", after := #[{ on := 26, ground := Ground.data }, { on := 27, ground := Ground.data }, { on := 25, ground := Ground.chain }, { on := 25, ground := Ground.guard }], guard := some (25, false) } :: { dst := some 126, op := Op.move (Operand.tmp 7), type := 29, pos := "outright.go:115", after := #[{ on := 25, ground := Ground.guard }], guard := some (25, false) } :: { dst := some 127, op := Op.move (Operand.tmp 13), type := 3, pos := "outright.go:115", after := #[{ on := 25, ground := Ground.guard }], guard := some (25, false) } :: { dst := some 128, op := Op.indexAddr 29 (Operand.tmp 126) (Operand.tmp 127), type := 0, pos := "outright.go:115", after := #[{ on := 29, ground := Ground.data }, { on := 30, ground := Ground.data }, { on := 25, ground := Ground.guard }], guard := some (25, false) } :: { dst := some 129, op := Op.fieldAddr 40 (Operand.tmp 128) 0, type := 0, pos := "outright.go:115", after := #[{ on := 31, ground := Ground.data }, { on := 25, ground := Ground.guard }], guard := some (25, false) } :: { dst := some 130, op := Op.load 9 (Operand.tmp 129), type := 9, pos := "outright.go:115", after := #[{ on := 32, ground := Ground.data }, { on := 25, ground := Ground.guard }], guard := some (25, false) } :: { dst := some 131, op := Op.call { callee := Callee.value (Operand.func 25), args := #[Operand.tmp 125, Operand.tmp 130], argTypes := #[33, 9] }, type := 4, pos := "outright.go:115", after := #[{ on := 28, ground := Ground.data }, { on := 33, ground := Ground.data }, { on := 28, ground := Ground.chain }, { on := 25, ground := Ground.guard }], guard := some (25, false) } :: { dst := some 132, op := Op.move (Operand.tmp 1), type := 25, pos := "outright.go:115", after := #[{ on := 25, ground := Ground.guard }], guard := some (25, false) } :: { dst := some 133, op := Op.move (Operand.tmp 14), type := 25, pos := "outright.go:115", after := #[{ on := 25, ground := Ground.guard }], guard := some (25, false) } :: { dst := some 134, op := Op.binOp BinOp.andNot 25 (Operand.tmp 132) (Operand.tmp 133) 25, type := 25, pos := "outright.go:115", after := #[{ on := 35, ground := Ground.data }, { on := 36, ground := Ground.data }, { on := 25, ground := Ground.guard }], guard := some (25, false) } :: { dst := some 135, op := Op.binOp BinOp.eql 25 (Operand.tmp 134) (Operand.const (Value.int IntKind.u64 0)) 25, type := 4, pos := "outright.go:115", after := #[{ on := 37, ground := Ground.data }, { on := 25, ground := Ground.guard }], guard := some (25, false) } :: { dst := some 136, op := Op.binOp BinOp.neq 4 (Operand.tmp 131) (Operand.tmp 135) 4, type := 4, pos := "outright.go:115", after := #[{ on := 34, ground := Ground.data }, { on := 38, ground := Ground.data }, { on := 25, ground := Ground.guard }], guard := some (25, false) } :: { dst := some 137, op := Op.pick (Operand.tmp 122) (Operand.const (Value.bool true)) (Operand.tmp 136), type := 4, pos := "outright.go:115", after := #[{ on := 25, ground := Ground.data }, { on := 39, ground := Ground.data }], guard := none } :: { dst := some 138, op := Op.move (Operand.tmp 137), type := 4, pos := "outright.go:115", after := #[{ on := 40, ground := Ground.data }, { on := 34, ground := Ground.chain }], guard := none } :: { dst := some 139, op := Op.move (Operand.tmp 8), type := 23, pos := "outright.go:115", after := #[{ on := 41, ground := Ground.guard }], guard := some (41, false) } :: { dst := some 140, op := Op.move (Operand.tmp 14), type := 25, pos := "outright.go:115", after := #[{ on := 41, ground := Ground.guard }], guard := some (41, false) } :: { dst := some 141, op := Op.call { callee := Callee.value (Operand.func 12), args := #[Operand.tmp 139, Operand.tmp 140], argTypes := #[23, 25] }, type := 33, pos := "outright.go:115", after := #[{ on := 42, ground := Ground.data }, { on := 43, ground := Ground.data }, { on := 41, ground := Ground.chain }, { on := 41, ground := Ground.guard }], guard := some (41, false) } :: { dst := some 142, op := Op.move (Operand.tmp 7), type := 29, pos := "outright.go:115", after := #[{ on := 41, ground := Ground.guard }], guard := some (41, false) } :: { dst := some 143, op := Op.move (Operand.tmp 13), type := 3, pos := "outright.go:115", after := #[{ on := 41, ground := Ground.guard }], guard := some (41, false) } :: { dst := some 144, op := Op.indexAddr 29 (Operand.tmp 142) (Operand.tmp 143), type := 0, pos := "outright.go:115", after := #[{ on := 45, ground := Ground.data }, { on := 46, ground := Ground.data }, { on := 41, ground := Ground.guard }], guard := some (41, false) } :: { dst := some 145, op := Op.fieldAddr 40 (Operand.tmp 144) 0, type := 0, pos := "outright.go:115", after := #[{ on := 47, ground := Ground.data }, { on := 41, ground := Ground.guard }], guard := some (41, false) } :: { dst := some 146, op := Op.load 9 (Operand.tmp 145), type := 9, pos := "outright.go:115", after := #[{ on := 48, ground := Ground.data }, { on := 41, ground := Ground.guard }], guard := some (41, false) } :: { dst := some 147, op := Op.call { callee := Callee.value (Operand.func 25), args := #[Operand.tmp 141, Operand.tmp 146], argTypes := #[33, 9] }, type := 4, pos := "outright.go:115", after := #[{ on := 44, ground := Ground.data }, { on := 49, ground := Ground.data }, { on := 44, ground := Ground.chain }, { on := 41, ground := Ground.guard }], guard := some (41, false) } :: { dst := some 148, op := Op.unOp UnOp.not 4 (Operand.tmp 147), type := 4, pos := "outright.go:115", after := #[{ on := 50, ground := Ground.data }, { on := 41, ground := Ground.guard }], guard := some (41, false) } :: { dst := some 149, op := Op.pick (Operand.tmp 138) (Operand.const (Value.bool true)) (Operand.tmp 148), type := 4, pos := "outright.go:115", after := #[{ on := 41, ground := Ground.data }, { on := 51, ground := Ground.data }], guard := none } :: { dst := some 150, op := Op.move (Operand.tmp 149), type := 4, pos := "outright.go:115", after := #[{ on := 52, ground := Ground.data }, { on := 50, ground := Ground.chain }], guard := none } :: { dst := some 151, op := Op.move (Operand.tmp 8), type := 23, pos := "outright.go:115", after := #[{ on := 53, ground := Ground.guard }], guard := some (53, false) } :: { dst := some 152, op := Op.move (Operand.tmp 14), type := 25, pos := "outright.go:115", after := #[{ on := 53, ground := Ground.guard }], guard := some (53, false) } :: { dst := some 153, op := Op.call { callee := Callee.value (Operand.func 13), args := #[Operand.tmp 151, Operand.tmp 152], argTypes := #[23, 25] }, type := 33, pos := "outright.go:115", after := #[{ on := 54, ground := Ground.data }, { on := 55, ground := Ground.data }, { on := 53, ground := Ground.chain }, { on := 53, ground := Ground.guard }], guard := some (53, false) } :: { dst := some 154, op := Op.move (Operand.tmp 7), type := 29, pos := "outright.go:115", after := #[{ on := 53, ground := Ground.guard }], guard := some (53, false) } :: { dst := some 155, op := Op.move (Operand.tmp 13), type := 3, pos := "outright.go:115", after := #[{ on := 53, ground := Ground.guard }], guard := some (53, false) } :: { dst := some 156, op := Op.indexAddr 29 (Operand.tmp 154) (Operand.tmp 155), type := 0, pos := "outright.go:115", after := #[{ on := 57, ground := Ground.data }, { on := 58, ground := Ground.data }, { on := 53, ground := Ground.guard }], guard := some (53, false) } :: { dst := some 157, op := Op.fieldAddr 40 (Operand.tmp 156) 0, type := 0, pos := "outright.go:115", after := #[{ on := 59, ground := Ground.data }, { on := 53, ground := Ground.guard }], guard := some (53, false) } :: { dst := some 158, op := Op.load 9 (Operand.tmp 157), type := 9, pos := "outright.go:115", after := #[{ on := 60, ground := Ground.data }, { on := 53, ground := Ground.guard }], guard := some (53, false) } :: { dst := some 159, op := Op.call { callee := Callee.value (Operand.func 25), args := #[Operand.tmp 153, Operand.tmp 158], argTypes := #[33, 9] }, type := 4, pos := "outright.go:115", after := #[{ on := 56, ground := Ground.data }, { on := 61, ground := Ground.data }, { on := 56, ground := Ground.chain }, { on := 53, ground := Ground.guard }], guard := some (53, false) } :: { dst := some 160, op := Op.unOp UnOp.not 4 (Operand.tmp 159), type := 4, pos := "outright.go:115", after := #[{ on := 62, ground := Ground.data }, { on := 53, ground := Ground.guard }], guard := some (53, false) } :: { dst := some 161, op := Op.pick (Operand.tmp 150) (Operand.const (Value.bool true)) (Operand.tmp 160), type := 4, pos := "outright.go:115", after := #[{ on := 53, ground := Ground.data }, { on := 63, ground := Ground.data }], guard := none } :: [])
set_option maxRecDepth 100000 in
def er20 : List Oper := ({ dst := some 162, op := Op.move (Operand.tmp 8), type := 23, pos := "outright.go:118", after := #[], guard := none } :: { dst := some 163, op := Op.move (Operand.tmp 1), type := 25, pos := "outright.go:118", after := #[], guard := none } :: { dst := some 164, op := Op.move (Operand.tmp 2), type := 25, pos := "outright.go:118", after := #[], guard := none } :: { dst := some 165, op := Op.binOp BinOp.or 25 (Operand.tmp 163) (Operand.tmp 164) 25, type := 25, pos := "outright.go:118", after := #[{ on := 1, ground := Ground.data }, { on := 2, ground := Ground.data }], guard := none } :: { dst := some 166, op := Op.call { callee := Callee.value (Operand.func 13), args := #[Operand.tmp 162, Operand.tmp 165], argTypes := #[23, 25] }, type := 33, pos := "outright.go:118", after := #[{ on := 0, ground := Ground.data }, { on := 3, ground := Ground.data }], guard := none } :: { dst := some 167, op := Op.move (Operand.tmp 7), type := 29, pos := "outright.go:118", after := #[], guard := none } :: { dst := some 168, op := Op.move (Operand.tmp 13), type := 3, pos := "outright.go:118", after := #[], guard := none } :: { dst := some 169, op := Op.indexAddr 29 (Operand.tmp 167) (Operand.tmp 168), type := 0, pos := "outright.go:118", after := #[{ on := 5, ground := Ground.data }, { on := 6, ground := Ground.data }], guard := none } :: { dst := some 170, op := Op.fieldAddr 40 (Operand.tmp 169) 0, type := 0, pos := "outright.go:118", after := #[{ on := 7, ground := Ground.data }], guard := none } :: { dst := some 171, op := Op.load 9 (Operand.tmp 170), type := 9, pos := "outright.go:118", after := #[{ on := 8, ground := Ground.data }], guard := none } :: { dst := some 172, op := Op.call { callee := Callee.value (Operand.func 25), args := #[Operand.tmp 166, Operand.tmp 171], argTypes := #[33, 9] }, type := 4, pos := "outright.go:118", after := #[{ on := 4, ground := Ground.data }, { on := 9, ground := Ground.data }, { on := 4, ground := Ground.chain }], guard := none } :: { dst := some 173, op := Op.move (Operand.tmp 172), type := 4, pos := "outright.go:118", after := #[{ on := 10, ground := Ground.data }, { on := 10, ground := Ground.chain }], guard := none } :: { dst := some 174, op := Op.move (Operand.tmp 8), type := 23, pos := "outright.go:118", after := #[{ on := 11, ground := Ground.guard }], guard := some (11, true) } :: { dst := some 175, op := Op.move (Operand.tmp 1), type := 25, pos := "outright.go:118", after := #[{ on := 11, ground := Ground.guard }], guard := some (11, true) } :: { dst := some 176, op := Op.call { callee := Callee.value (Operand.func 13), args := #[Operand.tmp 174, Operand.tmp 175], argTypes := #[23, 25] }, type := 33, pos := "outright.go:118", after := #[{ on := 12, ground := Ground.data }, { on := 13, ground := Ground.data }, { on := 11, ground := Ground.chain }, { on := 11, ground := Ground.guard }], guard := some (11, true) } :: { dst := some 177, op := Op.move (Operand.tmp 7), type := 29, pos := "outright.go:118", after := #[{ on := 11, ground := Ground.guard }], guard := some (11, true) } :: { dst := some 178, op := Op.move (Operand.tmp 13), type := 3, pos := "outright.go:118", after := #[{ on := 11, ground := Ground.guard }], guard := some (11, true) } :: { dst := some 179, op := Op.indexAddr 29 (Operand.tmp 177) (Operand.tmp 178), type := 0, pos := "outright.go:118", after := #[{ on := 15, ground := Ground.data }, { on := 16, ground := Ground.data }, { on := 11, ground := Ground.guard }], guard := some (11, true) } :: { dst := some 180, op := Op.fieldAddr 40 (Operand.tmp 179) 0, type := 0, pos := "outright.go:118", after := #[{ on := 17, ground := Ground.data }, { on := 11, ground := Ground.guard }], guard := some (11, true) } :: { dst := some 181, op := Op.load 9 (Operand.tmp 180), type := 9, pos := "outright.go:118", after := #[{ on := 18, ground := Ground.data }, { on := 11, ground := Ground.guard }], guard := some (11, true) } :: { dst := some 182, op := Op.call { callee := Callee.value (Operand.func 25), args := #[Operand.tmp 176, Operand.tmp 181], argTypes := #[33, 9] }, type := 4, pos := "outright.go:118", after := #[{ on := 14, ground := Ground.data }, { on := 19, ground := Ground.data }, { on := 14, ground := Ground.chain }, { on := 11, ground := Ground.guard }], guard := some (11, true) } :: { dst := some 183, op := Op.unOp UnOp.not 4 (Operand.tmp 182), type := 4, pos := "outright.go:118", after := #[{ on := 20, ground := Ground.data }, { on := 11, ground := Ground.guard }], guard := some (11, true) } :: { dst := some 184, op := Op.pick (Operand.tmp 173) (Operand.tmp 183) (Operand.const (Value.bool false)), type := 4, pos := "outright.go:118", after := #[{ on := 11, ground := Ground.data }, { on := 21, ground := Ground.data }], guard := none } :: { dst := some 185, op := Op.move (Operand.tmp 184), type := 4, pos := "outright.go:118", after := #[{ on := 22, ground := Ground.data }, { on := 20, ground := Ground.chain }], guard := none } :: { dst := some 186, op := Op.move (Operand.tmp 8), type := 23, pos := "outright.go:118", after := #[{ on := 23, ground := Ground.guard }], guard := some (23, false) } :: { dst := some 187, op := Op.move (Operand.tmp 1), type := 25, pos := "outright.go:118", after := #[{ on := 23, ground := Ground.guard }], guard := some (23, false) } :: { dst := some 188, op := Op.move (Operand.tmp 2), type := 25, pos := "outright.go:118", after := #[{ on := 23, ground := Ground.guard }], guard := some (23, false) } :: { dst := some 189, op := Op.binOp BinOp.and 25 (Operand.tmp 187) (Operand.tmp 188) 25, type := 25, pos := "outright.go:118", after := #[{ on := 25, ground := Ground.data }, { on := 26, ground := Ground.data }, { on := 23, ground := Ground.guard }], guard := some (23, false) } :: { dst := some 190, op := Op.call { callee := Callee.value (Operand.func 12), args := #[Operand.tmp 186, Operand.tmp 189], argTypes := #[23, 25] }, type := 33, pos := "outright.go:118", after := #[{ on := 24, ground := Ground.data }, { on := 27, ground := Ground.data }, { on := 23, ground := Ground.chain }, { on := 23, ground := Ground.guard }], guard := some (23, false) } :: { dst := some 191, op := Op.move (Operand.tmp 7), type := 29, pos := "outright.go:118", after := #[{ on := 23, ground := Ground.guard }], guard := some (23, false) } :: { dst := some 192, op := Op.move (Operand.tmp 13), type := 3, pos := "outright.go:118", after := #[{ on := 23, ground := Ground.guard }], guard := some (23, false) } :: { dst := some 193, op := Op.indexAddr 29 (Operand.tmp 191) (Operand.tmp 192), type := 0, pos := "outright.go:118", after := #[{ on := 29, ground := Ground.data }, { on := 30, ground := Ground.data }, { on := 23, ground := Ground.guard }], guard := some (23, false) } :: { dst := some 194, op := Op.fieldAddr 40 (Operand.tmp 193) 0, type := 0, pos := "outright.go:118", after := #[{ on := 31, ground := Ground.data }, { on := 23, ground := Ground.guard }], guard := some (23, false) } :: { dst := some 195, op := Op.load 9 (Operand.tmp 194), type := 9, pos := "outright.go:118", after := #[{ on := 32, ground := Ground.data }, { on := 23, ground := Ground.guard }], guard := some (23, false) } :: { dst := some 196, op := Op.call { callee := Callee.value (Operand.func 25), args := #[Operand.tmp 190, Operand.tmp 195], argTypes := #[33, 9] }, type := 4, pos := "outright.go:118", after := #[{ on := 28, ground := Ground.data }, { on := 33, ground := Ground.data }, { on := 28, ground := Ground.chain }, { on := 23, ground := Ground.guard }], guard := some (23, false) } :: { dst := some 197, op := Op.move (Operand.tmp 196), type := 4, pos := "outright.go:118", after := #[{ on := 34, ground := Ground.data }, { on := 34, ground := Ground.chain }, { on := 23, ground := Ground.guard }], guard := some (23, false) } :: { dst := some 198, op := Op.move (Operand.tmp 8), type := 23, pos := "outright.go:118", after := #[{ on := 35, ground := Ground.guard }], guard := some (35, true) } :: { dst := some 199, op := Op.move (Operand.tmp 1), type := 25, pos := "outright.go:118", after := #[{ on := 35, ground := Ground.guard }], guard := some (35, true) } :: { dst := some 200, op := Op.call { callee := Callee.value (Operand.func 12), args := #[Operand.tmp 198, Operand.tmp 199], argTypes := #[23, 25] }, type := 33, pos := "outright.go:118", after := #[{ on := 36, ground := Ground.data }, { on := 37, ground := Ground.data }, { on := 35, ground := Ground.chain }, { on := 35, ground := Ground.guard }], guard := some (35, true) } :: { dst := some 201, op := Op.move (Operand.tmp 7), type := 29, pos := "outright.go:118", after := #[{ on := 35, ground := Ground.guard }], guard := some (35, true) } :: { dst := some 202, op := Op.move (Operand.tmp 13), type := 3, pos := "outright.go:118", after := #[{ on := 35, ground := Ground.guard }], guard := some (35, true) } :: { dst := some 203, op := Op.indexAddr 29 (Operand.tmp 201) (Operand.tmp 202), type := 0, pos := "outright.go:118", after := #[{ on := 39, ground := Ground.data }, { on := 40, ground := Ground.data }, { on := 35, ground := Ground.guard }], guard := some (35, true) } :: { dst := some 204, op := Op.fieldAddr 40 (Operand.tmp 203) 0, type := 0, pos := "outright.go:118", after := #[{ on := 41, ground := Ground.data }, { on := 35, ground := Ground.guard }], guard := some (35, true) } :: { dst := some 205, op := Op.load 9 (Operand.tmp 204), type := 9, pos := "outright.go:118", after := #[{ on := 42, ground := Ground.data }, { on := 35, ground := Ground.guard }], guard := some (35, true) } :: { dst := some 206, op := Op.call { callee := Callee.value (Operand.func 25), args := #[Operand.tmp 200, Operand.tmp 205], argTypes := #[33, 9] }, type := 4, pos := "outright.go:118", after := #[{ on := 38, ground := Ground.data }, { on := 43, ground := Ground.data }, { on := 38, ground := Ground.chain }, { on := 35, ground := Ground.guard }], guard := some (35, true) } :: { dst := some 207, op := Op.unOp UnOp.not 4 (Operand.tmp 206), type := 4, pos := "outright.go:118", after := #[{ on := 44, ground := Ground.data }, { on := 35, ground := Ground.guard }], guard := some (35, true) } :: { dst := some 208, op := Op.pick (Operand.tmp 197) (Operand.tmp 207) (Operand.const (Value.bool false)), type := 4, pos := "outright.go:118", after := #[{ on := 35, ground := Ground.data }, { on := 45, ground := Ground.data }, { on := 23, ground := Ground.guard }], guard := some (23, false) } :: { dst := some 209, op := Op.pick (Operand.tmp 185) (Operand.const (Value.bool true)) (Operand.tmp 208), type := 4, pos := "outright.go:118", after := #[{ on := 23, ground := Ground.data }, { on := 46, ground := Ground.data }], guard := none } :: [])
def or18 : List (Nat × Bool) := ((0, true) :: (1, true) :: (2, true) :: (3, true) :: (4, true) :: (5, true) :: (6, true) :: (7, true) :: (8, true) :: (9, true) :: (10, true) :: (11, true) :: (12, true) :: (13, true) :: (14, true) :: (16, true) :: (17, true) :: (18, true) :: (19, true) :: (20, true) :: (22, true) :: (15, false) :: (21, false) :: (23, true) :: (24, true) :: (25, true) :: (26, true) :: (27, true) :: (29, true) :: (30, true) :: (31, true) :: (32, true) :: (33, true) :: (35, true) :: (36, true) :: (37, true) :: (38, true) :: (28, false) :: (34, false) :: (39, true) :: (40, true) :: (41, true) :: (42, true) :: (43, true) :: (45, true) :: (46, true) :: (47, true) :: (48, true) :: (49, true) :: (44, false) :: (50, false) :: (51, true) :: (52, true) :: (53, true) :: (54, true) :: (55, true) :: (57, true) :: (58, true) :: (59, true) :: (60, true) :: (61, true) :: (56, false) :: (62, false) :: (63, true) :: (64, true) :: [])
def or20FF : List (Nat × Bool) := ((0, true) :: (1, true) :: (2, true) :: (3, true) :: (5, true) :: (6, true) :: (7, true) :: (8, true) :: (9, true) :: (4, false) :: (10, false) :: (11, true) :: (12, true) :: (13, true) :: (14, true) :: (15, true) :: (16, true) :: (17, true) :: (18, true) :: (19, true) :: (20, true) :: (21, true) :: (22, true) :: (23, true) :: (24, true) :: (25, true) :: (26, true) :: (27, true) :: (29, true) :: (30, true) :: (31, true) :: (32, true) :: (33, true) :: (28, false) :: (34, false) :: (35, true) :: (36, true) :: (37, true) :: (38, true) :: (39, true) :: (40, true) :: (41, true) :: (42, true) :: (43, true) :: (44, true) :: (45, true) :: (46, true) :: (47, true) :: [])
def or20FT : List (Nat × Bool) := ((0, true) :: (1, true) :: (2, true) :: (3, true) :: (5, true) :: (6, true) :: (7, true) :: (8, true) :: (9, true) :: (4, false) :: (10, false) :: (11, true) :: (12, true) :: (13, true) :: (14, true) :: (15, true) :: (16, true) :: (17, true) :: (18, true) :: (19, true) :: (20, true) :: (21, true) :: (22, true) :: (23, true) :: (24, true) :: (25, true) :: (26, true) :: (27, true) :: (29, true) :: (30, true) :: (31, true) :: (32, true) :: (33, true) :: (28, false) :: (34, false) :: (35, true) :: (36, true) :: (37, true) :: (39, true) :: (40, true) :: (41, true) :: (42, true) :: (43, true) :: (38, false) :: (44, false) :: (45, true) :: (46, true) :: (47, true) :: [])
def or20TF : List (Nat × Bool) := ((0, true) :: (1, true) :: (2, true) :: (3, true) :: (5, true) :: (6, true) :: (7, true) :: (8, true) :: (9, true) :: (4, false) :: (10, false) :: (11, true) :: (12, true) :: (13, true) :: (15, true) :: (16, true) :: (17, true) :: (18, true) :: (19, true) :: (14, false) :: (20, false) :: (21, true) :: (22, true) :: (23, true) :: (24, true) :: (25, true) :: (26, true) :: (27, true) :: (29, true) :: (30, true) :: (31, true) :: (32, true) :: (33, true) :: (28, false) :: (34, false) :: (35, true) :: (36, true) :: (37, true) :: (38, true) :: (39, true) :: (40, true) :: (41, true) :: (42, true) :: (43, true) :: (44, true) :: (45, true) :: (46, true) :: (47, true) :: [])
def or20TT : List (Nat × Bool) := ((0, true) :: (1, true) :: (2, true) :: (3, true) :: (5, true) :: (6, true) :: (7, true) :: (8, true) :: (9, true) :: (4, false) :: (10, false) :: (11, true) :: (12, true) :: (13, true) :: (15, true) :: (16, true) :: (17, true) :: (18, true) :: (19, true) :: (14, false) :: (20, false) :: (21, true) :: (22, true) :: (23, true) :: (24, true) :: (25, true) :: (26, true) :: (27, true) :: (29, true) :: (30, true) :: (31, true) :: (32, true) :: (33, true) :: (28, false) :: (34, false) :: (35, true) :: (36, true) :: (37, true) :: (39, true) :: (40, true) :: (41, true) :: (42, true) :: (43, true) :: (38, false) :: (44, false) :: (45, true) :: (46, true) :: (47, true) :: [])
theorem or18_ok : ordB er18 or18 (Array.replicate er18.length false) = true := by kernel_rfl
theorem or20FF_ok : ordB er20 or20FF (Array.replicate er20.length false) = true := by kernel_rfl
theorem or20FT_ok : ordB er20 or20FT (Array.replicate er20.length false) = true := by kernel_rfl
theorem or20TF_ok : ordB er20 or20TF (Array.replicate er20.length false) = true := by kernel_rfl
theorem or20TT_ok : ordB er20 or20TT (Array.replicate er20.length false) = true := by kernel_rfl
end Go.Proofs.YtenbbefahpkhpaaGreatDoor
