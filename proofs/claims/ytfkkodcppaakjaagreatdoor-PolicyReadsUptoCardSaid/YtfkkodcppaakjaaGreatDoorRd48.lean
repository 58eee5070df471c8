/- Texts of the proof, merged: PoClr, PrSame, RefName. -/
import Derived.Test.YtfkkodcppaakjaaGreatDoorRd6
import Derived.Test.YtfkkodcppaakjaaGreatDoorRd20
import Derived.Test.YtfkkodcppaakjaaGreatDoorRd35
import Derived.Test.YtfkkodcppaakjaaGreatDoorRd47
/- policy.Clearances, by its contract. -/
namespace Go.Proofs.YtfkkodcppaakjaaGreatDoor
open Go Go.RowKit Go.Maps Go.Lib

/-- A list of labels handed out. -/
def GivesLab (w : World) (cs : List Nat) (e : Ending) (w' : World) : Prop := Below w.heap.size w w' ∧ ∃ p c, e = .returned (.slice p cs.length c) ∧ LabRow w' p cs ∧ w'.ownsRow w.heap.size 23 1 (.slice p cs.length c) cs.length (labVals cs)
def cls (l : List Vw) : List Nat := l.map (·.c)
theorem cls_snoc {l : List Vw} {k : Nat} (hk : k < l.length) : cls (l.take (k + 1)) = cls (l.take k) ++ [l[k].c] := by
  unfold cls
  rw [List.take_succ_eq_append_getElem hk, List.map_append]; rfl
theorem labInfo : (Tryz.prog.info? 23).map (fun i => (i.zero, i.size, i.bytes)) = some (some (.int .u64 0), 1, 8) := by kernel_rfl

set_option maxRecDepth 100000 in
set_option maxHeartbeats 2000000 in
theorem clearances_any (v : Value) (l : List Vw) (w : World) (hp : PolAt w v l) : Calls Tryz.prog 45 #[v] w (GivesLab w (clrL l)) := by
  have cV := viewers_any v l w hp
  have h64 := hp.ok.1
  obtain ⟨i0, hi, hz0, hz1, hz2⟩ := info_parts labInfo
  obtain ⟨p, b, rfl, _⟩ := hp.at'
  clear hp
  obtain ⟨n, hn⟩ : ∃ n, l.length = n := ⟨_, rfl⟩
  have HN := Lib.hid hn
  unfold GivesVw at cV
  rw [hn] at h64 cV
  clear hn
  have cS := fun W v ho => sortOwn_any w.heap.size (cls l) v n W (by unfold cls; rw [List.length_map]; exact HN.out) (by omega) ho
  have cC := fun W v ho => compOwn_any w.heap.size (Sort.sort ltL (cls l).toArray).toList v n W (by rw [(sortL_perm _).length_eq]; unfold cls; simp; exact HN.out) (by omega) ho
  have hfin := Lib.hid (show compactUpTo (Sort.sort ltL (cls l).toArray) n = clrL l from by
    have := compact_sorted (cls l)
    rw [show (cls l).length = n by unfold cls; rw [List.length_map]; exact HN.out] at this
    exact this)
  rw [Array.toArray_toList] at cC
  rw [hfin.out] at cC
  have CS : Aside _ := cS
  have CC : Aside _ := cC
  clear cS cC
  go_enter Tryz.func45, Tryz.ntmps45
  go_wp2_with (go_at_call 43; refine cV.mono ?_; rintro e w1 ⟨hb1, p1, c1, rfl, hr, ho⟩)
  have hs1 := hb1.size
  clear ho cV
  go_loopg [3, 9] n (fun g u vi wr => ∃ k : Nat, k + g = n ∧ vi = .int .i64 k ∧ Below w1.heap.size w1 wr ∧ Hid (wr.ownsRow w1.heap.size 23 1 u k (labVals (cls (l.take k)))))
  case atStart => exact ⟨0, by omega, rfl, Below.refl _ _, by rw [List.take_zero]; exact World.ownsRow_nil _ _ _ _⟩
  case round =>
    obtain ⟨k, hk, rfl, hbr, HO⟩ := hrel
    have hsr := hbr.size
    by_cases hlt : k < n
    · have hlt' : k < l.length := by rw [HN.out]; exact hlt
      obtain ⟨b1, o1, rfl, hb1', h1c⟩ := hr.at k hlt'
      obtain ⟨g1, g2⟩ := h1c wr hbr
      have hsn : Hid (labVals (cls (l.take (k + 1))) = labVals (cls (l.take k)) ++ [lbV l[k].c]) := by
        show labVals (cls (l.take (k + 1))) = _
        rw [cls_snoc hlt', labVals_snoc]
      generalize l[k] = x at *
      have ho' := HO.out.alloc (.cells #[.string (bs x.s), .int .u64 x.c] 81)
      have HB := Lib.hid hbr
      clear h1c hbr HO
      go_wp2_with (first
        | (at_builtin; refine wpList_append_own _ rfl _ _ 52 rfl w1.heap.size 23 i0 (.int .u64 0) 1 8 Tryz.underlying52 hi hz0 hz1 hz2 rfl (by decide) _ _ _ rfl (ho'.alloc _) ⟨wr.heap.size + 1, 0, none⟩ 1 1 [.int .u64 x.c] rfl rfl ?c1 ?c2 ?c3 ?c4 ?c5 ?_))
      case c1 =>
        intro j u hj
        match j, hj with
        | 0, hj => simp at hj; subst hj; simp [Addr.add]
      case c2 => intro u hu; simp at hu; subst hu; rfl
      case c3 => unfold maxLen; omega
      case c4 => omega
      case c5 => simp; omega
      intro u' w3 hown' hgrow _
      have hb3 : Below w1.heap.size w1 w3 := ((HB.out.alloc (by omega) _).alloc (by simp; omega) _).grown hgrow (by simp; omega) (fun g hg => (ho'.lt g hg).1)
      have HO2 : Hid (w3.ownsRow w1.heap.size 23 1 u' (k + 1) (labVals (cls (l.take (k + 1))))) := by rw [hsn.out]; exact hown'
      clear ho' hown' hgrow hsn
      go_wp2_with fail
      go_roundg (gk - 1)
      case rel => exact ⟨k + 1, by omega, by go_num, hb3, HO2⟩
      case measure => omega
    · obtain rfl : k = n := by omega
      have hall : l.take k = l := by rw [← HN.out]; exact List.take_length
      have HO2 := Lib.hid (base_le HO.out hs1)
      rw [hall] at HO2
      have HB := Lib.hid (hb1.trans (hbr.mono hs1))
      clear HO hbr hall hb1 hr
      go_wp2_with (first
        | (go_at_call 63; refine (CS.out _ _ (by exact HO2.out)).mono ?_; rintro e w4 ⟨rfl, HO4, HB4⟩; have HO5 := Lib.hid HO4; have HB5 := Lib.hid (HB4 _ HB.out); clear HO4 HB4)
        | (go_at_call 64; refine (CC.out _ _ (by exact HO5.out)).mono ?_; rintro e w6 ⟨p6, c6, k6, rfl, hk6, HO6, HB6⟩; have HO7 := Lib.hid HO6; have HK := Lib.hid hk6; have HB7 := Lib.hid (HB6 _ HB5.out); clear HO6 HB6 hk6))
      go_ret
      have hK := HK.out
      subst hK
      obtain ⟨p8, c8, e8, hrow⟩ := lab_owned rfl HO7.out
      injection e8 with e1 _ e3
      subst e1; subst e3
      exact ⟨HB7.out, _, _, rfl, hrow, HO7.out⟩
end Go.Proofs.YtfkkodcppaakjaaGreatDoor
/- The document's Same and SameLabels, and texts that are the same, by contracts: on rows of the same lists. -/
namespace Go.Proofs.YtfkkodcppaakjaaGreatDoor
open Go Go.RowKit

theorem belowDN' {B : Nat} {w W : World} (h : Below B w W) (q : Nat) : Below B w (W.drewN q) := ⟨h.os, h.tape, h.output, h.size, h.block⟩
set_option maxRecDepth 100000 in
set_option maxHeartbeats 2000000 in
theorem prSame_any (w : World) (p q : Option Addr) (n c d : Nat) (l : List Vw) (hn : l.length = n) (hnm : n ≤ 9223372036854775807) (hp : VwRow w p l) (hq : VwRow w q l) :
    Calls Tryz.prog 42 #[.slice p n c, .slice q n d] w fun e w' => e = .returned (.bool true) ∧ Below w.heap.size w w' := by
  have HN := Lib.hid hn
  clear hn
  go_enter Tryz.func42, Tryz.ntmps42
  go_wp2
  go_loopg [5] n (fun g vi wr => ∃ k : Nat, k + g = n ∧ vi = .int .i64 k ∧ Below w.heap.size w wr)
  case atStart => exact ⟨0, by omega, rfl, Below.refl _ _⟩
  case round =>
    obtain ⟨k, hk, rfl, hbr⟩ := hrel
    by_cases hlt : k < n
    · have hlt' : k < l.length := by rw [HN.out]; exact hlt
      obtain ⟨b1, o1, rfl, _, h1c⟩ := hp.at k hlt'
      obtain ⟨b2, o2, rfl, _, h2c⟩ := hq.at k hlt'
      obtain ⟨g0, g1⟩ := h1c wr hbr
      obtain ⟨k0, k1⟩ := h2c wr hbr
      generalize l[k] = x at *
      have hk0 : (0 : Int) ≤ (k : Int) := by omega
      have hkI : (k : Int) < (n : Int) := by omega
      have HB := Lib.hid hbr
      clear h1c h2c hbr hp hq
      go_wp2_with fail
      go_quiet (fail)
      go_wp2
      go_roundg (gk - 1)
      case rel => exact ⟨k + 1, by omega, by go_num, belowDN' HB.out _⟩
      case measure => omega
    · obtain rfl : k = n := by omega
      go_wp2_with fail
      go_ret
      exact ⟨rfl, hbr⟩
set_option maxRecDepth 100000 in
set_option maxHeartbeats 2000000 in
theorem prSameLabels_any (w : World) (p q : Option Addr) (n c d : Nat) (l : List Nat) (hn : l.length = n) (hnm : n ≤ 9223372036854775807) (hp : LabRow w p l) (hq : LabRow w q l) :
    Calls Tryz.prog 44 #[.slice p n c, .slice q n d] w fun e w' => e = .returned (.bool true) ∧ Below w.heap.size w w' := by
  have HN := Lib.hid hn
  clear hn
  go_enter Tryz.func44, Tryz.ntmps44
  go_wp2
  go_loopg [5] n (fun g vi wr => ∃ k : Nat, k + g = n ∧ vi = .int .i64 k ∧ Below w.heap.size w wr)
  case atStart => exact ⟨0, by omega, rfl, Below.refl _ _⟩
  case round =>
    obtain ⟨k, hk, rfl, hbr⟩ := hrel
    by_cases hlt : k < n
    · have hlt' : k < l.length := by rw [HN.out]; exact hlt
      obtain ⟨b1, o1, rfl, _, h1c⟩ := hp.at k hlt'
      obtain ⟨b2, o2, rfl, _, h2c⟩ := hq.at k hlt'
      have g0 := h1c wr hbr
      have k0 := h2c wr hbr
      generalize l[k] = x at *
      have hk0 : (0 : Int) ≤ (k : Int) := by omega
      have hkI : (k : Int) < (n : Int) := by omega
      have HB := Lib.hid hbr
      clear h1c h2c hbr hp hq
      go_wp2_with fail
      go_quiet (fail)
      go_wp2
      go_roundg (gk - 1)
      case rel => exact ⟨k + 1, by omega, by go_num, belowDN' HB.out _⟩
      case measure => omega
    · obtain rfl : k = n := by omega
      go_wp2_with fail
      go_ret
      exact ⟨rfl, hbr⟩
set_option maxRecDepth 100000 in
set_option maxHeartbeats 2000000 in
theorem prSameTexts_any (w : World) (p q : Option Addr) (n c d : Nat) (l : List (List UInt8)) (hn : l.length = n) (hnm : n ≤ 9223372036854775807) (hp : NmRow w p l) (hq : NmRow w q l) :
    Calls Tryz.prog 47 #[.slice p n c, .slice q n d] w fun e w' => e = .returned (.bool true) ∧ Below w.heap.size w w' := by
  have HN := Lib.hid hn
  clear hn
  go_enter Tryz.func47, Tryz.ntmps47
  go_wp2
  go_loopg [5] n (fun g vi wr => ∃ k : Nat, k + g = n ∧ vi = .int .i64 k ∧ Below w.heap.size w wr)
  case atStart => exact ⟨0, by omega, rfl, Below.refl _ _⟩
  case round =>
    obtain ⟨k, hk, rfl, hbr⟩ := hrel
    by_cases hlt : k < n
    · have hlt' : k < l.length := by rw [HN.out]; exact hlt
      obtain ⟨b1, o1, rfl, h1c⟩ := hp.at k hlt'
      obtain ⟨b2, o2, rfl, h2c⟩ := hq.at k hlt'
      have g0 := h1c wr hbr
      have k0 := h2c wr hbr
      generalize l[k] = x at *
      have hk0 : (0 : Int) ≤ (k : Int) := by omega
      have hkI : (k : Int) < (n : Int) := by omega
      have HB := Lib.hid hbr
      clear h1c h2c hbr hp hq
      go_wp2_with fail
      go_quiet (fail)
      go_wp2
      go_roundg (gk - 1)
      case rel => exact ⟨k + 1, by omega, by go_num, belowDN' HB.out _⟩
      case measure => omega
    · obtain rfl : k = n := by omega
      go_wp2_with fail
      go_ret
      exact ⟨rfl, hbr⟩
end Go.Proofs.YtfkkodcppaakjaaGreatDoor
/- The document's Name, by its contract. -/
namespace Go.Proofs.YtfkkodcppaakjaaGreatDoor
open Go.RowKit

set_option maxHeartbeats 1000000 in
theorem refName_any (s : ByteArray) (w : World) (hs : s.size ≤ maxLen) :
    Calls Tryz.prog 89 #[.string s] w fun e w' => e = .returned (.bool (nameL s.data.toList)) ∧ w = w' := by
  unfold maxLen at hs
  go_enter Tryz.func89, Tryz.ntmps89
  go_wp2
  go_loop [3] (fun i => ∃ k : Nat, k ≤ s.size ∧ i = .int .i64 k ∧ AllCh s k) (fun i => s.size - (intOf i).toNat)
  case atStart => exact ⟨0, Nat.zero_le _, rfl, allch_start s⟩
  case round =>
    obtain ⟨k, hk, rfl, hn⟩ := hrel
    by_cases hlt : k < s.size
    · cases hb : nameCh s[k]
      · have he := Lib.hid (allch_hit s k hlt hb)
        obtain ⟨⟨hx1, hx2⟩, hx⟩ := nameCh_no s[k] hb
        clear hb hn
        rcases hx with hx | ⟨hx, hy⟩ | hx
        · go_wp2
          go_ret
          exact ⟨ret_bool he.out.symm, rfl⟩
        · have hd : decide ((s[k].toNat : Int) ≤ 57) = false := decide_eq_false (by omega)
          go_wp2
          go_ret
          exact ⟨ret_bool he.out.symm, rfl⟩
        · have hd : decide ((s[k].toNat : Int) ≤ 57) = false := decide_eq_false (by omega)
          have hd2 : decide ((s[k].toNat : Int) ≤ 122) = false := decide_eq_false (by omega)
          go_wp2
          go_ret
          exact ⟨ret_bool he.out.symm, rfl⟩
      · have hn' := Lib.hid (allch_step s k hlt hn hb)
        have hx := nameCh_yes s[k] hb
        clear hb hn
        rcases hx with ⟨hx, hy⟩ | ⟨hx, hy⟩ | ⟨hx, hy⟩ | ⟨hx, hy, hz, hu⟩
        all_goals go_wp2
        all_goals go_round
        all_goals first | exact ⟨k + 1, by omega, by go_num, hn'.out⟩ | (simp [intOf]; omega)
    · obtain rfl : k = s.size := by omega
      by_cases h1 : 1 ≤ s.size
      · have he := Lib.hid (allch_end s h1 hn)
        clear hn
        go_wp2
        go_ret
        exact ⟨ret_bool he.out.symm, rfl⟩
      · have he := Lib.hid (name_empty s h1)
        clear hn
        go_wp2
        go_ret
        exact ⟨ret_bool he.out.symm, rfl⟩
end Go.Proofs.YtfkkodcppaakjaaGreatDoor
