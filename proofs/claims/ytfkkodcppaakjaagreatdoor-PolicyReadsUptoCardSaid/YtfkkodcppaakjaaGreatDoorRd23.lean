/- Texts of the proof, merged: LbTz, LbCount, LbMyList. -/
import Derived.Test.YtfkkodcppaakjaaGreatDoorRd6
import Derived.Test.YtfkkodcppaakjaaGreatDoorRd22
import Derived.Lib.LaidTab
import Derived.Laws.Bits64b
import Derived.Laws.Bits128
import Derived.Laws.MakeOwn
/- The library's count of trailing zeros, by contract, over its table. -/
namespace Go.Proofs.YtfkkodcppaakjaaGreatDoor
open Go.RowKit

/-- The library's table, as the world holds it. -/
def BTab (w : World) : Prop := Lib.TabIs Tryz.prog w "math/bits.deBruijn64tab" .u8 (Lib.deBruijn64tab.map fun n : Nat => (n : Int))
theorem gBt : Tryz.prog.globalNamed "math/bits.deBruijn64tab" = some 1 := by kernel_rfl
theorem BTab.below {w w' : World} (h : BTab w) (hb : Below w.heap.size w w') : BTab w' := by
  unfold BTab Lib.TabIs World.var? at h ⊢
  rw [gBt] at h ⊢
  simp only [Option.bind_some] at h ⊢
  have hg : 1 < w.heap.size := by
    cases hh : w.heap[1]? with
    | none => rw [hh] at h; cases h
    | some o => exact (Array.getElem?_eq_some_iff.1 hh).1
  rw [hb.block _ hg]; exact h
theorem BTab.at {w : World} (h : BTab w) (j : Nat) (hj : j < 64) : w.cell? ⟨1, j, none⟩ = some (.int .u8 (Lib.deBruijn64tab.getD j 0 : Nat)) := by
  have h1 := Lib.TabIs.cell h gBt j (by rw [List.length_map]; exact hj)
  rw [h1]
  have hl : Lib.deBruijn64tab.length = 64 := rfl
  rw [List.getD_eq_getElem?_getD, List.getD_eq_getElem?_getD, List.getElem?_map, List.getElem?_eq_getElem (by omega)]
  rfl

theorem tz_key (x a : Nat) (hx : x < 18446744073709551616) (hx0 : x ≠ 0) (hlow : x &&& (18446744073709551616 - x) = a) :
    IntKind.u64.wrap (bits BinOp.and IntKind.u64 (x : Int) (IntKind.u64.wrap (-(x : Int))) * 285870213051353865) / 288230376151711744 = ((a * 285870213051353865 % 18446744073709551616 / 288230376151711744 : Nat) : Int) := by
  have e1 : IntKind.u64.wrap (-(x : Int)) = ((18446744073709551616 - x : Nat) : Int) := by rw [IntKind.wrap_u64]; omega
  rw [e1, bits_and_u64_nat x _ hx (by omega), hlow, IntKind.wrap_u64]
  omega
set_option maxHeartbeats 1000000 in
theorem tz_core (x k idx : Nat) (w : World) (hx0 : ((x : Int) == 0) = false)
    (key : IntKind.u64.wrap (bits BinOp.and IntKind.u64 (x : Int) (IntKind.u64.wrap (-(x : Int))) * 285870213051353865) / 288230376151711744 = (idx : Int))
    (hi : idx < 64) (hk : k < 64) (hcell : w.cell? ⟨1, idx, none⟩ = some (.int .u8 k)) :
    Calls Tryz.prog 164 #[.int .u64 x] w fun e w' => e = .returned (.int .i64 k) ∧ w = w' := by
  go_enter Tryz.func164, Tryz.ntmps164
  go_wp2_with (simp only [key])
  go_ret
  exact ⟨rfl, rfl⟩
theorem tz_any (x : Nat) (w : World) (hx : x < 18446744073709551616) (h0 : x ≠ 0) (hT : BTab w) :
    Calls Tryz.prog 164 #[.int .u64 x] w fun e w' => e = .returned (.int .i64 (Lib.ctz 64 x : Nat)) ∧ w = w' := by
  obtain ⟨hlow, hk⟩ := Lib.lowest_bit 64 x h0 hx
  obtain ⟨hi, htab⟩ := Lib.deBruijn64_at _ hk
  have hcell := hT.at _ hi
  rw [htab] at hcell
  exact tz_core x _ _ w (by simp; omega) (tz_key x _ hx h0 hlow) hi hk hcell
end Go.Proofs.YtfkkodcppaakjaaGreatDoor
/- How many compartments: the library's count of ones, and label's. -/
namespace Go.Proofs.YtfkkodcppaakjaaGreatDoor
open Go.RowKit

theorem and_num (x : Int) (a m : Nat) (h : x = (a : Int)) (ha : a < 18446744073709551616) (hm : m < 18446744073709551616) : bits .and .u64 x (m : Int) = ((a &&& m : Nat) : Int) := by
  rw [h]; exact u64_and_nat a m ha hm
theorem ones_cast (t c : Nat) (h : (t + t / 256 + (t + t / 256) / 65536 + (t + t / 256 + (t + t / 256) / 65536) / 4294967296) % 128 = c) :
    ((t : Int) + (t : Int) / 256 + ((t : Int) + (t : Int) / 256) / 65536 + ((t : Int) + (t : Int) / 256 + ((t : Int) + (t : Int) / 256) / 65536) / 4294967296) % 128 = (c : Int) := by
  have hx : (t : Int) + (t : Int) / 256 = ((t + t / 256 : Nat) : Int) := by omega
  rw [hx]
  generalize t + t / 256 = x at *
  have hy : (x : Int) + (x : Int) / 65536 = ((x + x / 65536 : Nat) : Int) := by omega
  rw [hy]
  generalize x + x / 65536 = y at *
  omega
set_option maxRecDepth 100000 in
set_option maxHeartbeats 1000000 in
theorem onesCount_any (a : Nat) (w : World) (ha : a < 18446744073709551616) :
    Calls Tryz.prog 194 #[.int .u64 a] w fun e w' => e = .returned (.int .i64 (cnt a : Nat)) ∧ w = w' := by
  have l1 := ones1_lt a
  have l2 := ones2_lt (ones1 a)
  have l3 := ones3_lt (ones2 (ones1 a))
  obtain ⟨lx, ly, lz, hz⟩ := ones_end a ha _ _ _ rfl rfl rfl
  obtain ⟨p, hp⟩ : ∃ p, p = (a / 2 &&& 6148914691236517205) := ⟨_, rfl⟩
  obtain ⟨q, hq⟩ : ∃ q, q = (a &&& 6148914691236517205) := ⟨_, rfl⟩
  have e1 : bits .and .u64 ((a : Int) / 2) 6148914691236517205 = (p : Int) := by rw [hp]; exact and_num _ _ 6148914691236517205 (by omega) (by omega) (by decide)
  have e2 : bits .and .u64 (a : Int) 6148914691236517205 = (q : Int) := by rw [hq]; exact and_num _ _ 6148914691236517205 (by omega) (by omega) (by decide)
  have o1 : ones1 a = p + q := by rw [hp, hq]; rfl
  have lp : p ≤ 6148914691236517205 := by rw [hp]; exact Nat.and_le_right
  have lq : q ≤ 6148914691236517205 := by rw [hq]; exact Nat.and_le_right
  rw [o1] at l2 l3 lx ly lz hz
  clear l1 o1 hp hq
  obtain ⟨r, hr⟩ : ∃ r, r = ((p + q) / 4 &&& 3689348814741910323) := ⟨_, rfl⟩
  obtain ⟨s, hs⟩ : ∃ s, s = (p + q &&& 3689348814741910323) := ⟨_, rfl⟩
  have e3 : bits .and .u64 (((p : Int) + (q : Int)) / 4) 3689348814741910323 = (r : Int) := by rw [hr]; exact and_num _ _ 3689348814741910323 (by omega) (by omega) (by decide)
  have e4 : bits .and .u64 ((p : Int) + (q : Int)) 3689348814741910323 = (s : Int) := by rw [hs]; exact and_num _ _ 3689348814741910323 (by omega) (by omega) (by decide)
  have o2 : ones2 (p + q) = r + s := by rw [hr, hs]; rfl
  have lr : r ≤ 3689348814741910323 := by rw [hr]; exact Nat.and_le_right
  have ls : s ≤ 3689348814741910323 := by rw [hs]; exact Nat.and_le_right
  rw [o2] at l3 lx ly lz hz
  clear l2 o2 hr hs
  obtain ⟨t, ht⟩ : ∃ t, t = ((r + s) / 16 + (r + s) &&& 1085102592571150095) := ⟨_, rfl⟩
  have e5 : bits .and .u64 (((r : Int) + (s : Int)) / 16 + ((r : Int) + (s : Int))) 1085102592571150095 = (t : Int) := by rw [ht]; exact and_num _ _ 1085102592571150095 (by omega) (by omega) (by decide)
  have o3 : ones3 (r + s) = t := by rw [ht]; rfl
  rw [o3] at l3 lx ly lz hz
  clear o3 ht
  have H := Lib.hid hz
  clear hz
  go_enter Tryz.func194, Tryz.ntmps194
  go_wp2
  go_ret
  refine ⟨ret_int ?_, rfl⟩
  rw [i64_and127]
  exact ones_cast t (cnt a) H.out
theorem count_any (a : Nat) (w : World) (ha : a < 18446744073709551616) :
    Calls Tryz.prog 163 #[.int .u64 a] w fun e w' => e = .returned (.int .i64 (cnt a : Nat)) ∧ w = w' := by
  have c := onesCount_any a w ha
  go_enter Tryz.func163, Tryz.ntmps163
  go_wp2_with (go_at_call 194; refine c.mono ?_; rintro e w' ⟨rfl, rfl⟩)
  go_ret
  exact ⟨rfl, rfl⟩
end Go.Proofs.YtfkkodcppaakjaaGreatDoor
/- label's own List, by its contract. -/
namespace Go.Proofs.YtfkkodcppaakjaaGreatDoor
open Go.RowKit

set_option maxRecDepth 100000 in
set_option maxHeartbeats 4000000 in
theorem list_any (a : Nat) (w : World) (ha : a < 18446744073709551616) (hT : BTab w) :
    Calls Tryz.prog 131 #[.int .u64 a] w (IntRow w (listTo a 64)) := by
  have cC := count_any a w ha
  obtain ⟨i0, hi, hz0, hz1, hz2⟩ := info_parts intInfo
  have hcl := cnt_le a
  obtain ⟨w1, hrun, hown, hgr⟩ := run_make_own (P := Tryz.prog) w w.heap.size 170 3 i0 (.int .i64 0) 1 Tryz.underlying170 hi hz0 hz1 .i64 .i64 (cnt a) (by rw [hz2]; omega) (by unfold maxLen; omega) (Nat.le_refl _)
  have hb1 : Below w.heap.size w w1 := (Below.refl _ _).grown hgr (Nat.le_refl _) (by simp)
  have hfin : Hid (∀ v w', Below w.heap.size w w' → w'.ownsRow w.heap.size 3 1 v (listTo a 64).length (ints (listTo a 64)) → IntRow w (listTo a 64) (.returned v) w') := by
    intro v w' hb ho
    obtain ⟨p, c, rfl⟩ := int_owned ho
    exact ⟨p, c, rfl, hb, ho⟩
  have HO := Lib.hid hown
  clear hown hgr
  go_enter Tryz.func131, Tryz.ntmps131
  go_wp2_with (go_at_call 163; refine cC.mono ?_; rintro e w' ⟨rfl, rfl⟩)
  have HR := Lib.hid hrun
  clear hrun cC
  go_loopg [0, 3] (cnt a) (fun g x v wr => ∃ (y : Nat) (l : List Nat), x = .int .u64 y ∧ y < 18446744073709551616 ∧ g = (listTo y 64).length ∧ Hid (listTo a 64 = l ++ listTo y 64) ∧ l.length ≤ 64 ∧ Below w.heap.size w wr ∧ Hid (wr.ownsRow w.heap.size 3 1 v l.length (ints l)))
  case atStart => exact ⟨a, [], rfl, ha, rfl, rfl, by simp, hb1, HO.out⟩
  case round =>
    obtain ⟨y, l, rfl, hy, hg, hl, hll, hbr, ho⟩ := hrel
    by_cases h0 : y = 0
    · subst h0
      have hF := hfin.out
      rw [hl.out, list_zero, List.append_nil] at hF
      have HF := Lib.hid (hF _ _ hbr ho.out)
      clear hF hfin ho hg
      go_wp2_with fail
      go_ret
      have e := hl.out
      rw [list_zero, List.append_nil] at e
      rw [e]
      exact HF.out
    · obtain ⟨hlow, hlt, hk⟩ := list_low y h0 hy
      have he : bits .and .u64 (y : Int) ((y : Int) - 1) = ((y &&& (y - 1) : Nat) : Int) := by
        have := u64_and_nat y (y - 1) hy (by omega)
        rw [← this]
        congr 1
        omega
      have cT := tz_any y wr hy h0 (hT.below hbr)
      generalize y &&& (y - 1) = y' at *
      generalize Lib.ctz 64 y = c at *
      have hne : ((y : Int) != 0) = true := by rw [bne, beq_false_of_ne (by omega)]; rfl
      have hy1 : (1 : Int) ≤ (y : Int) := by omega
      have hc0 : (0 : Int) ≤ (c : Int) := Int.natCast_nonneg _
      have HL : Hid (listTo a 64 = (l ++ [c]) ++ listTo y' 64) := by
        have := hl.out
        rw [hlow] at this
        show _ = _
        rw [this]; simp
      have hlen : (l ++ [c]).length ≤ 64 := by
        have h1 := listTo_len a 64
        rw [HL.out, List.length_append] at h1
        omega
      have hg' : gk = (listTo y' 64).length + 1 := by rw [hg, hlow]; rfl
      have HG := Lib.hid hg'
      have HLEN := Lib.hid hlen
      have ho' := ho.out
      have hbsz := hbr.size
      clear hg' hg hlow hl hlen ho hfin
      go_wp2_with (first
        | (go_at_call 164; refine cT.mono ?_; rintro e w' ⟨rfl, rfl⟩)
        | (at_builtin; refine wpList_append_own _ rfl _ _ 170 rfl w.heap.size 3 i0 (.int .i64 0) 1 8 Tryz.underlying170 hi hz0 hz1 hz2 rfl (by decide) _ _ _ rfl (ho'.alloc _) ⟨wr.heap.size, 0, none⟩ 1 1 [.int .i64 c] rfl rfl ?c1 ?c2 ?c3 ?c4 ?c5 ?_))
      case c1 =>
        intro j u hj
        match j, hj with
        | 0, hj => simp at hj; subst hj; simp [Addr.add]
      case c2 => intro u hu; simp at hu; subst hu; rfl
      case c3 => unfold maxLen; omega
      case c4 => omega
      case c5 => simp; omega
      intro v' w3 hown' hgrow _
      have hb2 : Below w.heap.size w w3 := (hbr.alloc (by omega) _).grown hgrow (by simp; omega) (fun g hg => (ho'.lt g hg).1)
      have HO2 : Hid (w3.ownsRow w.heap.size 3 1 v' (l ++ [c]).length (ints (l ++ [c]))) := by
        rw [List.length_append, List.length_singleton]
        unfold ints
        rw [List.map_append]
        exact hown'
      clear ho' hown' hgrow cT
      go_wp2_with fail
      go_roundg (listTo y' 64).length
      case rel => exact ⟨y', l ++ [c], rfl, hlt, rfl, HL, HLEN.out, hb2, HO2⟩
      case measure => have := HG.out; omega
end Go.Proofs.YtfkkodcppaakjaaGreatDoor
