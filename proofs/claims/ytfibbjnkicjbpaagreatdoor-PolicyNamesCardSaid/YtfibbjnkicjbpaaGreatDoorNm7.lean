/- Texts of the proof, merged: SrXor, ShelfD, SrBreak, SrMed, SrPiv, SrPartEq, SrPart. -/
import Derived.Test.YtfibbjnkicjbpaaGreatDoorNm1
import Derived.Test.YtfibbjnkicjbpaaGreatDoorNm6
import Derived.Sort.Walk7a
import Derived.Shelf.Strings.Builder1
import Derived.Shelf.Strings.Builder2
import Derived.Shelf.Strings.OnBuilder
import Derived.Shelf.Small.Bits
import Derived.Shelf.Small.Wraps
import Derived.Shelf.Strings.BuilderF
import Derived.Shelf.Strings.BuilderK
import Derived.Shelf.Strings.Builder2Cap
import Derived.Shelf.Strconv.Atoi
import Derived.Shelf.Strconv.Itoa0
import Derived.Shelf.Strconv.Itoa1
import Derived.Shelf.LaysM
import Derived.Shelf.Strconv.Itoa2
import Derived.Shelf.Strconv.Itoa3
import Derived.Shelf.Strconv.AtoiErrFast
import Derived.Shelf.Strconv.ParseIntEmpty
import Derived.Shelf.Strconv.AtoiFail
import Derived.Shelf.Strconv.Clone
import Derived.Shelf.Strconv.Lower
import Derived.Shelf.Strconv.ParseUint10Empty
import Derived.Shelf.Strings.Search1
import Derived.Shelf.Strings.Search2
import Derived.Shelf.Strings.Search3
import Derived.Shelf.Strings.Cut
import Derived.Shelf.Strings.Count
import Derived.Shelf.Strings.Shaped
import Derived.Shelf.GgClosure.StringsIndexFunc
import Derived.Ground.GgwProg
import Derived.Shelf.GgClosure.StringsIndexFuncTop
import Derived.Shelf.Strings.Prefix
import Derived.Shelf.Strings.Split
import Derived.Shelf.Strings.SplitShaped
import Derived.Shelf.Unicode.DecodeSlow
import Derived.Test.YtfibbjnkicjbpaaGreatDoorProg
import Derived.Sort.Walk7
import Derived.Sort.WalkD1
import Derived.Sort.Walk11
import Derived.Sort.WalkC
import Derived.Sort.WalkC4
/- The library's generator of its sort: by a contract. -/
namespace Go.Proofs.YtfibbjnkicjbpaaGreatDoor
open Go Go.RowKit Go.Sort

set_option maxHeartbeats 1000000 in
theorem lbNext_any (rb ro X : Nat) (hX : X < 18446744073709551616) (w : World) (hc : w.cell? ⟨rb, ro, none⟩ = some (.int .u64 X)) (hf : w.frozen? ⟨rb, ro, none⟩ = false) :
    Calls Tryz.prog 101 #[.pointer (some ⟨rb, ro, none⟩)] w fun e w' => e = .returned (.int .u64 (xorNextN X : Nat)) ∧ w' = (w.setCell ⟨rb, ro, none⟩ (.int .u64 (xorNextN X : Nat))).drewN 3 := by
  obtain ⟨a, ha⟩ : ∃ a : Nat, a = X ^^^ (X * 8192 % 18446744073709551616) := ⟨_, rfl⟩
  obtain ⟨b, hb⟩ : ∃ b : Nat, b = a ^^^ (a / 128) := ⟨_, rfl⟩
  obtain ⟨c, hc3⟩ : ∃ c : Nat, c = b ^^^ (b * 131072 % 18446744073709551616) := ⟨_, rfl⟩
  have la : a < 18446744073709551616 := by rw [ha]; exact Nat.xor_lt_two_pow (n := 64) (by omega) (by omega)
  have lb : b < 18446744073709551616 := by rw [hb]; exact Nat.xor_lt_two_pow (n := 64) (by omega) (by omega)
  have e1 : bits .xor .u64 (X : Int) (IntKind.u64.wrap ((X : Int) * 8192)) = (a : Int) := by
    rw [IntKind.wrap_u64, show ((X : Int) * 8192 % 18446744073709551616) = ((X * 8192 % 18446744073709551616 : Nat) : Int) by omega, bits_xor_u64_nat _ _ hX (by omega), ha]
  have e2 : bits .xor .u64 (a : Int) ((a : Int) / 128) = (b : Int) := by
    rw [show ((a : Int) / 128) = ((a / 128 : Nat) : Int) by omega, bits_xor_u64_nat _ _ la (by omega), hb]
  have e3 : bits .xor .u64 (b : Int) (IntKind.u64.wrap ((b : Int) * 131072)) = (c : Int) := by
    rw [IntKind.wrap_u64, show ((b : Int) * 131072 % 18446744073709551616) = ((b * 131072 % 18446744073709551616 : Nat) : Int) by omega, bits_xor_u64_nat _ _ lb (by omega), hc3]
  have hv : xorNextN X = c := by unfold xorNextN; simp only []; rw [← ha, ← hb, ← hc3]
  rw [hv]
  clear ha hb hc3 hv
  have hss : ∀ v v', (w.setCell ⟨rb, ro, none⟩ v).setCell ⟨rb, ro, none⟩ v' = w.setCell ⟨rb, ro, none⟩ v' := setCell_setCell w rb ro
  go_enter Tryz.func101, Tryz.ntmps101
  go_wp2
  go_region
  all_goals go_wp2
  all_goals go_region
  all_goals go_wp2
  all_goals go_region
  all_goals go_wp2
  go_ret
  exact ⟨rfl, rfl⟩
end Go.Proofs.YtfibbjnkicjbpaaGreatDoor
/- The library's contracts that the walks call, laid at this program by the shelf's own tool (plain mode), without its remarks. -/
namespace Go.Proofs
open Go.Shelf
def Tryz.lays125_ren : Go.Shelf.Ren := ⟨fun | 125 => 47 | 128 => 78 | 129 => 79 | n => n, fun | 46 => 81 | 3 => 3 | 51 => 112 | 53 => 24 | 4 => 4 | 5 => 5 | 9 => 9 | n => n, fun | n => n⟩
theorem Tryz.lays125 : Go.Proofs.Lays.n125 Tryz.prog Tryz.lays125_ren := {
  mixed := by kernel_rfl
  f125 := Tryz.func47.trans (congrArg some (by kernel_rfl))
  f128 := Tryz.func78.trans (congrArg some (by kernel_rfl))
  f129 := Tryz.func79.trans (congrArg some (by kernel_rfl))
  t3 := Tryz.underlying3
  a3 := Tryz.isAgg3
  z3 := Tryz.sizeOf3
  v3 := Tryz.zeroValue3
  t4 := Tryz.underlying4
  a4 := Tryz.isAgg4
  z4 := Tryz.sizeOf4
  v4 := Tryz.zeroValue4
  t5 := Tryz.underlying5
  a5 := Tryz.isAgg5
  z5 := Tryz.sizeOf5
  v5 := Tryz.zeroValue5
  t9 := Tryz.underlying9
  a9 := Tryz.isAgg9
  z9 := Tryz.sizeOf9
  v9 := Tryz.zeroValue9
  t46 := Tryz.underlying81
  a46 := Tryz.isAgg81
  z46 := Tryz.sizeOf81
  v46 := Tryz.zeroValue81
  t51 := Tryz.underlying112
  a51 := Tryz.isAgg112
  z51 := Tryz.sizeOf112
  v51 := Tryz.zeroValue112
  t53 := Tryz.underlying24
  a53 := Tryz.isAgg24
  z53 := Tryz.sizeOf24
  v53 := Tryz.zeroValue24 }
theorem Tryz.bits_Len (x : Int) (w : World) (h0 : 0 ≤ x) (h1 : x ≤ 18446744073709551615) :
    Calls Tryz.prog 47 #[.int .u64 x] w fun e w' => e = .returned (.int .i64 (Lib.bitLen x.toNat)) ∧ w' = w := Any.bits_Len Tryz.lays125 x w h0 h1
end Go.Proofs
/- The library's breaking of patterns over labels: by contracts. -/
namespace Go.Proofs.YtfibbjnkicjbpaaGreatDoor
open Go Go.RowKit Go.Sort

theorem lbLen_any (n : Nat) (hn : n < 4611686018427387904) (w : World) : Calls Tryz.prog 47 #[.int .u64 (n : Int)] w fun e w' => e = .returned (.int .i64 (bitsLen n : Nat)) ∧ w' = w := by
  have h := Tryz.bits_Len (n : Int) w (by omega) (by omega)
  rwa [Int.toNat_natCast, bitLen_eq _ (by omega)] at h
theorem lbPow_any (n : Nat) (hn : n < 4611686018427387904) (w : World) :
    Calls Tryz.prog 100 #[.int .i64 n] w fun e w' => e = .returned (.int .u64 ((1 <<< bitsLen n : Nat) : Int)) ∧ w' = w := by
  have hk : bitsLen n ≤ 62 := (bitsLen_le_iff n 62).2 (by omega)
  have hp := wrap_two_pow (bitsLen n) hk
  go_enter Tryz.func100, Tryz.ntmps100
  go_wp2_with (first | (go_at_call 47; refine (lbLen_any n hn _).mono ?_; rintro e w' ⟨rfl, rfl⟩))
  go_ret
  exact ⟨rfl, rfl⟩

set_option maxHeartbeats 1000000 in
set_option maxRecDepth 100000 in
theorem lbBreakGo_any (blk off cap a L : Nat) (d : Array Nat) (w : World) (hH0 : Holds lbV w blk off d) (hblk : blk < w.heap.size) (hb : a + L ≤ d.size) (hsz : d.size < 4611686018427387904) (h8 : 8 ≤ L) :
    Calls Tryz.prog 71 #[.slice (some ⟨blk, off, none⟩) d.size cap, .int .i64 a, .int .i64 ((a + L : Nat) : Int)] w fun e w' =>
      e = .returned (.tuple #[]) ∧ ∃ n os, w' = grow (lbPut w n blk off (breakPatterns d a (a + L))) os := by
  rw [breakPatterns_eq d a L h8]
  obtain ⟨M, hM⟩ : ∃ M : Nat, M = 1 <<< bitsLen L := ⟨_, rfl⟩
  have hM1 : 1 ≤ M := by rw [hM, Nat.one_shiftLeft]; exact Nat.two_pow_pos _
  have hM2 : M ≤ 2 * L := by rw [hM, Nat.one_shiftLeft]; exact two_pow_bitsLen_le (by omega)
  have hP : ∀ w, Calls Tryz.prog 100 #[.int .i64 (L : Int)] w fun e w' => e = .returned (.int .u64 (M : Int)) ∧ w' = w := by rw [hM]; exact fun w => lbPow_any L (by omega) w
  rw [← hM]
  clear hM
  have hH : Hid (Holds lbV w blk off d) := hH0
  have hS : Hid (w.alloc (Obj.cells #[.int .u64 (L : Int)] 127) = grow (lbPut w 0 blk off d) #[Obj.cells #[.int .u64 ((UInt64.ofNat L).toNat : Int)] 127]) := by
    show _ = _
    rw [lbPut, show Sort.ahead w 0 = w from rfl, putRow_self _ _ _ _ _ hH0, alloc_eq_grow, show (UInt64.ofNat L).toNat = L from by simp; omega]
  clear hH0
  go_enter Tryz.func71, Tryz.ntmps71
  go_wp2_with (first | (go_at_call 100; rw [show ((a : Int) + (L : Int) - (a : Int)) = (L : Int) by omega]; refine (hP _).mono ?_; rintro e w' ⟨rfl, rfl⟩))
  go_loopw [9] (fun v W => ∃ (t n : Nat) (r : UInt64) (E : Array Nat), v = .int .i64 ((a + L / 4 * 2 - 1 + t : Nat) : Int) ∧ t ≤ 3 ∧ E.size = d.size ∧
      W = grow (lbPut w n blk off E) #[Obj.cells #[.int .u64 (r.toNat : Int)] 127] ∧
      bpRest a L M (a + L / 4 * 2 - 1) (3 - t) t (r, E) = bpRest a L M (a + L / 4 * 2 - 1) 3 0 (UInt64.ofNat L, d)) (fun v _ => a + L / 4 * 2 + 3 - (intOf v).toNat)
  case atStart => exact ⟨0, 0, UInt64.ofNat L, d, by congr 1; omega, by omega, rfl, hS.out, rfl⟩
  case round =>
    obtain ⟨t, n, r, E, rfl, ht, hs, hw, hR0⟩ := hrel
    obtain ⟨R, hRr⟩ : ∃ R : Nat, R = r.toNat := ⟨_, rfl⟩
    have lR : R < 18446744073709551616 := by rw [hRr]; exact r.toNat_lt
    obtain ⟨Y, hY⟩ : ∃ Y : Nat, Y = xorNextN R := ⟨_, rfl⟩
    have lY : Y < 18446744073709551616 := by rw [hY]; exact xorNextN_lt R lR
    obtain ⟨O, hO⟩ : ∃ O : Nat, O = Y &&& (M - 1) := ⟨_, rfl⟩
    have lO : O ≤ M - 1 := by rw [hO]; exact Nat.and_le_right
    have eAnd : bits .and .u64 (Y : Int) ((M : Int) - 1) = (O : Int) := by
      rw [show ((M : Int) - 1) = ((M - 1 : Nat) : Int) by omega, bits_and_u64_nat _ _ lY (by omega), hO]
    obtain ⟨g, hg0⟩ : ∃ g : Nat → Nat, ∀ x, g x = E[x]! := ⟨_, fun _ => rfl⟩
    have hz : (lbPut w n blk off E).heap.size = w.heap.size := by simp [lbPut]
    have hcell : ∀ x, x < d.size → wr.cell? ⟨blk, off + x, none⟩ = some (.int .u64 (g x)) := fun x hx => by
      rw [hw, cell?_grow _ _ _ (by rw [hz]; exact hblk), hg0]; exact cell?_putRow lbV _ _ _ d E (holds_ahead _ _ _ _ _ _ hH.out) hs x (by omega)
    have hfree : ∀ x, x < d.size → wr.frozen? ⟨blk, off + x, none⟩ = false := fun x hx => by
      rw [hw, frozen?_grow _ _ _ (by rw [hz]; exact hblk), lbPut, frozen?_putRow]; exact ((holds_ahead _ _ n _ _ _ hH.out) x hx).2
    have hcB : wr.cell? ⟨w.heap.size, 0, none⟩ = some (.int .u64 (R : Int)) := by rw [hw, hRr, ← hz]; exact grow_one_cell _ _ _
    have hfB : wr.frozen? ⟨w.heap.size, 0, none⟩ = false := by rw [hw, ← hz]; exact grow_one_frozen _ _ _
    have hNext : Calls Tryz.prog 101 #[.pointer (some ⟨w.heap.size, 0, none⟩)] wr fun e w' => e = .returned (.int .u64 (Y : Int)) ∧ w' = (wr.setCell ⟨w.heap.size, 0, none⟩ (.int .u64 (Y : Int))).drewN 3 := by
      rw [hY]; exact lbNext_any _ _ R lR wr hcB hfB
    have hW : Hid (wr = grow (lbPut w n blk off E) #[Obj.cells #[.int .u64 (r.toNat : Int)] 127]) := hw
    have hg : Hid (∀ x, g x = E[x]!) := hg0
    have hR : Hid (bpRest a L M (a + L / 4 * 2 - 1) (3 - t) t (r, E) = bpRest a L M (a + L / 4 * 2 - 1) 3 0 (UInt64.ofNat L, d)) := hR0
    have hN : Hid (Y = (xorNext r).toNat ∧ O = (xorNext r).toNat &&& (M - 1)) := by
      have e : Y = (xorNext r).toNat := by rw [hY, hRr, xorNext_toNat]
      exact ⟨e, by rw [hO, e]⟩
    clear hw hg0 hR0 hRr hY hO
    go_wp2_with (first | (go_at_call 101; refine hNext.mono ?_; rintro e w' ⟨rfl, rfl⟩))
    · have hLO : L ≤ O := by omega
      by_cases hEq : a + L / 4 * 2 - 1 + t = a + (O - L)
      all_goals
        go_region
        all_goals go_wp2
        go_roundw
        case rel =>
          refine ⟨t + 1, n + 4, xorNext r, swp E (a + L / 4 * 2 - 1 + t) (a + (O - L)), by first | rfl | (congr 1 <;> omega), by omega, by rw [size_swp]; exact hs, ?_, ?_⟩
          · (try rw [hEq])
            rw [hW.out, hN.out.1]
            simp only [hg.out]
            exact step_world lbV w n 4 blk off E _ _ hblk (by omega) (by omega) _ _ _
          · rw [← hR.out, bp_step a L M _ t r E (O - L) (by omega) (by rw [← hN.out.2, if_pos (by omega)])]
        case measure => simp [intOf]; omega
    · have hLO : ¬ L ≤ O := by omega
      by_cases hEq : a + L / 4 * 2 - 1 + t = a + O
      all_goals
        go_region
        all_goals go_wp2
        go_roundw
        case rel =>
          refine ⟨t + 1, n + 4, xorNext r, swp E (a + L / 4 * 2 - 1 + t) (a + O), by first | rfl | (congr 1 <;> omega), by omega, by rw [size_swp]; exact hs, ?_, ?_⟩
          · (try rw [hEq])
            rw [hW.out, hN.out.1]
            simp only [hg.out]
            exact step_world lbV w n 4 blk off E _ _ hblk (by omega) (by omega) _ _ _
          · rw [← hR.out, bp_step a L M _ t r E O (by omega) (by rw [← hN.out.2, if_neg (by omega)])]
        case measure => simp [intOf]; omega
    · obtain rfl : t = 3 := by omega
      go_end0
      exact ⟨rfl, n, _, by rw [← hR.out, hW.out]; rfl⟩

theorem lbBreak_any (blk off cap a b : Nat) (d : Array Nat) (w : World) (hH : Holds lbV w blk off d) (hblk : blk < w.heap.size) (hab : a ≤ b) (hb : b ≤ d.size) (hsz : d.size < 4611686018427387904) :
    Calls Tryz.prog 71 #[.slice (some ⟨blk, off, none⟩) d.size cap, .int .i64 a, .int .i64 b] w fun e w' =>
      e = .returned (.tuple #[]) ∧ ∃ n os, w' = grow (lbPut w n blk off (breakPatterns d a b)) os := by
  obtain ⟨L, rfl⟩ : ∃ L, b = a + L := ⟨b - a, by omega⟩
  by_cases h8 : 8 ≤ L
  · exact lbBreakGo_any blk off cap a L d w hH hblk hb hsz h8
  · have hv : breakPatterns d a (a + L) = d := by unfold breakPatterns; simp only [Nat.add_sub_cancel_left]; rw [if_neg h8]
    rw [hv]
    have hS : Hid (w = grow (lbPut w 0 blk off d) #[]) := by
      show _ = _
      rw [grow_empty, lbPut, show Sort.ahead w 0 = w from rfl, putRow_self _ _ _ _ _ hH]
    clear hH
    go_enter Tryz.func71, Tryz.ntmps71
    go_wp2
    go_end0
    exact ⟨rfl, 0, #[], hS.out⟩
end Go.Proofs.YtfibbjnkicjbpaaGreatDoor
/- The library's medians over labels: by contracts. -/
namespace Go.Proofs.YtfibbjnkicjbpaaGreatDoor
open Go Go.RowKit Go.Sort

theorem lb_aside {w : World} {blk off sb so n t : Nat} {d : Array Nat} (h : Holds lbV w blk off d) (hne : sb ≠ blk) : Holds lbV (putRow (Value.int .i64) (Sort.ahead w n) sb so (one t)) blk off d := fun j hj =>
  ⟨by rw [cell?_putRow_other _ _ _ _ _ _ (Or.inl (Ne.symm hne))]; exact (h j hj).1, by rw [frozen?_putRow]; exact (h j hj).2⟩

theorem lbOrder2_any (d : Array Nat) (len : Nat) (hlen : d.size = len) (blk off cap a b sb so s : Nat) (w : World) (hH : Holds lbV w blk off d) (ha : a < d.size) (hb : b < d.size)
    (hS : Holds (Value.int .i64) w sb so (one s)) (hs : s < 4611686018427387904) :
    Calls Tryz.prog 125 #[.slice (some ⟨blk, off, none⟩) len cap, .int .i64 a, .int .i64 b, .pointer (some ⟨sb, so, none⟩)] w fun e w' =>
      e = .returned (.tuple #[.int .i64 (order2 ltL d a b s).1, .int .i64 (order2 ltL d a b s).2.1]) ∧ ∃ n, w' = putRow (Value.int .i64) (Sort.ahead w n) sb so (one (order2 ltL d a b s).2.2) := by
  subst hlen
  have ca := (hH a ha).1
  have cb := (hH b hb).1
  obtain ⟨cs, fs⟩ := one_cell hS
  have ea : d[a]! = d[a] := getElem!_pos d a ha
  have eb : d[b]! = d[b] := getElem!_pos d b hb
  simp only [lbV] at ca cb
  go_enter Tryz.func125, Tryz.ntmps125
  go_wp2
  go_region_with (go_at_call 75; refine (lbLess_any _ _ _).mono ?_; rintro e w' ⟨rfl, rfl⟩)
  all_goals (try go_wp2)
  all_goals first
    | (have hlt : ltL d[b] d[a] = true := by first | assumption | exact decide_eq_true (by assumption)
       have e2 : order2 ltL d a b s = (b, a, s + 1) := by rw [order2, ea, eb, if_pos hlt]
       go_ret2
       rw [e2]
       refine ⟨rfl, 1, ?_⟩
       rw [putRow_ahead, ← one_set hS (s + 1)]
       simp [drew_eq_ahead])
    | (have hlt : ltL d[b] d[a] = false := by first | assumption | exact decide_eq_false (by assumption)
       have e2 : order2 ltL d a b s = (a, b, s) := by rw [order2, ea, eb, if_neg (by simp only [hlt]; decide)]
       go_ret2
       rw [e2]
       refine ⟨rfl, 1, ?_⟩
       rw [putRow_ahead, putRow_self _ _ _ _ _ hS]
       rfl)

theorem lbOrder2_lt (d : Array Nat) {a b n : Nat} (s : Nat) (ha : a < n) (hb : b < n) : (order2 ltL d a b s).1 < n ∧ (order2 ltL d a b s).2.1 < n ∧ (order2 ltL d a b s).2.2 ≤ s + 1 := by
  unfold order2
  split <;> exact ⟨by assumption, by assumption, by simp⟩
theorem lb_one {w : World} {sb so s n t : Nat} (h : Holds (Value.int .i64) w sb so (one s)) : Holds (Value.int .i64) (putRow (Value.int .i64) (Sort.ahead w n) sb so (one t)) sb so (one t) :=
  holds_putRow _ _ _ _ (one s) (one t) (holds_ahead _ _ _ _ _ _ h) rfl

set_option maxHeartbeats 1000000 in
set_option maxRecDepth 100000 in
theorem lbMedian_any (d : Array Nat) (len : Nat) (hlen : d.size = len) (blk off cap a b c sb so s : Nat) (w : World) (hH : Holds lbV w blk off d) (ha : a < d.size) (hb : b < d.size) (hc : c < d.size) (hne : sb ≠ blk)
    (hS : Holds (Value.int .i64) w sb so (one s)) (hs : s + 3 < 4611686018427387904) :
    Calls Tryz.prog 103 #[.slice (some ⟨blk, off, none⟩) len cap, .int .i64 a, .int .i64 b, .int .i64 c, .pointer (some ⟨sb, so, none⟩)] w fun e w' =>
      e = .returned (.int .i64 (median ltL d a b c s).1) ∧ ∃ n, w' = putRow (Value.int .i64) (Sort.ahead w n) sb so (one (median ltL d a b c s).2) := by
  subst hlen
  obtain ⟨p1, q1, r1⟩ := lbOrder2_lt d s ha hb
  obtain ⟨p2, q2, r2⟩ := lbOrder2_lt d (order2 ltL d a b s).2.2 q1 hc
  go_enter Tryz.func103, Tryz.ntmps103
  go_wp2_with (go_at_call_of 125 (Value.int .i64 (b : Int)); refine (lbOrder2_any d _ rfl blk off cap a b sb so s w hH ha hb hS (by omega)).mono ?_; rintro e w' ⟨rfl, n1, rfl⟩)
  go_wp2_with (go_at_call_of 125 (Value.int .i64 (c : Int)); refine (lbOrder2_any d _ rfl blk off cap (order2 ltL d a b s).2.1 c sb so (order2 ltL d a b s).2.2 _ (lb_aside hH hne) q1 hc (lb_one hS) (by omega)).mono ?_; rintro e w' ⟨rfl, n2, rfl⟩)
  go_wp2_with (go_at_call_of 125 (Value.int .i64 ((order2 ltL d a b s).1 : Int)); refine (lbOrder2_any d _ rfl blk off cap (order2 ltL d a b s).1 (order2 ltL d (order2 ltL d a b s).2.1 c (order2 ltL d a b s).2.2).1 sb so (order2 ltL d (order2 ltL d a b s).2.1 c (order2 ltL d a b s).2.2).2.2 _
    (lb_aside (lb_aside hH hne) hne) p1 p2 (lb_one (lb_one hS)) (by omega)).mono ?_; rintro e w' ⟨rfl, n3, rfl⟩)
  go_ret
  refine ⟨rfl, n1 + (n2 + n3), ?_⟩
  rw [one_one, one_one]
  rfl

set_option maxHeartbeats 1000000 in
set_option maxRecDepth 100000 in
theorem lbMedianAdj_any (d : Array Nat) (len : Nat) (hlen : d.size = len) (blk off cap a sb so s : Nat) (w : World) (hH : Holds lbV w blk off d) (ha0 : 1 ≤ a) (ha : a + 1 < d.size) (hsz : d.size < 4611686018427387904) (hne : sb ≠ blk)
    (hS : Holds (Value.int .i64) w sb so (one s)) (hs : s + 3 < 4611686018427387904) :
    Calls Tryz.prog 102 #[.slice (some ⟨blk, off, none⟩) len cap, .int .i64 a, .pointer (some ⟨sb, so, none⟩)] w fun e w' =>
      e = .returned (.int .i64 (medianAdjacent ltL d a s).1) ∧ ∃ n, w' = putRow (Value.int .i64) (Sort.ahead w n) sb so (one (medianAdjacent ltL d a s).2) := by
  subst hlen
  go_enter Tryz.func102, Tryz.ntmps102
  go_wp2_with (go_at_call 103; rw [show ((a : Int) - 1) = ((a - 1 : Nat) : Int) by omega, show ((a : Int) + 1) = ((a + 1 : Nat) : Int) by omega]; refine (lbMedian_any d _ rfl blk off cap (a - 1) a (a + 1) sb so s w hH (by omega) (by omega) ha hne hS hs).mono ?_; rintro e w' ⟨rfl, n1, rfl⟩)
  go_ret
  exact ⟨rfl, n1, rfl⟩
end Go.Proofs.YtfibbjnkicjbpaaGreatDoor
/- The library's choice of a pivot over labels: by a contract. -/
namespace Go.Proofs.YtfibbjnkicjbpaaGreatDoor
open Go Go.RowKit Go.Sort

theorem lbCounter (w : World) (N S : Nat) : ∃ os, putRow (Value.int .i64) (Sort.ahead (w.alloc (.cells #[.int .i64 0] 3)) N) w.heap.size 0 (one S) = grow (Sort.ahead w N) os := by
  rw [alloc_eq_grow, ahead_grow]
  obtain ⟨os, _, h⟩ := putRow_grow_new (Value.int .i64) (Sort.ahead w N) #[.cells #[.int .i64 0] 3] w.heap.size 0 (one S) (Nat.le_refl _)
  exact ⟨os, h⟩
theorem lbPivotWorld (blk off cap : Nat) (d : Array Nat) (w : World) (hH : Holds lbV w blk off d) (hblk : blk < w.heap.size) (hsz : d.size < 4611686018427387904) :
    ∃ F : Nat → Nat → World, w.alloc (.cells #[.int .i64 0] 3) = F 0 0 ∧
      (∀ N S : Nat, (F N S).cell? ⟨w.heap.size, 0, none⟩ = some (.int .i64 (S : Int))) ∧ (∀ N S : Nat, ∃ os, F N S = grow (Sort.ahead w N) os) ∧
      (∀ x s N : Nat, 1 ≤ x → x + 1 < d.size → s + 3 < 4611686018427387904 → Calls Tryz.prog 102 #[Value.slice (some ⟨blk, off, none⟩) d.size cap, .int .i64 (x : Int), Value.pointer (some ⟨w.heap.size, 0, none⟩)] (F N s) fun e w' =>
        e = .returned (.int .i64 ((medianAdjacent ltL d x s).1 : Int)) ∧ ∃ M, w' = F M (medianAdjacent ltL d x s).2) ∧
      (∀ x y z s N : Nat, x < d.size → y < d.size → z < d.size → s + 3 < 4611686018427387904 → Calls Tryz.prog 103 #[Value.slice (some ⟨blk, off, none⟩) d.size cap, .int .i64 (x : Int), .int .i64 (y : Int), .int .i64 (z : Int), Value.pointer (some ⟨w.heap.size, 0, none⟩)] (F N s) fun e w' =>
        e = .returned (.int .i64 ((median ltL d x y z s).1 : Int)) ∧ ∃ M, w' = F M (median ltL d x y z s).2) := by
  have hne : w.heap.size ≠ blk := by omega
  have h0 : Holds lbV (w.alloc (.cells #[.int .i64 0] 3)) blk off d := by rw [alloc_eq_grow]; exact holds_grow _ _ _ _ _ _ hblk hH
  have s0 : Holds (Value.int .i64) (w.alloc (.cells #[.int .i64 0] 3)) w.heap.size 0 (one 0) := fun j hj => by
    obtain rfl : j = 0 := by simpa using hj
    simp
  refine ⟨fun N S => putRow (Value.int .i64) (Sort.ahead (w.alloc (.cells #[.int .i64 0] 3)) N) w.heap.size 0 (one S), (putRow_self _ _ _ _ _ s0).symm, fun N S => (one_cell (lb_one (n := N) (t := S) s0)).1, fun N S => lbCounter w N S, ?_, ?_⟩
  · intro x s N h1 h2 hs
    refine (lbMedianAdj_any d _ rfl blk off cap x w.heap.size 0 s _ (lb_aside h0 hne) h1 h2 (by omega) hne (lb_one s0) (by omega)).mono ?_
    rintro e w' ⟨he, n, hw⟩
    exact ⟨he, N + n, by rw [hw, one_one]⟩
  · intro x y z s N h1 h2 h3 hs
    refine (lbMedian_any d _ rfl blk off cap x y z w.heap.size 0 s _ (lb_aside h0 hne) h1 h2 h3 hne (lb_one s0) (by omega)).mono ?_
    rintro e w' ⟨he, n, hw⟩
    exact ⟨he, N + n, by rw [hw, one_one]⟩

set_option maxHeartbeats 1000000 in
set_option maxRecDepth 100000 in
theorem lbPivot_any (blk off cap a b : Nat) (d : Array Nat) (w : World) (hH : Holds lbV w blk off d) (hblk : blk < w.heap.size) (hab : a < b) (hb : b ≤ d.size) (hsz : d.size < 4611686018427387904) :
    Calls Tryz.prog 72 #[.slice (some ⟨blk, off, none⟩) d.size cap, .int .i64 a, .int .i64 b] w fun e w' =>
      e = .returned (.tuple #[.int .i64 (choosePivot ltL d a b).1, .int .i64 (hintCode (choosePivot ltL d a b).2)]) ∧ ∃ n os, w' = grow (Sort.ahead w n) os := by
  obtain ⟨F, f0, fS, hG, cMA, cMD⟩ := lbPivotWorld blk off cap d w hH hblk hsz
  clear hH
  rw [choosePivot_eq]
  obtain ⟨I, hI⟩ : ∃ I : Nat, I = a + (b - a) / 4 * 1 := ⟨_, rfl⟩
  obtain ⟨J, hJ⟩ : ∃ J : Nat, J = a + (b - a) / 4 * 2 := ⟨_, rfl⟩
  obtain ⟨K, hK⟩ : ∃ K : Nat, K = a + (b - a) / 4 * 3 := ⟨_, rfl⟩
  have eI : ((a : Int) + ((b : Int) - (a : Int)) / 4) = (I : Int) := by omega
  have eJ : ((a : Int) + ((b : Int) - (a : Int)) / 4 * 2) = (J : Int) := by omega
  have eK : ((a : Int) + ((b : Int) - (a : Int)) / 4 * 3) = (K : Int) := by omega
  by_cases h8 : b - a ≥ 8
  · by_cases h50 : b - a ≥ 50
    · obtain ⟨i1, s1, h1⟩ : ∃ i1 s1, medianAdjacent ltL d I 0 = (i1, s1) := ⟨_, _, rfl⟩
      obtain ⟨j1, s2, h2⟩ : ∃ j1 s2, medianAdjacent ltL d J s1 = (j1, s2) := ⟨_, _, rfl⟩
      obtain ⟨k1, s3, h3⟩ : ∃ k1 s3, medianAdjacent ltL d K s2 = (k1, s3) := ⟨_, _, rfl⟩
      obtain ⟨p, s, h4⟩ : ∃ p s, median ltL d i1 j1 k1 s3 = (p, s) := ⟨_, _, rfl⟩
      have hraw : rawPivot ltL d a b = (p, s) := by simp only [rawPivot, if_pos h8, if_pos h50, ← hI, ← hJ, ← hK, h1, h2, h3, h4]
      have m1 := medianAdjacent_mem ltL d I 0; rw [h1] at m1
      have m2 := medianAdjacent_mem ltL d J s1; rw [h2] at m2
      have m3 := medianAdjacent_mem ltL d K s2; rw [h3] at m3
      have n1 := medianAdjacent_count ltL d I 0; rw [h1] at n1
      have n2 := medianAdjacent_count ltL d J s1; rw [h2] at n2
      have n3 := medianAdjacent_count ltL d K s2; rw [h3] at n3
      simp only [] at m1 m2 m3 n1 n2 n3
      have c1 := cMA I 0 0 (by omega) (by omega) (by omega)
      have c2 := fun N => cMA J s1 N (by omega) (by omega) (by omega)
      have c3 := fun N => cMA K s2 N (by omega) (by omega) (by omega)
      have c4 := fun N => cMD i1 j1 k1 s3 N (by omega) (by omega) (by omega) (by omega)
      simp only [h1] at c1
      simp only [h2] at c2
      simp only [h3] at c3
      simp only [h4] at c4
      rw [hraw]
      obtain ⟨q, hq⟩ : ∃ q : Int, q = hintCode (hintOf s) := ⟨_, rfl⟩
      have x0 : s = 0 → q = 1 := fun h => by rw [hq, h]; rfl
      have x12 : s = 12 → q = 2 := fun h => by rw [hq, h]; rfl
      have xx : s ≠ 0 → s ≠ 12 → q = 0 := fun h1 h2 => by rw [hq]; unfold hintOf; rw [if_neg h1, if_neg h2]; rfl
      show Calls Tryz.prog 72 _ w fun e w' => e = .returned (.tuple #[.int .i64 (p : Int), .int .i64 (hintCode (hintOf s))]) ∧ ∃ n os, w' = grow (Sort.ahead w n) os
      rw [← hq]
      clear hq hraw
      clear h1 h2 h3 h4 cMA cMD hI hJ hK m1 m2 m3
      go_enter Tryz.func72, Tryz.ntmps72
      go_wp2_with (first
        | (go_at_call_has 102 (Value.int .i64 (I : Int)); refine c1.mono ?_; rintro e w' ⟨rfl, N1, rfl⟩)
        | (go_at_call_has 102 (Value.int .i64 (J : Int)); refine (c2 _).mono ?_; rintro e w' ⟨rfl, N2, rfl⟩)
        | (go_at_call_has 102 (Value.int .i64 (K : Int)); refine (c3 _).mono ?_; rintro e w' ⟨rfl, N3, rfl⟩)
        | (go_at_call 103; refine (c4 _).mono ?_; rintro e w' ⟨rfl, N4, rfl⟩))
      all_goals
        go_ret2
        refine ⟨?_, _, hG _ _⟩
        first
          | (have e0 : (s : Int) = 0 := of_beq_int (by assumption)
             rw [x0 (by omega)]; rfl)
          | (have e1 : (s : Int) = 12 := of_beq_int (by assumption)
             rw [x12 (by omega)]; rfl)
          | (have e0 : (s : Int) ≠ 0 := of_bne_int (by assumption)
             have e1 : (s : Int) ≠ 12 := of_bne_int (by assumption)
             rw [xx (by omega) (by omega)]; rfl)
          | (rw [x0 (by omega)]; rfl)
    · obtain ⟨p, s, h4⟩ : ∃ p s, median ltL d I J K 0 = (p, s) := ⟨_, _, rfl⟩
      have hraw : rawPivot ltL d a b = (p, s) := by simp only [rawPivot, if_pos h8, if_neg h50, ← hI, ← hJ, ← hK, h4]
      have c4 := cMD I J K 0 0 (by omega) (by omega) (by omega) (by omega)
      simp only [h4] at c4
      rw [hraw]
      obtain ⟨q, hq⟩ : ∃ q : Int, q = hintCode (hintOf s) := ⟨_, rfl⟩
      have x0 : s = 0 → q = 1 := fun h => by rw [hq, h]; rfl
      have x12 : s = 12 → q = 2 := fun h => by rw [hq, h]; rfl
      have xx : s ≠ 0 → s ≠ 12 → q = 0 := fun h1 h2 => by rw [hq]; unfold hintOf; rw [if_neg h1, if_neg h2]; rfl
      show Calls Tryz.prog 72 _ w fun e w' => e = .returned (.tuple #[.int .i64 (p : Int), .int .i64 (hintCode (hintOf s))]) ∧ ∃ n os, w' = grow (Sort.ahead w n) os
      rw [← hq]
      clear hq hraw
      clear h4 cMA cMD hI hJ hK
      go_enter Tryz.func72, Tryz.ntmps72
      go_wp2_with (first | (go_at_call 103; refine c4.mono ?_; rintro e w' ⟨rfl, N4, rfl⟩))
      all_goals
        go_ret2
        refine ⟨?_, _, hG _ _⟩
        first
          | (have e0 : (s : Int) = 0 := of_beq_int (by assumption)
             rw [x0 (by omega)]; rfl)
          | (have e1 : (s : Int) = 12 := of_beq_int (by assumption)
             rw [x12 (by omega)]; rfl)
          | (have e0 : (s : Int) ≠ 0 := of_bne_int (by assumption)
             have e1 : (s : Int) ≠ 12 := of_bne_int (by assumption)
             rw [xx (by omega) (by omega)]; rfl)
          | (rw [x0 (by omega)]; rfl)
  · obtain ⟨p, hp⟩ : ∃ p : Nat, p = J := ⟨_, rfl⟩
    obtain ⟨s, hs⟩ : ∃ s : Nat, s = 0 := ⟨_, rfl⟩
    have hraw : rawPivot ltL d a b = (p, s) := by simp only [rawPivot, if_neg h8, ← hJ, hp, hs]
    rw [hraw]
    obtain ⟨q, hq⟩ : ∃ q : Int, q = hintCode (hintOf s) := ⟨_, rfl⟩
    have x0 : s = 0 → q = 1 := fun h => by rw [hq, h]; rfl
    have x12 : s = 12 → q = 2 := fun h => by rw [hq, h]; rfl
    have xx : s ≠ 0 → s ≠ 12 → q = 0 := fun h1 h2 => by rw [hq]; unfold hintOf; rw [if_neg h1, if_neg h2]; rfl
    show Calls Tryz.prog 72 _ w fun e w' => e = .returned (.tuple #[.int .i64 (p : Int), .int .i64 (hintCode (hintOf s))]) ∧ ∃ n os, w' = grow (Sort.ahead w n) os
    rw [← hq]
    clear hq hraw
    subst hp
    clear cMA cMD hI hJ hK
    have f1 : w.alloc (.cells #[.int .i64 0] 3) = F 0 s := by rw [hs]; exact f0
    clear f0
    go_enter Tryz.func72, Tryz.ntmps72
    go_wp2
    all_goals
      go_ret2
      refine ⟨?_, _, hG _ _⟩
      first
        | (have e0 : (s : Int) = 0 := of_beq_int (by assumption)
           rw [x0 (by omega)]; rfl)
        | (have e1 : (s : Int) = 12 := of_beq_int (by assumption)
           rw [x12 (by omega)]; rfl)
        | (have e0 : (s : Int) ≠ 0 := of_bne_int (by assumption)
           have e1 : (s : Int) ≠ 12 := of_bne_int (by assumption)
           rw [xx (by omega) (by omega)]; rfl)
        | (rw [x0 (by omega)]; rfl)
end Go.Proofs.YtfibbjnkicjbpaaGreatDoor
/- The library's partition by equality over labels: by a contract. -/
namespace Go.Proofs.YtfibbjnkicjbpaaGreatDoor
open Go Go.RowKit Go.Sort

set_option maxHeartbeats 6400000 in
set_option maxRecDepth 100000 in
theorem lbPartEq_any (blk off cap a b pivot : Nat) (d : Array Nat) (w : World) (hH : Holds lbV w blk off d) (hap : a ≤ pivot) (hpb : pivot < b) (hb : b ≤ d.size) (hsz : d.size < 4611686018427387904) :
    Calls Tryz.prog 76 #[.slice (some ⟨blk, off, none⟩) d.size cap, .int .i64 a, .int .i64 b, .int .i64 pivot] w fun e w' =>
      e = .returned (.int .i64 (partitionEqual ltL d a b pivot).1) ∧ ∃ n, w' = lbPut w n blk off (partitionEqual ltL d a b pivot).2 := by
  show Calls _ _ _ _ fun e w' => _ ∧ ∃ n, w' = (putRow lbV w blk off (partitionEqual ltL d a b pivot).2).drewN n
  have hla : a < d.size := by omega
  have hlp : pivot < d.size := by omega
  obtain ⟨g0, hg0⟩ : ∃ g : Nat → Nat, ∀ j, g j = d[j]! := ⟨_, fun _ => rfl⟩
  have ca : w.cell? ⟨blk, off + a, none⟩ = some (.int .u64 (g0 a)) := by rw [hg0]; exact (hH a hla).1
  have fa := (hH a hla).2
  have cp : w.cell? ⟨blk, off + pivot, none⟩ = some (.int .u64 (g0 pivot)) := by rw [hg0]; exact (hH pivot hlp).1
  have fp := (hH pivot hlp).2
  obtain ⟨v0, hy0⟩ := cell?_setCell_some (w := w) (p := ⟨blk, off + a, none⟩) (x := .int .u64 (g0 pivot)) (q := ⟨blk, off + pivot, none⟩) cp
  have aG : Hid (∀ j, g0 j = d[j]!) := hg0
  have aH : Hid (Holds lbV w blk off d) := hH
  clear hg0 hH
  go_enter Tryz.func76, Tryz.ntmps76
  go_wp2
  go_region
  go_wp2
  go_loopw [9, 10] (fun vi vj W => ∃ (i j n : Nat) (E : Array Nat), vi = .int .i64 i ∧ vj = .int .i64 j ∧ a < i ∧ i ≤ j + 1 ∧ j < b ∧ E.size = d.size ∧ W = (putRow lbV w blk off E).drewN n ∧
      partEqLoop ltL a i j E = partEqLoop ltL a (a + 1) (b - 1) (swp d a pivot)) (fun vi vj _ => (intOf vj).toNat + 1 - (intOf vi).toNat)
  case atStart =>
    refine ⟨a + 1, b - 1, 1, swp d a pivot, by go_num, by go_num, by omega, by omega, by omega, size_swp _ _ _, ?_, rfl⟩
    have e := swap_worldC lbV w blk off d 0 a pivot hla hlp
    rw [putRow_self _ w blk off d aH.out] at e
    rw [aG.out a, aG.out pivot]
    exact e
  case round =>
    obtain ⟨i, j, n, E, rfl, rfl, hai, hij, hjb, hs, hw, heq⟩ := hrel
    clear ca fa cp fp hy0 v0 aG
    rename World => W1
    have hK : Holds lbV W1 blk off E := by rw [hw]; exact holds_putRow lbV w blk off d E aH.out hs
    obtain ⟨g, hg0⟩ : ∃ g : Nat → Nat, ∀ t, g t = E[t]! := ⟨_, fun _ => rfl⟩
    have hc : ∀ t, t < d.size → W1.cell? ⟨blk, off + t, none⟩ = some (.int .u64 (g t)) := fun t ht => by rw [hg0]; exact (hK t (by omega)).1
    have hf : ∀ t, t < d.size → W1.frozen? ⟨blk, off + t, none⟩ = false := fun t ht => (hK t (by omega)).2
    have hg : Hid (∀ t, g t = E[t]!) := hg0
    have hW : Hid (W1 = (putRow lbV w blk off E).drewN n) := hw
    have hE : Hid (partEqLoop ltL a i j E = partEqLoop ltL a (a + 1) (b - 1) (swp d a pivot)) := heq
    clear hg0 hw heq hK
    go_wp2
    go_loopw [9] (fun v w1 => ∃ (i' n1 : Nat), v = .int .i64 i' ∧ i ≤ i' ∧ i' ≤ j + 1 ∧ w1 = W1.drewN n1 ∧ Hid (scanUp (fun x => !ltL E[a]! x) E j i' = scanUp (fun x => !ltL E[a]! x) E j i)) (fun v _ => j + 1 - (intOf v).toNat)
    case atStart => exact ⟨i, 0, rfl, Nat.le_refl _, hij, rfl, rfl⟩
    case round =>
      obtain ⟨i', n1, rfl, hii, hij', w1e, hsc⟩ := hrel
      have hcw : ∀ t, t < d.size → wr.cell? ⟨blk, off + t, none⟩ = some (.int .u64 (g t)) := fun t ht => by rw [w1e]; exact hc t ht
      have hW1 : Hid (wr = W1.drewN n1) := w1e
      clear w1e
      by_cases hle : i' ≤ j
      · go_wp2_with fail
        go_big_quiet (first | (go_at_call 75; refine Calls.quiet_of_same (lbLess_any _ _ _)))
        go_wp2
        · have ht : ltL (g a) (g i') = false := by first | assumption | exact decide_eq_false (by assumption) | exact decide_eq_false (Nat.not_lt.2 (by assumption)) | (have q : (!ltL (g a) (g i')) = true := (by assumption); simpa using q)
          go_roundw
          case rel => exact ⟨i' + 1, n1 + nq, by go_num, by omega, by omega, by rw [hW1.out, World.drewN_drewN], (scanUp_go (fun x => !ltL E[a]! x) E j i' hle (by show (!ltL E[a]! E[i']!) = true; rw [← hg.out a, ← hg.out i', ht]; rfl)).symm.trans hsc.out⟩
          case measure => simp [intOf]; omega
        · have ht : ltL (g a) (g i') = true := by first | assumption | exact decide_eq_true (by assumption) | (have q : (!ltL (g a) (g i')) = false := (by assumption); simpa using q)
          have hi2 : Hid (i' = scanUp (fun x => !ltL E[a]! x) E j i) := (scanUp_end (fun x => !ltL E[a]! x) E j i' (Or.inr (by show (!ltL E[a]! E[i']!) = false; rw [← hg.out a, ← hg.out i', ht]; rfl))).symm.trans hsc.out
          clear ht
          have w2e : wr.drewN nq = W1.drewN (n1 + nq) := by rw [hW1.out, World.drewN_drewN]
          clear hcw hW1 hsc
          go_loopw [10] (fun v w2 => ∃ (j' n2 : Nat), v = .int .i64 j' ∧ j' ≤ j ∧ i' ≤ j' + 1 ∧ w2 = W1.drewN n2 ∧ Hid (scanDown (fun x => ltL E[a]! x) E i' j' = scanDown (fun x => ltL E[a]! x) E i' j)) (fun v _ => (intOf v).toNat)
          case atStart => exact ⟨j, n1 + nq, rfl, Nat.le_refl _, hij', w2e, rfl⟩
          case round =>
            clear w2e
            obtain ⟨j', n2, rfl, hjj, hij2, w2e, hsd⟩ := hrel
            have hcw : ∀ t, t < d.size → wr.cell? ⟨blk, off + t, none⟩ = some (.int .u64 (g t)) := fun t ht => by rw [w2e]; exact hc t ht
            have hW2 : Hid (wr = W1.drewN n2) := w2e
            clear w2e
            by_cases hle2 : i' ≤ j'
            · go_wp2_with fail
              go_big_quiet (first | (go_at_call 75; refine Calls.quiet_of_same (lbLess_any _ _ _)))
              go_wp2
              · have ht : ltL (g a) (g j') = true := by first | assumption | exact decide_eq_true (by assumption) | (have q : (!ltL (g a) (g j')) = false := (by assumption); simpa using q)
                go_roundw
                case rel => exact ⟨j' - 1, n2 + nq, by go_num, by omega, by omega, by rw [hW2.out, World.drewN_drewN], (scanDown_go (fun x => ltL E[a]! x) E i' j' hle2 (by omega) (by rw [← hg.out a, ← hg.out j']; exact ht)).symm.trans hsd.out⟩
                case measure => simp [intOf]; omega
              · have ht : ltL (g a) (g j') = false := by first | assumption | exact decide_eq_false (by assumption) | exact decide_eq_false (Nat.not_lt.2 (by assumption)) | (have q : (!ltL (g a) (g j')) = true := (by assumption); simpa using q)
                have hj2 : Hid (j' = scanDown (fun x => ltL E[a]! x) E i' j) := (scanDown_end (fun x => ltL E[a]! x) E i' j' (Or.inr (by rw [← hg.out a, ← hg.out j']; exact ht))).symm.trans hsd.out
                clear hcw hsd ht
                have w3e : wr.drewN nq = W1.drewN (n2 + nq) := by rw [hW2.out, World.drewN_drewN]
                generalize wr.drewN nq = W3 at w3e ⊢
                have hc3 : ∀ t, t < d.size → W3.cell? ⟨blk, off + t, none⟩ = some (.int .u64 (g t)) := fun t ht => by rw [w3e]; exact hc t ht
                have hf3 : ∀ t, t < d.size → W3.frozen? ⟨blk, off + t, none⟩ = false := fun t ht => by rw [w3e]; exact hf t ht
                have hW3 : Hid (W3 = W1.drewN (n2 + nq)) := w3e
                clear w3e
                obtain ⟨v3, hy3⟩ := cell?_setCell_some (w := W3) (p := ⟨blk, off + i', none⟩) (x := .int .u64 (g j')) (q := ⟨blk, off + j', none⟩) (hc3 j' (by omega))
                have hlt3 := scans_lt ltL a i j E (by omega) hi2.out hj2.out hle2
                go_wp2
                go_region
                all_goals go_wp2
                all_goals go_roundw
                case rel =>
                  refine ⟨i' + 1, j' - 1, n + (n2 + nq) + 1, swp E i' j', by go_num, by go_num, by omega, by omega, by omega, by rw [size_swp]; exact hs, ?_, ?_⟩
                  · rw [hW3.out, hW.out, World.drewN_drewN, hg.out i', hg.out j']
                    exact swap_worldC lbV w blk off E _ i' j' (by omega) (by omega)
                  · rw [← hE.out]; exact (partEq_go ltL a i j E hi2.out hj2.out (by omega)).symm
                case measure => simp [intOf]; omega
            · go_wp2_with fail
              go_big_quiet (first | (go_at_call 75; refine Calls.quiet_of_same (lbLess_any _ _ _)))
              have hj2 : Hid (j' = scanDown (fun x => ltL E[a]! x) E i' j) := (scanDown_end (fun x => ltL E[a]! x) E i' j' (Or.inl hle2)).symm.trans hsd.out
              clear hcw hsd
              
              have w3e : wr.drewN nq = W1.drewN (n2 + nq) := by rw [hW2.out, World.drewN_drewN]
              generalize wr.drewN nq = W3 at w3e ⊢
              have hc3 : ∀ t, t < d.size → W3.cell? ⟨blk, off + t, none⟩ = some (.int .u64 (g t)) := fun t ht => by rw [w3e]; exact hc t ht
              have hf3 : ∀ t, t < d.size → W3.frozen? ⟨blk, off + t, none⟩ = false := fun t ht => by rw [w3e]; exact hf t ht
              have hW3 : Hid (W3 = W1.drewN (n2 + nq)) := w3e
              clear w3e
              go_wp2
              go_ret
              have e := partEq_break ltL a i j E hi2.out hj2.out (by omega)
              refine ⟨?_, n + (n2 + nq), ?_⟩
              · unfold partitionEqual; rw [← hE.out, e]; rfl
              · unfold partitionEqual; rw [← hE.out, e, hW3.out, hW.out, World.drewN_drewN]
      · go_wp2_with fail
        go_big_quiet (first | (go_at_call 75; refine Calls.quiet_of_same (lbLess_any _ _ _)))
        go_wp2
        have hi2 : Hid (i' = scanUp (fun x => !ltL E[a]! x) E j i) := (scanUp_end (fun x => !ltL E[a]! x) E j i' (Or.inl hle)).symm.trans hsc.out
        have w2e : wr.drewN nq = W1.drewN (n1 + nq) := by rw [hW1.out, World.drewN_drewN]
        clear hcw hW1 hsc
        go_loopw [10] (fun v w2 => ∃ (j' n2 : Nat), v = .int .i64 j' ∧ j' ≤ j ∧ i' ≤ j' + 1 ∧ w2 = W1.drewN n2 ∧ Hid (scanDown (fun x => ltL E[a]! x) E i' j' = scanDown (fun x => ltL E[a]! x) E i' j)) (fun v _ => (intOf v).toNat)
        case atStart => exact ⟨j, n1 + nq, rfl, Nat.le_refl _, hij', w2e, rfl⟩
        case round =>
          clear w2e
          obtain ⟨j', n2, rfl, hjj, hij2, w2e, hsd⟩ := hrel
          have hcw : ∀ t, t < d.size → wr.cell? ⟨blk, off + t, none⟩ = some (.int .u64 (g t)) := fun t ht => by rw [w2e]; exact hc t ht
          have hW2 : Hid (wr = W1.drewN n2) := w2e
          clear w2e
          by_cases hle2 : i' ≤ j'
          · exfalso; omega
          · go_wp2_with fail
            go_big_quiet (first | (go_at_call 75; refine Calls.quiet_of_same (lbLess_any _ _ _)))
            have hj2 : Hid (j' = scanDown (fun x => ltL E[a]! x) E i' j) := (scanDown_end (fun x => ltL E[a]! x) E i' j' (Or.inl hle2)).symm.trans hsd.out
            clear hcw hsd
            
            have w3e : wr.drewN nq = W1.drewN (n2 + nq) := by rw [hW2.out, World.drewN_drewN]
            generalize wr.drewN nq = W3 at w3e ⊢
            have hc3 : ∀ t, t < d.size → W3.cell? ⟨blk, off + t, none⟩ = some (.int .u64 (g t)) := fun t ht => by rw [w3e]; exact hc t ht
            have hf3 : ∀ t, t < d.size → W3.frozen? ⟨blk, off + t, none⟩ = false := fun t ht => by rw [w3e]; exact hf t ht
            have hW3 : Hid (W3 = W1.drewN (n2 + nq)) := w3e
            clear w3e
            go_wp2
            go_ret
            have e := partEq_break ltL a i j E hi2.out hj2.out (by omega)
            refine ⟨?_, n + (n2 + nq), ?_⟩
            · unfold partitionEqual; rw [← hE.out, e]; rfl
            · unfold partitionEqual; rw [← hE.out, e, hW3.out, hW.out, World.drewN_drewN]
end Go.Proofs.YtfibbjnkicjbpaaGreatDoor
/- The library's partition over labels: by a contract. -/
namespace Go.Proofs.YtfibbjnkicjbpaaGreatDoor
open Go Go.RowKit Go.Sort

set_option maxHeartbeats 12800000 in
set_option maxRecDepth 100000 in
theorem lbPart_any (blk off cap a b pivot : Nat) (d : Array Nat) (w : World) (hH : Holds lbV w blk off d) (hap : a ≤ pivot) (hpb : pivot < b) (hb : b ≤ d.size) (hsz : d.size < 4611686018427387904) :
    Calls Tryz.prog 77 #[.slice (some ⟨blk, off, none⟩) d.size cap, .int .i64 a, .int .i64 b, .int .i64 pivot] w fun e w' =>
      e = .returned (.tuple #[.int .i64 (partition ltL d a b pivot).1, .bool (partition ltL d a b pivot).2.1]) ∧ ∃ n, w' = lbPut w n blk off (partition ltL d a b pivot).2.2 := by
  show Calls _ _ _ _ fun e w' => _ ∧ ∃ n, w' = (putRow lbV w blk off (partition ltL d a b pivot).2.2).drewN n
  have hla : a < d.size := by omega
  have hlp : pivot < d.size := by omega
  obtain ⟨g0, hg0⟩ : ∃ g : Nat → Nat, ∀ j, g j = d[j]! := ⟨_, fun _ => rfl⟩
  have ca : w.cell? ⟨blk, off + a, none⟩ = some (.int .u64 (g0 a)) := by rw [hg0]; exact (hH a hla).1
  have fa := (hH a hla).2
  have cp : w.cell? ⟨blk, off + pivot, none⟩ = some (.int .u64 (g0 pivot)) := by rw [hg0]; exact (hH pivot hlp).1
  have fp := (hH pivot hlp).2
  obtain ⟨v0, hy0⟩ := cell?_setCell_some (w := w) (p := ⟨blk, off + a, none⟩) (x := .int .u64 (g0 pivot)) (q := ⟨blk, off + pivot, none⟩) cp
  have hw : ((w.setCell ⟨blk, off + a, none⟩ (.int .u64 (g0 pivot))).setCell ⟨blk, off + pivot, none⟩ (.int .u64 (g0 a))).drew = (putRow lbV w blk off (swp d a pivot)).drewN 1 := by
    have e := swap_worldC lbV w blk off d 0 a pivot hla hlp
    rw [putRow_self _ w blk off d hH] at e
    rw [hg0 a, hg0 pivot]
    exact e
  have aH : Hid (Holds lbV w blk off d) := hH
  have hW0 := Hid.mk' hw
  clear hg0 hH hw
  go_enter Tryz.func77, Tryz.ntmps77
  go_wp2
  go_region
  go_wp2
  clear ca fa cp fp hy0 v0
  have hw := hW0.out
  clear hW0
  generalize ((w.setCell ⟨blk, off + a, none⟩ (.int .u64 (g0 pivot))).setCell ⟨blk, off + pivot, none⟩ (.int .u64 (g0 a))).drew = W1 at hw ⊢
  obtain ⟨E, hE0⟩ : ∃ E, E = swp d a pivot := ⟨_, rfl⟩
  obtain ⟨n, hn⟩ : ∃ n : Nat, n = 1 := ⟨_, rfl⟩
  rw [← hE0, ← hn] at hw
  clear hn
  have hs : E.size = d.size := by rw [hE0, size_swp]
  rw [show ((a : Int) + 1) = ((a + 1 : Nat) : Int) by omega, show ((b : Int) - 1) = ((b - 1 : Nat) : Int) by omega]
  obtain ⟨i, hi⟩ : ∃ i, i = a + 1 := ⟨_, rfl⟩
  obtain ⟨j, hj⟩ : ∃ j, j = b - 1 := ⟨_, rfl⟩
  rw [← hi, ← hj]
  have hai : a < i := by omega
  have hij : i ≤ j + 1 := by omega
  have hjb : j < b := by omega
  have hI := Hid.mk' hi
  have hJ := Hid.mk' hj
  have hD := Hid.mk' hE0
  clear hi hj hE0
  have hK : Holds lbV W1 blk off E := by rw [hw]; exact holds_putRow lbV w blk off d E aH.out hs
  obtain ⟨g, hg0⟩ : ∃ g : Nat → Nat, ∀ t, g t = E[t]! := ⟨_, fun _ => rfl⟩
  have hc : ∀ t, t < d.size → W1.cell? ⟨blk, off + t, none⟩ = some (.int .u64 (g t)) := fun t ht => by rw [hg0]; exact (hK t (by omega)).1
  have hf : ∀ t, t < d.size → W1.frozen? ⟨blk, off + t, none⟩ = false := fun t ht => (hK t (by omega)).2
  have hg : Hid (∀ t, g t = E[t]!) := hg0
  have hW : Hid (W1 = (putRow lbV w blk off E).drewN n) := hw
  clear hg0 hw hK
  go_loopw [10] (fun v w1 => ∃ (i' n1 : Nat), v = .int .i64 i' ∧ i ≤ i' ∧ i' ≤ j + 1 ∧ w1 = W1.drewN n1 ∧ Hid (scanUp (fun x => ltL x E[a]!) E j i' = scanUp (fun x => ltL x E[a]!) E j i)) (fun v _ => j + 1 - (intOf v).toNat)
  case atStart => exact ⟨i, 0, rfl, Nat.le_refl _, hij, rfl, rfl⟩
  case round =>
    obtain ⟨i', n1, rfl, hii, hij', w1e, hsc⟩ := hrel
    have hcw : ∀ t, t < d.size → wr.cell? ⟨blk, off + t, none⟩ = some (.int .u64 (g t)) := fun t ht => by rw [w1e]; exact hc t ht
    have hW1 : Hid (wr = W1.drewN n1) := w1e
    clear w1e
    by_cases hle : i' ≤ j
    · go_wp2_with fail
      go_big_quiet (first | (go_at_call 75; refine Calls.quiet_of_same (lbLess_any _ _ _)))
      go_wp2
      · have ht : ltL (g i') (g a) = true := by first | assumption | exact decide_eq_true (by assumption) | (have q : (!ltL (g i') (g a)) = false := (by assumption); simpa using q)
        go_roundw
        case rel => exact ⟨i' + 1, n1 + nq, by go_num, by omega, by omega, by rw [hW1.out, World.drewN_drewN], (scanUp_go (fun x => ltL x E[a]!) E j i' hle (by show ltL E[i']! E[a]! = true; rw [← hg.out a, ← hg.out i', ht])).symm.trans hsc.out⟩
        case measure => simp [intOf]; omega
      · have ht : ltL (g i') (g a) = false := by first | assumption | exact decide_eq_false (by assumption) | exact decide_eq_false (Nat.not_lt.2 (by assumption)) | (have q : (!ltL (g i') (g a)) = true := (by assumption); simpa using q)
        have hi2 : Hid (i' = scanUp (fun x => ltL x E[a]!) E j i) := (scanUp_end (fun x => ltL x E[a]!) E j i' (Or.inr (by show ltL E[i']! E[a]! = false; rw [← hg.out a, ← hg.out i', ht]))).symm.trans hsc.out
        clear ht
        have w2e : wr.drewN nq = W1.drewN (n1 + nq) := by rw [hW1.out, World.drewN_drewN]
        clear hcw hW1 hsc
        go_loopw [11] (fun v w2 => ∃ (j' n2 : Nat), v = .int .i64 j' ∧ j' ≤ j ∧ i' ≤ j' + 1 ∧ w2 = W1.drewN n2 ∧ Hid (scanDown (fun x => !ltL x E[a]!) E i' j' = scanDown (fun x => !ltL x E[a]!) E i' j)) (fun v _ => (intOf v).toNat)
        case atStart => exact ⟨j, n1 + nq, rfl, Nat.le_refl _, hij', w2e, rfl⟩
        case round =>
          clear w2e
          obtain ⟨j', n2, rfl, hjj, hij2, w2e, hsd⟩ := hrel
          have hcw : ∀ t, t < d.size → wr.cell? ⟨blk, off + t, none⟩ = some (.int .u64 (g t)) := fun t ht => by rw [w2e]; exact hc t ht
          have hW2 : Hid (wr = W1.drewN n2) := w2e
          clear w2e
          by_cases hle2 : i' ≤ j'
          · go_wp2_with fail
            go_big_quiet (first | (go_at_call 75; refine Calls.quiet_of_same (lbLess_any _ _ _)))
            go_wp2
            · have ht : ltL (g j') (g a) = false := by first | assumption | exact decide_eq_false (by assumption) | exact decide_eq_false (Nat.not_lt.2 (by assumption)) | (have q : (!ltL (g j') (g a)) = true := (by assumption); simpa using q)
              go_roundw
              case rel => exact ⟨j' - 1, n2 + nq, by go_num, by omega, by omega, by rw [hW2.out, World.drewN_drewN], (scanDown_go (fun x => !ltL x E[a]!) E i' j' hle2 (by omega) (by show (!ltL E[j']! E[a]!) = true; rw [← hg.out a, ← hg.out j', ht]; rfl)).symm.trans hsd.out⟩
              case measure => simp [intOf]; omega
            · have ht : ltL (g j') (g a) = true := by first | assumption | exact decide_eq_true (by assumption) | (have q : (!ltL (g j') (g a)) = false := (by assumption); simpa using q)
              have hj2 : Hid (j' = scanDown (fun x => !ltL x E[a]!) E i' j) := (scanDown_end (fun x => !ltL x E[a]!) E i' j' (Or.inr (by show (!ltL E[j']! E[a]!) = false; rw [← hg.out a, ← hg.out j', ht]; rfl))).symm.trans hsd.out
              clear hcw hsd ht
              have w3e : wr.drewN nq = W1.drewN (n2 + nq) := by rw [hW2.out, World.drewN_drewN]
              generalize wr.drewN nq = W3 at w3e ⊢
              have hc3 : ∀ t, t < d.size → W3.cell? ⟨blk, off + t, none⟩ = some (.int .u64 (g t)) := fun t ht => by rw [w3e]; exact hc t ht
              have hf3 : ∀ t, t < d.size → W3.frozen? ⟨blk, off + t, none⟩ = false := fun t ht => by rw [w3e]; exact hf t ht
              have hW3 : Hid (W3 = W1.drewN (n2 + nq)) := w3e
              clear w3e
              obtain ⟨v3, hy3⟩ := cell?_setCell_some (w := W3) (p := ⟨blk, off + i', none⟩) (x := .int .u64 (g j')) (q := ⟨blk, off + j', none⟩) (hc3 j' (by omega))
              have hlt3 := part_scans_lt ltL a i j E (by omega) hi2.out hj2.out hle2
              go_wp2
              go_region
              all_goals go_wp2
              obtain ⟨R, hR0⟩ : ∃ R, R = partLoop ltL a (i' + 1) (j' - 1) (swp E i' j') := ⟨_, rfl⟩
              have hP : Hid (partition ltL d a b pivot = (R.1, false, swp R.2 R.1 a)) := by rw [hR0]; exact part_first_go ltL d a b pivot hI.out hJ.out hD.out hi2.out hj2.out (by omega)
              have w0e : ((W3.setCell ⟨blk, off + i', none⟩ (.int .u64 (g j'))).setCell ⟨blk, off + j', none⟩ (.int .u64 (g i'))).drew = (putRow lbV w blk off (swp E i' j')).drewN (n + (n2 + nq) + 1) := by
                rw [hW3.out, hW.out, World.drewN_drewN, hg.out i', hg.out j']
                exact swap_worldC lbV w blk off E _ i' j' (by omega) (by omega)
              have hR : Hid (R = partLoop ltL a (i' + 1) (j' - 1) (swp E i' j')) := hR0
              clear hR0 hc hf hc3 hf3 hy3 hW3 hW hg hi2 hj2
              go_loopw [10, 11] (fun vi vj W => ∃ (i j n : Nat) (E : Array Nat), vi = .int .i64 i ∧ vj = .int .i64 j ∧ a < i ∧ i ≤ j + 1 ∧ j < b ∧ E.size = d.size ∧ W = (putRow lbV w blk off E).drewN n ∧ partLoop ltL a i j E = R)
                (fun vi vj _ => (intOf vj).toNat + 1 - (intOf vi).toNat)
              case atStart => exact ⟨i' + 1, j' - 1, _, swp E i' j', by go_num, by go_num, by omega, by omega, by omega, by rw [size_swp]; exact hs, w0e, hR.out.symm⟩
              case round =>
                clear w0e hR
                obtain ⟨i, j, n, E, rfl, rfl, hai, hij, hjb, hs, hw, heq⟩ := hrel
                rename World => W1
                have hE : Hid (partLoop ltL a i j E = R) := heq
                clear heq
                have hK : Holds lbV W1 blk off E := by rw [hw]; exact holds_putRow lbV w blk off d E aH.out hs
                obtain ⟨g, hg0⟩ : ∃ g : Nat → Nat, ∀ t, g t = E[t]! := ⟨_, fun _ => rfl⟩
                have hc : ∀ t, t < d.size → W1.cell? ⟨blk, off + t, none⟩ = some (.int .u64 (g t)) := fun t ht => by rw [hg0]; exact (hK t (by omega)).1
                have hf : ∀ t, t < d.size → W1.frozen? ⟨blk, off + t, none⟩ = false := fun t ht => (hK t (by omega)).2
                have hg : Hid (∀ t, g t = E[t]!) := hg0
                have hW : Hid (W1 = (putRow lbV w blk off E).drewN n) := hw
                clear hg0 hw hK
                go_wp2
                go_loopw [10] (fun v w1 => ∃ (i' n1 : Nat), v = .int .i64 i' ∧ i ≤ i' ∧ i' ≤ j + 1 ∧ w1 = W1.drewN n1 ∧ Hid (scanUp (fun x => ltL x E[a]!) E j i' = scanUp (fun x => ltL x E[a]!) E j i)) (fun v _ => j + 1 - (intOf v).toNat)
                case atStart => exact ⟨i, 0, rfl, Nat.le_refl _, hij, rfl, rfl⟩
                case round =>
                  obtain ⟨i', n1, rfl, hii, hij', w1e, hsc⟩ := hrel
                  have hcw : ∀ t, t < d.size → wr.cell? ⟨blk, off + t, none⟩ = some (.int .u64 (g t)) := fun t ht => by rw [w1e]; exact hc t ht
                  have hW1 : Hid (wr = W1.drewN n1) := w1e
                  clear w1e
                  by_cases hle : i' ≤ j
                  · go_wp2_with fail
                    go_big_quiet (first | (go_at_call 75; refine Calls.quiet_of_same (lbLess_any _ _ _)))
                    go_wp2
                    · have ht : ltL (g i') (g a) = true := by first | assumption | exact decide_eq_true (by assumption) | (have q : (!ltL (g i') (g a)) = false := (by assumption); simpa using q)
                      go_roundw
                      case rel => exact ⟨i' + 1, n1 + nq, by go_num, by omega, by omega, by rw [hW1.out, World.drewN_drewN], (scanUp_go (fun x => ltL x E[a]!) E j i' hle (by show ltL E[i']! E[a]! = true; rw [← hg.out a, ← hg.out i', ht])).symm.trans hsc.out⟩
                      case measure => simp [intOf]; omega
                    · have ht : ltL (g i') (g a) = false := by first | assumption | exact decide_eq_false (by assumption) | exact decide_eq_false (Nat.not_lt.2 (by assumption)) | (have q : (!ltL (g i') (g a)) = true := (by assumption); simpa using q)
                      have hi2 : Hid (i' = scanUp (fun x => ltL x E[a]!) E j i) := (scanUp_end (fun x => ltL x E[a]!) E j i' (Or.inr (by show ltL E[i']! E[a]! = false; rw [← hg.out a, ← hg.out i', ht]))).symm.trans hsc.out
                      clear ht
                      have w2e : wr.drewN nq = W1.drewN (n1 + nq) := by rw [hW1.out, World.drewN_drewN]
                      clear hcw hW1 hsc
                      go_loopw [11] (fun v w2 => ∃ (j' n2 : Nat), v = .int .i64 j' ∧ j' ≤ j ∧ i' ≤ j' + 1 ∧ w2 = W1.drewN n2 ∧ Hid (scanDown (fun x => !ltL x E[a]!) E i' j' = scanDown (fun x => !ltL x E[a]!) E i' j)) (fun v _ => (intOf v).toNat)
                      case atStart => exact ⟨j, n1 + nq, rfl, Nat.le_refl _, hij', w2e, rfl⟩
                      case round =>
                        clear w2e
                        obtain ⟨j', n2, rfl, hjj, hij2, w2e, hsd⟩ := hrel
                        have hcw : ∀ t, t < d.size → wr.cell? ⟨blk, off + t, none⟩ = some (.int .u64 (g t)) := fun t ht => by rw [w2e]; exact hc t ht
                        have hW2 : Hid (wr = W1.drewN n2) := w2e
                        clear w2e
                        by_cases hle2 : i' ≤ j'
                        · go_wp2_with fail
                          go_big_quiet (first | (go_at_call 75; refine Calls.quiet_of_same (lbLess_any _ _ _)))
                          go_wp2
                          · have ht : ltL (g j') (g a) = false := by first | assumption | exact decide_eq_false (by assumption) | exact decide_eq_false (Nat.not_lt.2 (by assumption)) | (have q : (!ltL (g j') (g a)) = true := (by assumption); simpa using q)
                            go_roundw
                            case rel => exact ⟨j' - 1, n2 + nq, by go_num, by omega, by omega, by rw [hW2.out, World.drewN_drewN], (scanDown_go (fun x => !ltL x E[a]!) E i' j' hle2 (by omega) (by show (!ltL E[j']! E[a]!) = true; rw [← hg.out a, ← hg.out j', ht]; rfl)).symm.trans hsd.out⟩
                            case measure => simp [intOf]; omega
                          · have ht : ltL (g j') (g a) = true := by first | assumption | exact decide_eq_true (by assumption) | (have q : (!ltL (g j') (g a)) = false := (by assumption); simpa using q)
                            have hj2 : Hid (j' = scanDown (fun x => !ltL x E[a]!) E i' j) := (scanDown_end (fun x => !ltL x E[a]!) E i' j' (Or.inr (by show (!ltL E[j']! E[a]!) = false; rw [← hg.out a, ← hg.out j', ht]; rfl))).symm.trans hsd.out
                            clear hcw hsd ht
                            have w3e : wr.drewN nq = W1.drewN (n2 + nq) := by rw [hW2.out, World.drewN_drewN]
                            generalize wr.drewN nq = W3 at w3e ⊢
                            have hc3 : ∀ t, t < d.size → W3.cell? ⟨blk, off + t, none⟩ = some (.int .u64 (g t)) := fun t ht => by rw [w3e]; exact hc t ht
                            have hf3 : ∀ t, t < d.size → W3.frozen? ⟨blk, off + t, none⟩ = false := fun t ht => by rw [w3e]; exact hf t ht
                            have hW3 : Hid (W3 = W1.drewN (n2 + nq)) := w3e
                            clear w3e
                            obtain ⟨v3, hy3⟩ := cell?_setCell_some (w := W3) (p := ⟨blk, off + i', none⟩) (x := .int .u64 (g j')) (q := ⟨blk, off + j', none⟩) (hc3 j' (by omega))
                            have hlt3 := part_scans_lt ltL a i j E (by omega) hi2.out hj2.out hle2
                            go_wp2
                            go_region
                            all_goals go_wp2
                            all_goals go_roundw
                            case rel =>
                              refine ⟨i' + 1, j' - 1, n + (n2 + nq) + 1, swp E i' j', by go_num, by go_num, by omega, by omega, by omega, by rw [size_swp]; exact hs, ?_, ?_⟩
                              · rw [hW3.out, hW.out, World.drewN_drewN, hg.out i', hg.out j']
                                exact swap_worldC lbV w blk off E _ i' j' (by omega) (by omega)
                              · exact (part_go ltL a i j E hi2.out hj2.out (by omega)).symm.trans hE.out
                            case measure => simp [intOf]; omega
                        · go_wp2_with fail
                          go_big_quiet (first | (go_at_call 75; refine Calls.quiet_of_same (lbLess_any _ _ _)))
                          have hj2 : Hid (j' = scanDown (fun x => !ltL x E[a]!) E i' j) := (scanDown_end (fun x => !ltL x E[a]!) E i' j' (Or.inl hle2)).symm.trans hsd.out
                          clear hcw hsd
                          have w3e : wr.drewN nq = W1.drewN (n2 + nq) := by rw [hW2.out, World.drewN_drewN]
                          generalize wr.drewN nq = W3 at w3e ⊢
                          have hc3 : ∀ t, t < d.size → W3.cell? ⟨blk, off + t, none⟩ = some (.int .u64 (g t)) := fun t ht => by rw [w3e]; exact hc t ht
                          have hf3 : ∀ t, t < d.size → W3.frozen? ⟨blk, off + t, none⟩ = false := fun t ht => by rw [w3e]; exact hf t ht
                          have hW3 : Hid (W3 = W1.drewN (n2 + nq)) := w3e
                          clear w3e
                          obtain ⟨v3, hy3⟩ := cell?_setCell_some (w := W3) (p := ⟨blk, off + j', none⟩) (x := .int .u64 (g a)) (q := ⟨blk, off + a, none⟩) (hc3 a (by omega))
                          have hlj : j' < d.size := by omega
                          go_wp2
                          go_region
                          all_goals go_wp2
                          all_goals go_ret2
                          have e : partition ltL d a b pivot = (j', false, swp E j' a) := by
                            have e0 := (part_break ltL a i j E hi2.out hj2.out (by omega)).symm.trans hE.out
                            rw [hP.out, ← e0]
                          refine ⟨?_, n + (n2 + nq) + 1, ?_⟩
                          · rw [e]; rfl
                          · rw [e, hW3.out, hW.out, World.drewN_drewN, hg.out a, hg.out j']
                            exact swap_worldC lbV w blk off E _ j' a (by omega) (by omega)
                  · go_wp2_with fail
                    go_big_quiet (first | (go_at_call 75; refine Calls.quiet_of_same (lbLess_any _ _ _)))
                    go_wp2
                    have hi2 : Hid (i' = scanUp (fun x => ltL x E[a]!) E j i) := (scanUp_end (fun x => ltL x E[a]!) E j i' (Or.inl hle)).symm.trans hsc.out
                    have w2e : wr.drewN nq = W1.drewN (n1 + nq) := by rw [hW1.out, World.drewN_drewN]
                    clear hcw hW1 hsc
                    go_loopw [11] (fun v w2 => ∃ (j' n2 : Nat), v = .int .i64 j' ∧ j' ≤ j ∧ i' ≤ j' + 1 ∧ w2 = W1.drewN n2 ∧ Hid (scanDown (fun x => !ltL x E[a]!) E i' j' = scanDown (fun x => !ltL x E[a]!) E i' j)) (fun v _ => (intOf v).toNat)
                    case atStart => exact ⟨j, n1 + nq, rfl, Nat.le_refl _, hij', w2e, rfl⟩
                    case round =>
                      clear w2e
                      obtain ⟨j', n2, rfl, hjj, hij2, w2e, hsd⟩ := hrel
                      have hcw : ∀ t, t < d.size → wr.cell? ⟨blk, off + t, none⟩ = some (.int .u64 (g t)) := fun t ht => by rw [w2e]; exact hc t ht
                      have hW2 : Hid (wr = W1.drewN n2) := w2e
                      clear w2e
                      by_cases hle2 : i' ≤ j'
                      · exfalso; omega
                      · go_wp2_with fail
                        go_big_quiet (first | (go_at_call 75; refine Calls.quiet_of_same (lbLess_any _ _ _)))
                        have hj2 : Hid (j' = scanDown (fun x => !ltL x E[a]!) E i' j) := (scanDown_end (fun x => !ltL x E[a]!) E i' j' (Or.inl hle2)).symm.trans hsd.out
                        clear hcw hsd
                        have w3e : wr.drewN nq = W1.drewN (n2 + nq) := by rw [hW2.out, World.drewN_drewN]
                        generalize wr.drewN nq = W3 at w3e ⊢
                        have hc3 : ∀ t, t < d.size → W3.cell? ⟨blk, off + t, none⟩ = some (.int .u64 (g t)) := fun t ht => by rw [w3e]; exact hc t ht
                        have hf3 : ∀ t, t < d.size → W3.frozen? ⟨blk, off + t, none⟩ = false := fun t ht => by rw [w3e]; exact hf t ht
                        have hW3 : Hid (W3 = W1.drewN (n2 + nq)) := w3e
                        clear w3e
                        obtain ⟨v3, hy3⟩ := cell?_setCell_some (w := W3) (p := ⟨blk, off + j', none⟩) (x := .int .u64 (g a)) (q := ⟨blk, off + a, none⟩) (hc3 a (by omega))
                        have hlj : j' < d.size := by omega
                        go_wp2
                        go_region
                        all_goals go_wp2
                        all_goals go_ret2
                        have e : partition ltL d a b pivot = (j', false, swp E j' a) := by
                          have e0 := (part_break ltL a i j E hi2.out hj2.out (by omega)).symm.trans hE.out
                          rw [hP.out, ← e0]
                        refine ⟨?_, n + (n2 + nq) + 1, ?_⟩
                        · rw [e]; rfl
                        · rw [e, hW3.out, hW.out, World.drewN_drewN, hg.out a, hg.out j']
                          exact swap_worldC lbV w blk off E _ j' a (by omega) (by omega)
          · go_wp2_with fail
            go_big_quiet (first | (go_at_call 75; refine Calls.quiet_of_same (lbLess_any _ _ _)))
            have hj2 : Hid (j' = scanDown (fun x => !ltL x E[a]!) E i' j) := (scanDown_end (fun x => !ltL x E[a]!) E i' j' (Or.inl hle2)).symm.trans hsd.out
            clear hcw hsd
            have w3e : wr.drewN nq = W1.drewN (n2 + nq) := by rw [hW2.out, World.drewN_drewN]
            generalize wr.drewN nq = W3 at w3e ⊢
            have hc3 : ∀ t, t < d.size → W3.cell? ⟨blk, off + t, none⟩ = some (.int .u64 (g t)) := fun t ht => by rw [w3e]; exact hc t ht
            have hf3 : ∀ t, t < d.size → W3.frozen? ⟨blk, off + t, none⟩ = false := fun t ht => by rw [w3e]; exact hf t ht
            have hW3 : Hid (W3 = W1.drewN (n2 + nq)) := w3e
            clear w3e
            obtain ⟨v3, hy3⟩ := cell?_setCell_some (w := W3) (p := ⟨blk, off + j', none⟩) (x := .int .u64 (g a)) (q := ⟨blk, off + a, none⟩) (hc3 a (by omega))
            have hlj : j' < d.size := by omega
            go_wp2
            go_region
            all_goals go_wp2
            all_goals go_ret2
            have e : partition ltL d a b pivot = (j', true, swp E j' a) := part_first_break ltL d a b pivot hI.out hJ.out hD.out hi2.out hj2.out (by omega)
            refine ⟨?_, n + (n2 + nq) + 1, ?_⟩
            · rw [e]; rfl
            · rw [e, hW3.out, hW.out, World.drewN_drewN, hg.out a, hg.out j']
              exact swap_worldC lbV w blk off E _ j' a (by omega) (by omega)
    · go_wp2_with fail
      go_big_quiet (first | (go_at_call 75; refine Calls.quiet_of_same (lbLess_any _ _ _)))
      go_wp2
      have hi2 : Hid (i' = scanUp (fun x => ltL x E[a]!) E j i) := (scanUp_end (fun x => ltL x E[a]!) E j i' (Or.inl hle)).symm.trans hsc.out
      have w2e : wr.drewN nq = W1.drewN (n1 + nq) := by rw [hW1.out, World.drewN_drewN]
      clear hcw hW1 hsc
      go_loopw [11] (fun v w2 => ∃ (j' n2 : Nat), v = .int .i64 j' ∧ j' ≤ j ∧ i' ≤ j' + 1 ∧ w2 = W1.drewN n2 ∧ Hid (scanDown (fun x => !ltL x E[a]!) E i' j' = scanDown (fun x => !ltL x E[a]!) E i' j)) (fun v _ => (intOf v).toNat)
      case atStart => exact ⟨j, n1 + nq, rfl, Nat.le_refl _, hij', w2e, rfl⟩
      case round =>
        clear w2e
        obtain ⟨j', n2, rfl, hjj, hij2, w2e, hsd⟩ := hrel
        have hcw : ∀ t, t < d.size → wr.cell? ⟨blk, off + t, none⟩ = some (.int .u64 (g t)) := fun t ht => by rw [w2e]; exact hc t ht
        have hW2 : Hid (wr = W1.drewN n2) := w2e
        clear w2e
        by_cases hle2 : i' ≤ j'
        · exfalso; omega
        · go_wp2_with fail
          go_big_quiet (first | (go_at_call 75; refine Calls.quiet_of_same (lbLess_any _ _ _)))
          have hj2 : Hid (j' = scanDown (fun x => !ltL x E[a]!) E i' j) := (scanDown_end (fun x => !ltL x E[a]!) E i' j' (Or.inl hle2)).symm.trans hsd.out
          clear hcw hsd
          have w3e : wr.drewN nq = W1.drewN (n2 + nq) := by rw [hW2.out, World.drewN_drewN]
          generalize wr.drewN nq = W3 at w3e ⊢
          have hc3 : ∀ t, t < d.size → W3.cell? ⟨blk, off + t, none⟩ = some (.int .u64 (g t)) := fun t ht => by rw [w3e]; exact hc t ht
          have hf3 : ∀ t, t < d.size → W3.frozen? ⟨blk, off + t, none⟩ = false := fun t ht => by rw [w3e]; exact hf t ht
          have hW3 : Hid (W3 = W1.drewN (n2 + nq)) := w3e
          clear w3e
          obtain ⟨v3, hy3⟩ := cell?_setCell_some (w := W3) (p := ⟨blk, off + j', none⟩) (x := .int .u64 (g a)) (q := ⟨blk, off + a, none⟩) (hc3 a (by omega))
          have hlj : j' < d.size := by omega
          go_wp2
          go_region
          all_goals go_wp2
          all_goals go_ret2
          have e : partition ltL d a b pivot = (j', true, swp E j' a) := part_first_break ltL d a b pivot hI.out hJ.out hD.out hi2.out hj2.out (by omega)
          refine ⟨?_, n + (n2 + nq) + 1, ?_⟩
          · rw [e]; rfl
          · rw [e, hW3.out, hW.out, World.drewN_drewN, hg.out a, hg.out j']
            exact swap_worldC lbV w blk off E _ j' a (by omega) (by omega)
end Go.Proofs.YtfibbjnkicjbpaaGreatDoor
