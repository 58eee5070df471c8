/- Texts of the proof, merged: SrHeap, SrXor, ShelfD. -/
import Derived.Test.YtfkkodcppaakjaaGreatDoorRd5
import Derived.Test.YtfkkodcppaakjaaGreatDoorRd38
import Derived.Test.YtfkkodcppaakjaaGreatDoorRd39
import Derived.Sort.WalkB3
import Derived.Sort.Walk7a
import Derived.Shelf.Strings.Builder1
import Derived.Shelf.Strings.Builder2
import Derived.Shelf.Strings.OnBuilder
import Derived.Shelf.Small.Bits
import Derived.Shelf.Small.Strs
import Derived.Shelf.Small.Wraps
import Derived.Shelf.Strings.BuilderF
import Derived.Shelf.Strings.BuilderK
import Derived.Shelf.Strings.Builder2Cap
import Derived.Shelf.Strconv.Atoi
import Derived.Shelf.Strconv.Itoa0
import Derived.Shelf.Strconv.Itoa1
import Derived.Shelf.LaysM
import Derived.Shelf.Strconv.Itoa2
import Derived.Shelf.Strconv.Itoa3
import Derived.Shelf.Strconv.AtoiErrFast
import Derived.Shelf.Strconv.ParseIntEmpty
import Derived.Shelf.Strconv.AtoiFail
import Derived.Shelf.Strconv.Clone
import Derived.Shelf.Strconv.SyntaxError
import Derived.Shelf.LaysC
import Derived.Shelf.Strconv.ToError
import Derived.Shelf.Strconv.Lower
import Derived.Shelf.Strconv.ParseUint10
import Derived.Shelf.Strconv.ParseUint10Empty
import Derived.Shelf.Strconv.ParseUint10Any
import Derived.Shelf.Strconv.ParseInt10
import Derived.Shelf.Strconv.AtoiLong
import Derived.Shelf.Strconv.AtoiInnerAll
import Derived.Shelf.Strconv.RangeError
import Derived.Shelf.Strconv.ToErrorRange
import Derived.Shelf.Strconv.AtoiAll
import Derived.Shelf.Strconv.ErrVarAll
import Derived.Shelf.Strings.Search1
import Derived.Shelf.Strings.Search2
import Derived.Shelf.Strings.Search3
import Derived.Shelf.Strings.Cut
import Derived.Shelf.Strings.Count
import Derived.Shelf.Strings.Shaped
import Derived.Shelf.Sort.Plain
import Derived.Shelf.GgClosure.StringsIndexFunc
import Derived.Ground.GgwProg
import Derived.Shelf.GgClosure.StringsIndexFuncTop
import Derived.Shelf.GgClosure.StringsRunes
import Derived.Shelf.Strings.Prefix
import Derived.Shelf.Strings.Split
import Derived.Shelf.Strings.SplitShaped
import Derived.Shelf.Unicode.DecodeSlow
import Derived.Shelf.Unicode.DecodeAny
import Derived.Shelf.Strings.FuncGrows
import Derived.Shelf.Strings.BuilderCap
import Derived.Shelf.Slices.In.SortNone
import Derived.Test.YtfkkodcppaakjaaGreatDoorProg
/- The library's heap sort over labels: by a contract. -/
namespace Go.Proofs.YtfkkodcppaakjaaGreatDoor
open Go Go.RowKit Go.Sort

set_option maxHeartbeats 3200000 in
set_option maxRecDepth 1000000 in
theorem lbHeap_any (blk off len cap : Nat) (d : Array Nat) (hlen : d.size = len) (a b : Nat) (w : World) (hH : Holds lbV w blk off d) (hab : a ≤ b) (hb : b ≤ d.size) (hsz : d.size < 4611686018427387904) :
    Calls Tryz.prog 142 #[.slice (some ⟨blk, off, none⟩) len cap, .int .i64 a, .int .i64 b] w fun e w' =>
      e = .returned (.tuple #[]) ∧ ∃ n, w' = lbPut w n blk off (heapSort ltL d a b) := by
  subst hlen
  have ec : ((b - a : Nat) : Int) = (b : Int) - (a : Int) := by omega
  have hsd : ∀ hi F root (E : Array Nat), (siftDown ltL hi F root E).size = E.size := fun hi F root E => size_siftDown ltL _ _ _ _ _ (Nat.le_refl _)
  go_enter Tryz.func142, Tryz.ntmps142
  go_wp2
  go_loopg [9] ((b - a - 1) / 2 + 1) (fun k v W => v = .int .i64 ((k : Int) - 1) ∧ k ≤ (b - a - 1) / 2 + 1 ∧ ∃ (E : Array Nat) (n : Nat), E.size = d.size ∧ W = lbPut w n blk off E ∧
    heapBuild ltL (b - a) a k E = heapBuild ltL (b - a) a ((b - a - 1) / 2 + 1) d)
  case atStart => exact ⟨by rw [half_start hab], Nat.le_refl _, d, 0, rfl, (putRow_self lbV w blk off d hH).symm, rfl⟩
  case round =>
    obtain ⟨rfl, hk, E, n, hs, hW, he⟩ := hrel
    have hK : Holds lbV wr blk off E := by rw [hW]; exact holds_putRow lbV _ blk off d E (holds_ahead lbV w n blk off d hH) hs
    have hA : Aside (wr = lbPut w n blk off E) := hW
    clear hW
    cases gk with
    | zero =>
      have hB : E = heapBuild ltL (b - a) a ((b - a - 1) / 2 + 1) d := he
      clear he hK hk
      go_wp2
      go_loopg [10] (b - a) (fun k v W => v = .int .i64 ((k : Int) - 1) ∧ k ≤ b - a ∧ ∃ (D : Array Nat) (m : Nat), D.size = d.size ∧ W = lbPut w m blk off D ∧ heapPop ltL a k D = heapPop ltL a (b - a) E)
      case atStart => exact ⟨by rw [ec], Nat.le_refl _, E, n, hs, hA.out, rfl⟩
      case round =>
        obtain ⟨rfl, hk, D, m, hD, hW2, he2⟩ := hrel
        cases gk with
        | zero =>
          go_wp2
          go_end0
          refine ⟨rfl, m, ?_⟩
          have e : D = heapSort ltL d a b := by rw [heapSort, ← hB, ← he2]; rfl
          rw [← e]
        | succ k =>
          have hK : Holds lbV wr blk off D := by rw [hW2]; exact holds_putRow lbV _ blk off d D (holds_ahead lbV w m blk off d hH) hD
          have hcell : ∀ t, t < d.size → wr.cell? ⟨blk, off + t, none⟩ = some (.int .u64 D[t]!) := fun t ht => (hK t (by omega)).1
          have hfree : ∀ t, t < d.size → wr.frozen? ⟨blk, off + t, none⟩ = false := fun t ht => (hK t (by omega)).2
          have hA2 : Aside (wr = lbPut w m blk off D) := hW2
          clear hW2 hK
          have hnext : ∀ i hi, Holds lbV (lbPut w (m + 1) blk off (swp D a i)) blk off (swp D a i) ∧ (siftDown ltL hi a 0 (swp D a i)).size = d.size := fun i hi =>
            ⟨holds_putRow lbV _ blk off d _ (holds_ahead lbV w (m + 1) blk off d hH) (by rw [size_swp]; exact hD), by rw [hsd, size_swp]; exact hD⟩
          rcases Nat.eq_zero_or_pos k with h0 | h0
          · subst h0
            go_wp2_with fail
            go_region
            go_wp2_with fail
            rw [swap_world lbV (i := a) (j := a) (by omega) (by omega) hA2.out rfl rfl]
            refine (lbSift_any blk off d.size cap (swp D a a) (by rw [size_swp]; exact hD) 0 0 a _ (hnext a 0).1 (Nat.zero_le _) (by rw [size_swp]; omega) (by rw [size_swp]; omega)).mono ?_
            rintro e w1 ⟨rfl, q, hw1⟩
            go_wp2
            go_roundg 0
            case measure => omega
            case rel =>
              refine ⟨by simp, by omega, siftDown ltL 0 a 0 (swp D a a), m + 1 + q, (hnext a 0).2, ?_, he2⟩
              first
                | rw [hw1]; exact putRow_ahead_putRow lbV w (m + 1) q blk off _ _ (hsd ..)
                | exact putRow_ahead_putRow lbV w (m + 1) q blk off _ _ (hsd ..)
          · go_wp2_with fail
            go_region
            go_wp2_with fail
            rw [swap_world lbV (i := a) (j := a + k) (by omega) (by omega) hA2.out rfl rfl]
            refine (lbSift_any blk off d.size cap (swp D a (a + k)) (by rw [size_swp]; exact hD) 0 k a _ (hnext (a + k) k).1 (Nat.zero_le _) (by rw [size_swp]; omega) (by rw [size_swp]; omega)).mono ?_
            rintro e w1 ⟨rfl, q, hw1⟩
            go_wp2
            go_roundg k
            case measure => omega
            case rel =>
              refine ⟨by simp, by omega, siftDown ltL k a 0 (swp D a (a + k)), m + 1 + q, (hnext (a + k) k).2, ?_, he2⟩
              first
                | rw [hw1]; exact putRow_ahead_putRow lbV w (m + 1) q blk off _ _ (hsd ..)
                | exact putRow_ahead_putRow lbV w (m + 1) q blk off _ _ (hsd ..)
    | succ k =>
      have hc := lbSift_any blk off d.size cap E hs k (b - a) a wr hK (by omega) (by omega) (by omega)
      rw [ec] at hc
      go_wp2_with (go_at_call 171; refine hc.mono ?_; rintro e w1 ⟨rfl, q, hw1⟩)
      go_roundg k
      case measure => omega
      case rel =>
        refine ⟨by simp, by omega, siftDown ltL (b - a) a k E, n + q, by rw [hsd]; exact hs, ?_, he⟩
        rw [hA.out]; exact putRow_ahead_putRow lbV w n q blk off E _ (hsd ..)
end Go.Proofs.YtfkkodcppaakjaaGreatDoor
/- The library's generator of its sort: by a contract. -/
namespace Go.Proofs.YtfkkodcppaakjaaGreatDoor
open Go Go.RowKit Go.Sort

set_option maxHeartbeats 1000000 in
theorem lbNext_any (rb ro X : Nat) (hX : X < 18446744073709551616) (w : World) (hc : w.cell? ⟨rb, ro, none⟩ = some (.int .u64 X)) (hf : w.frozen? ⟨rb, ro, none⟩ = false) :
    Calls Tryz.prog 173 #[.pointer (some ⟨rb, ro, none⟩)] w fun e w' => e = .returned (.int .u64 (xorNextN X : Nat)) ∧ w' = (w.setCell ⟨rb, ro, none⟩ (.int .u64 (xorNextN X : Nat))).drewN 3 := by
  obtain ⟨a, ha⟩ : ∃ a : Nat, a = X ^^^ (X * 8192 % 18446744073709551616) := ⟨_, rfl⟩
  obtain ⟨b, hb⟩ : ∃ b : Nat, b = a ^^^ (a / 128) := ⟨_, rfl⟩
  obtain ⟨c, hc3⟩ : ∃ c : Nat, c = b ^^^ (b * 131072 % 18446744073709551616) := ⟨_, rfl⟩
  have la : a < 18446744073709551616 := by rw [ha]; exact Nat.xor_lt_two_pow (n := 64) (by omega) (by omega)
  have lb : b < 18446744073709551616 := by rw [hb]; exact Nat.xor_lt_two_pow (n := 64) (by omega) (by omega)
  have e1 : bits .xor .u64 (X : Int) (IntKind.u64.wrap ((X : Int) * 8192)) = (a : Int) := by
    rw [IntKind.wrap_u64, show ((X : Int) * 8192 % 18446744073709551616) = ((X * 8192 % 18446744073709551616 : Nat) : Int) by omega, bits_xor_u64_nat _ _ hX (by omega), ha]
  have e2 : bits .xor .u64 (a : Int) ((a : Int) / 128) = (b : Int) := by
    rw [show ((a : Int) / 128) = ((a / 128 : Nat) : Int) by omega, bits_xor_u64_nat _ _ la (by omega), hb]
  have e3 : bits .xor .u64 (b : Int) (IntKind.u64.wrap ((b : Int) * 131072)) = (c : Int) := by
    rw [IntKind.wrap_u64, show ((b : Int) * 131072 % 18446744073709551616) = ((b * 131072 % 18446744073709551616 : Nat) : Int) by omega, bits_xor_u64_nat _ _ lb (by omega), hc3]
  have hv : xorNextN X = c := by unfold xorNextN; simp only []; rw [← ha, ← hb, ← hc3]
  rw [hv]
  clear ha hb hc3 hv
  have hss : ∀ v v', (w.setCell ⟨rb, ro, none⟩ v).setCell ⟨rb, ro, none⟩ v' = w.setCell ⟨rb, ro, none⟩ v' := setCell_setCell w rb ro
  go_enter Tryz.func173, Tryz.ntmps173
  go_wp2
  go_region
  all_goals go_wp2
  all_goals go_region
  all_goals go_wp2
  all_goals go_region
  all_goals go_wp2
  go_ret
  exact ⟨rfl, rfl⟩
end Go.Proofs.YtfkkodcppaakjaaGreatDoor
/- The library's contracts that the walks call, laid at this program by the shelf's own tool (plain mode), without its remarks. -/
namespace Go.Proofs
open Go.Shelf
def Tryz.lays125_ren : Go.Shelf.Ren := ⟨fun | 125 => 107 | 128 => 150 | 129 => 151 | n => n, fun | 46 => 72 | 3 => 3 | 51 => 189 | 53 => 22 | 4 => 4 | 5 => 5 | 9 => 9 | n => n, fun | n => n⟩
theorem Tryz.lays125 : Go.Proofs.Lays.n125 Tryz.prog Tryz.lays125_ren := {
  mixed := by kernel_rfl
  f125 := Tryz.func107.trans (congrArg some (by kernel_rfl))
  f128 := Tryz.func150.trans (congrArg some (by kernel_rfl))
  f129 := Tryz.func151.trans (congrArg some (by kernel_rfl))
  t3 := Tryz.underlying3
  a3 := Tryz.isAgg3
  z3 := Tryz.sizeOf3
  v3 := Tryz.zeroValue3
  t4 := Tryz.underlying4
  a4 := Tryz.isAgg4
  z4 := Tryz.sizeOf4
  v4 := Tryz.zeroValue4
  t5 := Tryz.underlying5
  a5 := Tryz.isAgg5
  z5 := Tryz.sizeOf5
  v5 := Tryz.zeroValue5
  t9 := Tryz.underlying9
  a9 := Tryz.isAgg9
  z9 := Tryz.sizeOf9
  v9 := Tryz.zeroValue9
  t46 := Tryz.underlying72
  a46 := Tryz.isAgg72
  z46 := Tryz.sizeOf72
  v46 := Tryz.zeroValue72
  t51 := Tryz.underlying189
  a51 := Tryz.isAgg189
  z51 := Tryz.sizeOf189
  v51 := Tryz.zeroValue189
  t53 := Tryz.underlying22
  a53 := Tryz.isAgg22
  z53 := Tryz.sizeOf22
  v53 := Tryz.zeroValue22 }
theorem Tryz.bits_Len (x : Int) (w : World) (h0 : 0 ≤ x) (h1 : x ≤ 18446744073709551615) :
    Calls Tryz.prog 107 #[.int .u64 x] w fun e w' => e = .returned (.int .i64 (Lib.bitLen x.toNat)) ∧ w' = w := Any.bits_Len Tryz.lays125 x w h0 h1
end Go.Proofs
