/- Texts of the proof, merged: ShelfC, PoKeys. -/
import Derived.Test.YtfkkodcppaakjaaGreatDoorRd2
import Derived.Test.YtfkkodcppaakjaaGreatDoorRd5
import Derived.Test.YtfkkodcppaakjaaGreatDoorRd6
import Derived.Test.YtfkkodcppaakjaaGreatDoorRd15
import Derived.Shelf.Strings.Builder1
import Derived.Shelf.Strings.Builder2
import Derived.Shelf.Strings.OnBuilder
import Derived.Shelf.Small.Bits
import Derived.Shelf.Small.Strs
import Derived.Shelf.Small.Wraps
import Derived.Shelf.Strings.BuilderF
import Derived.Shelf.Strings.BuilderK
import Derived.Shelf.Strings.Builder2Cap
import Derived.Shelf.Strconv.Atoi
import Derived.Shelf.Strconv.Itoa0
import Derived.Shelf.Strconv.Itoa1
import Derived.Shelf.LaysM
import Derived.Shelf.Strconv.Itoa2
import Derived.Shelf.Strconv.Itoa3
import Derived.Shelf.Strconv.AtoiErrFast
import Derived.Shelf.Strconv.ParseIntEmpty
import Derived.Shelf.Strconv.AtoiFail
import Derived.Shelf.Strconv.Clone
import Derived.Shelf.Strconv.SyntaxError
import Derived.Shelf.LaysC
import Derived.Shelf.Strconv.ToError
import Derived.Shelf.Strconv.Lower
import Derived.Shelf.Strconv.ParseUint10
import Derived.Shelf.Strconv.ParseUint10Empty
import Derived.Shelf.Strconv.ParseUint10Any
import Derived.Shelf.Strconv.ParseInt10
import Derived.Shelf.Strconv.AtoiLong
import Derived.Shelf.Strconv.AtoiInnerAll
import Derived.Shelf.Strconv.RangeError
import Derived.Shelf.Strconv.ToErrorRange
import Derived.Shelf.Strconv.AtoiAll
import Derived.Shelf.Strconv.ErrVarAll
import Derived.Shelf.Strings.Search1
import Derived.Shelf.Strings.Search2
import Derived.Shelf.Strings.Search3
import Derived.Shelf.Strings.Cut
import Derived.Shelf.Strings.Count
import Derived.Shelf.Strings.Shaped
import Derived.Shelf.Sort.Plain
import Derived.Shelf.GgClosure.StringsIndexFunc
import Derived.Ground.GgwProg
import Derived.Shelf.GgClosure.StringsIndexFuncTop
import Derived.Shelf.GgClosure.StringsRunes
import Derived.Shelf.Strings.Prefix
import Derived.Shelf.Strings.Split
import Derived.Shelf.Strings.SplitShaped
import Derived.Shelf.Unicode.DecodeSlow
import Derived.Shelf.Unicode.DecodeAny
import Derived.Shelf.Strings.FuncGrows
import Derived.Shelf.Strings.BuilderCap
import Derived.Shelf.Slices.In.SortNone
import Derived.Test.YtfkkodcppaakjaaGreatDoorProg
import Derived.Shelf.SlIter.Sorted
import Derived.Shelf.SlIter.Nil
import Derived.Maps.OwnOps
import Derived.Maps.OwnSet
/- The library's contracts that the walks call, laid at this program by the shelf's own tool (plain mode), without its remarks. -/
namespace Go.Proofs
open Go.Shelf
def Tryz.lays190_ren : Go.Shelf.Ren := ⟨fun | 190 => 167 | 125 => 107 | 258 => 197 | 128 => 150 | 129 => 151 | 302 => 209 | 303 => 210 | 304 => 211 | 305 => 212 | 306 => 213 | 307 => 214 | 308 => 215 | 309 => 216 | 310 => 217 | 333 => 225 | 329 => 172 | 330 => 173 | 334 => 226 | 335 => 227 | 336 => 228 | 344 => 230 | n => n, fun | 31 => 75 | 9 => 9 | 3 => 3 | 46 => 72 | 0 => 0 | 51 => 189 | 53 => 22 | 4 => 4 | 183 => 183 | 182 => 182 | 131 => 99 | 5 => 5 | 218 => 199 | 222 => 203 | 228 => 225 | 229 => 226 | n => n, fun | n => n⟩
theorem Tryz.lays190 : Go.Proofs.Lays.n190 Tryz.prog Tryz.lays190_ren := {
  mixed := by kernel_rfl
  f125 := Tryz.func107.trans (congrArg some (by kernel_rfl))
  f128 := Tryz.func150.trans (congrArg some (by kernel_rfl))
  f129 := Tryz.func151.trans (congrArg some (by kernel_rfl))
  f190 := Tryz.func167.trans (congrArg some (by kernel_rfl))
  f258 := Tryz.func197.trans (congrArg some (by kernel_rfl))
  f302 := Tryz.func209.trans (congrArg some (by kernel_rfl))
  f303 := Tryz.func210.trans (congrArg some (by kernel_rfl))
  f304 := Tryz.func211.trans (congrArg some (by kernel_rfl))
  f305 := Tryz.func212.trans (congrArg some (by kernel_rfl))
  f306 := Tryz.func213.trans (congrArg some (by kernel_rfl))
  f307 := Tryz.func214.trans (congrArg some (by kernel_rfl))
  f308 := Tryz.func215.trans (congrArg some (by kernel_rfl))
  f309 := Tryz.func216.trans (congrArg some (by kernel_rfl))
  f310 := Tryz.func217.trans (congrArg some (by kernel_rfl))
  f329 := Tryz.func172.trans (congrArg some (by kernel_rfl))
  f330 := Tryz.func173.trans (congrArg some (by kernel_rfl))
  f333 := Tryz.func225.trans (congrArg some (by kernel_rfl))
  f334 := Tryz.func226.trans (congrArg some (by kernel_rfl))
  f335 := Tryz.func227.trans (congrArg some (by kernel_rfl))
  f336 := Tryz.func228.trans (congrArg some (by kernel_rfl))
  f344 := Tryz.func230.trans (congrArg some (by kernel_rfl))
  t0 := Tryz.underlying0
  a0 := Tryz.isAgg0
  z0 := Tryz.sizeOf0
  v0 := Tryz.zeroValue0
  t3 := Tryz.underlying3
  a3 := Tryz.isAgg3
  z3 := Tryz.sizeOf3
  v3 := Tryz.zeroValue3
  t4 := Tryz.underlying4
  a4 := Tryz.isAgg4
  z4 := Tryz.sizeOf4
  v4 := Tryz.zeroValue4
  t5 := Tryz.underlying5
  a5 := Tryz.isAgg5
  z5 := Tryz.sizeOf5
  v5 := Tryz.zeroValue5
  t9 := Tryz.underlying9
  a9 := Tryz.isAgg9
  z9 := Tryz.sizeOf9
  v9 := Tryz.zeroValue9
  t31 := Tryz.underlying75
  a31 := Tryz.isAgg75
  z31 := Tryz.sizeOf75
  v31 := Tryz.zeroValue75
  t46 := Tryz.underlying72
  a46 := Tryz.isAgg72
  z46 := Tryz.sizeOf72
  v46 := Tryz.zeroValue72
  t51 := Tryz.underlying189
  a51 := Tryz.isAgg189
  z51 := Tryz.sizeOf189
  v51 := Tryz.zeroValue189
  t53 := Tryz.underlying22
  a53 := Tryz.isAgg22
  z53 := Tryz.sizeOf22
  v53 := Tryz.zeroValue22
  t131 := Tryz.underlying99
  a131 := Tryz.isAgg99
  z131 := Tryz.sizeOf99
  v131 := Tryz.zeroValue99
  t182 := Tryz.underlying182
  a182 := Tryz.isAgg182
  z182 := Tryz.sizeOf182
  v182 := Tryz.zeroValue182
  t183 := Tryz.underlying183
  a183 := Tryz.isAgg183
  z183 := Tryz.sizeOf183
  v183 := Tryz.zeroValue183
  t218 := Tryz.underlying199
  a218 := Tryz.isAgg199
  z218 := Tryz.sizeOf199
  v218 := Tryz.zeroValue199
  t222 := Tryz.underlying203
  a222 := Tryz.isAgg203
  z222 := Tryz.sizeOf203
  v222 := Tryz.zeroValue203
  t228 := Tryz.underlying225
  a228 := Tryz.isAgg225
  z228 := Tryz.sizeOf225
  v228 := Tryz.zeroValue225
  t229 := Tryz.underlying226
  a229 := Tryz.isAgg226
  z229 := Tryz.sizeOf226
  v229 := Tryz.zeroValue226 }
open Go.Sort Go.RowKit in
theorem Tryz.slices_Sort_string (blk off cap : Nat) (ss : List (List UInt8)) (w : World) (hH : Holds encStr w blk off ss.toArray) (hblk : blk < w.heap.size) (hsz : ss.length < 4611686018427387904) :
    Calls Tryz.prog 167 #[.slice (some ⟨blk, off, none⟩) ss.length cap] w fun e w' =>
      e = .returned (.tuple #[]) ∧ ∃ n os, w' = grow (putRow encStr (Sort.ahead w n) blk off (ss.mergeSort fun x y => decide (x ≤ y)).toArray) os := Any.slices_Sort_string Tryz.lays190 blk off cap ss w hH hblk hsz
open Go.RowKit Go.Sort in
theorem Tryz.slices_Sort_string_none (p : Option Addr) (cap : Nat) (w : World) :
    Calls Tryz.prog 167 #[.slice p 0 cap] w fun e w' => e = .returned (.tuple #[]) ∧ w' = w := Any.slices_Sort_string_none Tryz.lays190 p cap w
end Go.Proofs
/- slices.Sorted(maps.Keys(m)) over the shelf's contracts, laid at this program by hand; a policy in memory. -/
namespace Go.Proofs.YtfkkodcppaakjaaGreatDoor
open Go Go.RowKit Go.Maps Go.Sort Go.Shelf

def ks_ren : Go.Shelf.Ren := ⟨fun | 6 => 133 | 7 => 134 | 8 => 166 | 9 => 167 | 10 => 168 | 11 => 196 | n => n, fun | 0 => 0 | 3 => 23 | 4 => 4 | 23 => 132 | 24 => 75 | 26 => 9 | 27 => 121 | 28 => 122 | 33 => 70 | n => n, fun n => n⟩
theorem ks6 : SlLaysZ.n6 Tryz.prog ks_ren where
  mixed := by kernel_rfl
  f6 := ⟨"slices.Sorted[string]", by decide, Tryz.func133.trans (congrArg some (by kernel_rfl))⟩
  f8 := ⟨"slices.Collect[string]", by decide, Tryz.func166.trans (congrArg some (by kernel_rfl))⟩
  f11 := ⟨"slices.AppendSeq[[]string,string]", by decide, Tryz.func196.trans (congrArg some (by kernel_rfl))⟩
  t0 := Tryz.underlying0
  a0 := Tryz.isAgg0
  z0 := Tryz.sizeOf0
  v0 := Tryz.zeroValue0
  t24 := Tryz.underlying75
  a24 := Tryz.isAgg75
  z24 := Tryz.sizeOf75
  v24 := Tryz.zeroValue75
  t26 := Tryz.underlying9
  a26 := Tryz.isAgg9
  z26 := Tryz.sizeOf9
  v26 := Tryz.zeroValue9
  t28 := Tryz.underlying122
  a28 := Tryz.isAgg122
  z28 := Tryz.sizeOf122
  v28 := Tryz.zeroValue122
  i26 := by kernel_rfl
theorem ks7 : SlLaysZ.n7 Tryz.prog ks_ren where
  mixed := by kernel_rfl
  f7 := ⟨"maps.Keys[map[string]scrim/api.Label,string,scrim/api.Label]", by decide, Tryz.func134.trans (congrArg some (by kernel_rfl))⟩
  f10 := ⟨"maps.Keys[map[string]scrim/api.Label,string,scrim/api.Label]$1", by decide, Tryz.func168.trans (congrArg some (by kernel_rfl))⟩
  t0 := Tryz.underlying0
  a0 := Tryz.isAgg0
  z0 := Tryz.sizeOf0
  v0 := Tryz.zeroValue0
  t4 := Tryz.underlying4
  a4 := Tryz.isAgg4
  z4 := Tryz.sizeOf4
  v4 := Tryz.zeroValue4
  t23 := Tryz.underlying132
  a23 := Tryz.isAgg132
  z23 := Tryz.sizeOf132
  v23 := Tryz.zeroValue132
  t26 := Tryz.underlying9
  a26 := Tryz.isAgg9
  z26 := Tryz.sizeOf9
  v26 := Tryz.zeroValue9
  t27 := Tryz.underlying121
  a27 := Tryz.isAgg121
  z27 := Tryz.sizeOf121
  v27 := Tryz.zeroValue121
  t28 := Tryz.underlying122
  a28 := Tryz.isAgg122
  z28 := Tryz.sizeOf122
  v28 := Tryz.zeroValue122
  t33 := Tryz.underlying70
  a33 := Tryz.isAgg70
  z33 := Tryz.sizeOf70
  v33 := Tryz.zeroValue70

/-- slices.Sort's two contracts at this program, at the fence that asks nothing. -/
theorem sorts_wide (m : Nat) : AnyZ.SortsIn Tryz.prog ks_ren Fence.wide m :=
  ⟨fun blk off cap ss W hH hblk hsz => callsIn_wide.2 (Tryz.slices_Sort_string blk off cap ss W hH hblk hsz),
   fun p cap W => callsIn_wide.2 (Tryz.slices_Sort_string_none p cap W)⟩

abbrev LT : TypeId := 23
theorem strLaw : Keyed Tryz.prog 9 := string_keyed Tryz.underlying9
theorem zeroLab (w : World) : (zeroValue 23).run Tryz.prog w = .ok (.int .u64 0) w := by kernel_rfl
/-- The map at block b holds these viewers. -/
def MapAt (w : World) (b : Nat) (l : List Vw) : Prop := ∃ (n : Nat) (D : DataW Unit), n ≤ 64 ∧ w.ownsMap Tryz.prog 9 (plainElem Tryz.prog 23) b n D ∧ MapIs D l
theorem MapAt.later {w W : World} {b : Nat} {l : List Vw} (h : MapAt w b l) (hb : Below w.heap.size w W) : MapAt W b l := by
  obtain ⟨n, D, hn, hown, hm⟩ := h
  have hbl := hown.lt
  obtain ⟨es, clock, hb', Ft, hs, hD⟩ := hown
  exact ⟨n, D, hn, ⟨es, clock, (hb.block b hbl).trans hb', Ft, hs, hD⟩, hm⟩
theorem MapAt.lt {w : World} {b : Nat} {l : List Vw} (h : MapAt w b l) : b < w.heap.size := by
  obtain ⟨n, D, hn, hown, hm⟩ := h
  exact hown.lt
/-- A policy at a pointer: its viewers, rising by name. -/
structure PolAt (w : World) (v : Value) (l : List Vw) : Prop where
  ok : okL l
  up : Rising l
  lo : Lo64 l
  at' : ∃ p b, v = .pointer (some ⟨p, 0, none⟩) ∧ p < w.heap.size ∧ w.cell? ⟨p, 0, none⟩ = some (.map (some b)) ∧ MapAt w b l
theorem PolAt.later {w W : World} {v : Value} {l : List Vw} (h : PolAt w v l) (hb : Below w.heap.size w W) : PolAt W v l := by
  obtain ⟨p, b, e, hp, hc, hm⟩ := h.at'
  exact ⟨h.ok, h.up, h.lo, p, b, e, Nat.lt_of_lt_of_le hp hb.size, (hb.cell (p := ⟨p, 0, none⟩) hp).trans hc, hm.later hb⟩

theorem strKeys_perm {w : World} {b n : Nat} {D : DataW Unit} {R : Value → Option (DataW Unit × List MemPlace)} {l : List Vw} (hown : w.ownsMap Tryz.prog 9 R b n D) (hn : (names l).Nodup) (hm : MapIs D l) : (names l).Perm (strKeys D) := by
  obtain ⟨es, e, hes⟩ := hown.tidy strLaw
  obtain ⟨es', e', hk⟩ := hown.keysOf
  subst e
  injection e' with e'
  subst e'
  exact perm_strKeys hes (fun p hp => by
    obtain ⟨key, hkey⟩ := hk p hp
    obtain ⟨x, _, hx, _⟩ := keyOf_str Tryz.underlying9 hkey
    exact ⟨x, hx⟩) hn (fun x => (hm.has x).symm)
theorem size_strKeys (D : DataW Unit) (h : IsMap D) : Maps.size D = (strKeys D).length := by
  obtain ⟨es, rfl⟩ := h
  simp [Maps.size, strKeys]

set_option maxHeartbeats 1000000 in
theorem keys_any (b : Nat) (w : World) : Calls Tryz.prog 134 #[.map (some b)] w fun e w' => e = .returned (.func (.func 168) #[] #[.pointer (some ⟨w.heap.size, 0, none⟩)]) ∧ w' = w.alloc (.cells #[.map (some b)] 132) :=
  (callsIn_wide (n := 5)).1 (AnyZ.keys_in ks7 Fence.wide 5 trivial rfl (some b) w)

set_option maxHeartbeats 1000000 in
/-- The names of the map's viewers, rising, in a row of the call's own. -/
theorem sorted_any (b Bm : Nat) (l : List Vw) (W : World) (hm : MapAt W b l) (hBm : Bm < W.heap.size) (hc : W.cell? ⟨Bm, 0, none⟩ = some (.map (some b))) (hr : Rising l) (h64 : l.length ≤ 64) :
    Calls Tryz.prog 133 #[.func (.func 168) #[] #[.pointer (some ⟨Bm, 0, none⟩)]] W fun e w' => ∃ v, e = .returned v ∧
      w'.ownsRow W.heap.size 9 1 v l.length ((names l).map encStr) ∧ Below W.heap.size W w' := by
  obtain ⟨n, D, hn, hown, hD⟩ := hm
  have hp := strKeys_perm hown hr.nodup hD
  have hsz : Maps.size D = l.length := by rw [size_strKeys D hD.map, ← hp.length_eq]; simp [names]
  have hseq : SeqGives Fence.wide 2 Tryz.prog 168 #[.pointer (some ⟨Bm, 0, none⟩)] encStr (fun ss => ss.Perm (strKeys D)) (Maps.size D) W :=
    AnyZ.keys_gives (ρ := ks_ren) { ks7 with } Fence.wide _ trivial rfl (by omega) Bm b n D _ hBm hc hown
  have cS := AnyZ.sorted_in ks6 Fence.wide 5 trivial trivial trivial trivial rfl (by omega) (sorts_wide _) (enters_of Tryz.func167 (by kernel_rfl) rfl) 168 #[.pointer (some ⟨Bm, 0, none⟩)] trivial (enters_of Tryz.func168 (by kernel_rfl) rfl) _ _ (by rw [hsz]; unfold maxLen; omega) (by rw [hsz]; omega) _ hseq
  refine ((callsIn_wide (n := 5)).1 cS).mono ?_
  rintro e w' ⟨v, ss, rfl, hS, hrow, hnil, hb⟩
  have hl : ss.length = l.length := by rw [hS.length_eq, ← hp.length_eq]; simp [names]
  have hs := names_sorted hr (hS.trans hp.symm)
  rw [hl, hs] at hrow
  exact ⟨v, rfl, hrow, hb⟩
end Go.Proofs.YtfkkodcppaakjaaGreatDoor
