/- Texts of the proof, merged: ShelfC, PoPlain. -/
import Derived.Test.YtfibbjnkicjbpaaGreatDoorTl1
import Derived.Test.YtfibbjnkicjbpaaGreatDoorTl2
import Derived.Test.YtfibbjnkicjbpaaGreatDoorTl3
import Derived.Shelf.Strings.Builder1
import Derived.Shelf.Strings.Builder2
import Derived.Shelf.Strings.OnBuilder
import Derived.Shelf.Small.Bits
import Derived.Shelf.Small.Wraps
import Derived.Shelf.Strings.BuilderF
import Derived.Shelf.Strings.BuilderK
import Derived.Shelf.Strings.Builder2Cap
import Derived.Shelf.Strconv.Atoi
import Derived.Shelf.Strconv.Itoa0
import Derived.Shelf.Strconv.Itoa1
import Derived.Shelf.LaysM
import Derived.Shelf.Strconv.Itoa2
import Derived.Shelf.Strconv.Itoa3
import Derived.Shelf.Strconv.AtoiErrFast
import Derived.Shelf.Strconv.ParseIntEmpty
import Derived.Shelf.Strconv.AtoiFail
import Derived.Shelf.Strconv.Clone
import Derived.Shelf.Strconv.SyntaxError
import Derived.Shelf.LaysC
import Derived.Shelf.Strconv.ToError
import Derived.Shelf.Strconv.Lower
import Derived.Shelf.Strconv.ParseUint10
import Derived.Shelf.Strconv.ParseUint10Empty
import Derived.Shelf.Strconv.ParseUint10Any
import Derived.Shelf.Strconv.ParseInt10
import Derived.Shelf.Strconv.AtoiLong
import Derived.Shelf.Strconv.AtoiInnerAll
import Derived.Shelf.Strconv.RangeError
import Derived.Shelf.Strconv.ToErrorRange
import Derived.Shelf.Strconv.AtoiAll
import Derived.Shelf.Strconv.ErrVarAll
import Derived.Shelf.Strings.Search1
import Derived.Shelf.Strings.Search2
import Derived.Shelf.Strings.Search3
import Derived.Shelf.Strings.Cut
import Derived.Shelf.Strings.Count
import Derived.Shelf.Strings.Shaped
import Derived.Shelf.Sort.Plain
import Derived.Shelf.GgClosure.StringsIndexFunc
import Derived.Ground.GgwProg
import Derived.Shelf.GgClosure.StringsIndexFuncTop
import Derived.Shelf.GgClosure.StringsRunes
import Derived.Shelf.Strings.Prefix
import Derived.Shelf.Strings.Split
import Derived.Shelf.Strings.SplitShaped
import Derived.Shelf.Unicode.DecodeSlow
import Derived.Shelf.Unicode.DecodeAny
import Derived.Shelf.Slices.In.SortNone
import Derived.Test.YtfibbjnkicjbpaaGreatDoorProg
import Derived.Sort.KeysCollected
import Derived.Maps.OwnSet
/- The library's contracts that the walks call, laid at this program by the shelf's own tool (plain mode), without its remarks. -/
namespace Go.Proofs
open Go.Shelf
def Tryz.lays190_ren : Go.Shelf.Ren := ⟨fun | 190 => 67 | 125 => 47 | 258 => 98 | 128 => 78 | 129 => 79 | 302 => 116 | 303 => 117 | 304 => 118 | 305 => 119 | 306 => 120 | 307 => 121 | 308 => 122 | 309 => 123 | 310 => 124 | 333 => 143 | 329 => 100 | 330 => 101 | 334 => 144 | 335 => 145 | 336 => 146 | 344 => 157 | n => n, fun | 31 => 33 | 9 => 9 | 3 => 3 | 46 => 81 | 0 => 0 | 51 => 112 | 53 => 24 | 4 => 4 | 183 => 105 | 182 => 104 | 131 => 109 | 5 => 5 | 218 => 127 | 222 => 131 | 228 => 148 | 229 => 149 | n => n, fun | n => n⟩
theorem Tryz.lays190 : Go.Proofs.Lays.n190 Tryz.prog Tryz.lays190_ren := {
  mixed := by kernel_rfl
  f125 := Tryz.func47.trans (congrArg some (by kernel_rfl))
  f128 := Tryz.func78.trans (congrArg some (by kernel_rfl))
  f129 := Tryz.func79.trans (congrArg some (by kernel_rfl))
  f190 := Tryz.func67.trans (congrArg some (by kernel_rfl))
  f258 := Tryz.func98.trans (congrArg some (by kernel_rfl))
  f302 := Tryz.func116.trans (congrArg some (by kernel_rfl))
  f303 := Tryz.func117.trans (congrArg some (by kernel_rfl))
  f304 := Tryz.func118.trans (congrArg some (by kernel_rfl))
  f305 := Tryz.func119.trans (congrArg some (by kernel_rfl))
  f306 := Tryz.func120.trans (congrArg some (by kernel_rfl))
  f307 := Tryz.func121.trans (congrArg some (by kernel_rfl))
  f308 := Tryz.func122.trans (congrArg some (by kernel_rfl))
  f309 := Tryz.func123.trans (congrArg some (by kernel_rfl))
  f310 := Tryz.func124.trans (congrArg some (by kernel_rfl))
  f329 := Tryz.func100.trans (congrArg some (by kernel_rfl))
  f330 := Tryz.func101.trans (congrArg some (by kernel_rfl))
  f333 := Tryz.func143.trans (congrArg some (by kernel_rfl))
  f334 := Tryz.func144.trans (congrArg some (by kernel_rfl))
  f335 := Tryz.func145.trans (congrArg some (by kernel_rfl))
  f336 := Tryz.func146.trans (congrArg some (by kernel_rfl))
  f344 := Tryz.func157.trans (congrArg some (by kernel_rfl))
  t0 := Tryz.underlying0
  a0 := Tryz.isAgg0
  z0 := Tryz.sizeOf0
  v0 := Tryz.zeroValue0
  t3 := Tryz.underlying3
  a3 := Tryz.isAgg3
  z3 := Tryz.sizeOf3
  v3 := Tryz.zeroValue3
  t4 := Tryz.underlying4
  a4 := Tryz.isAgg4
  z4 := Tryz.sizeOf4
  v4 := Tryz.zeroValue4
  t5 := Tryz.underlying5
  a5 := Tryz.isAgg5
  z5 := Tryz.sizeOf5
  v5 := Tryz.zeroValue5
  t9 := Tryz.underlying9
  a9 := Tryz.isAgg9
  z9 := Tryz.sizeOf9
  v9 := Tryz.zeroValue9
  t31 := Tryz.underlying33
  a31 := Tryz.isAgg33
  z31 := Tryz.sizeOf33
  v31 := Tryz.zeroValue33
  t46 := Tryz.underlying81
  a46 := Tryz.isAgg81
  z46 := Tryz.sizeOf81
  v46 := Tryz.zeroValue81
  t51 := Tryz.underlying112
  a51 := Tryz.isAgg112
  z51 := Tryz.sizeOf112
  v51 := Tryz.zeroValue112
  t53 := Tryz.underlying24
  a53 := Tryz.isAgg24
  z53 := Tryz.sizeOf24
  v53 := Tryz.zeroValue24
  t131 := Tryz.underlying109
  a131 := Tryz.isAgg109
  z131 := Tryz.sizeOf109
  v131 := Tryz.zeroValue109
  t182 := Tryz.underlying104
  a182 := Tryz.isAgg104
  z182 := Tryz.sizeOf104
  v182 := Tryz.zeroValue104
  t183 := Tryz.underlying105
  a183 := Tryz.isAgg105
  z183 := Tryz.sizeOf105
  v183 := Tryz.zeroValue105
  t218 := Tryz.underlying127
  a218 := Tryz.isAgg127
  z218 := Tryz.sizeOf127
  v218 := Tryz.zeroValue127
  t222 := Tryz.underlying131
  a222 := Tryz.isAgg131
  z222 := Tryz.sizeOf131
  v222 := Tryz.zeroValue131
  t228 := Tryz.underlying148
  a228 := Tryz.isAgg148
  z228 := Tryz.sizeOf148
  v228 := Tryz.zeroValue148
  t229 := Tryz.underlying149
  a229 := Tryz.isAgg149
  z229 := Tryz.sizeOf149
  v229 := Tryz.zeroValue149 }
open Go.Sort Go.RowKit in
theorem Tryz.slices_Sort_string (blk off cap : Nat) (ss : List (List UInt8)) (w : World) (hH : Holds encStr w blk off ss.toArray) (hblk : blk < w.heap.size) (hsz : ss.length < 4611686018427387904) :
    Calls Tryz.prog 67 #[.slice (some ⟨blk, off, none⟩) ss.length cap] w fun e w' =>
      e = .returned (.tuple #[]) ∧ ∃ n os, w' = grow (putRow encStr (Sort.ahead w n) blk off (ss.mergeSort fun x y => decide (x ≤ y)).toArray) os := Any.slices_Sort_string Tryz.lays190 blk off cap ss w hH hblk hsz
open Go.RowKit Go.Sort in
theorem Tryz.slices_Sort_string_none (p : Option Addr) (cap : Nat) (w : World) :
    Calls Tryz.prog 67 #[.slice p 0 cap] w fun e w' => e = .returned (.tuple #[]) ∧ w' = w := Any.slices_Sort_string_none Tryz.lays190 p cap w
end Go.Proofs
/- Viewers as plain lists: rising by name, found by name: no program. -/
namespace Go.Proofs.YtfibbjnkicjbpaaGreatDoor
open Go Go.Maps

/-- A viewer: the name's bytes, the clearance as a number. -/
structure Vw where
  s : List UInt8
  c : Nat
  deriving DecidableEq, Inhabited
def names (l : List Vw) : List (List UInt8) := l.map (·.s)
theorem names_perm {l l' : List Vw} (h : l.Perm l') : (names l).Perm (names l') := h.map _
/-- Rising by name. -/
def Rising (l : List Vw) : Prop := l.Pairwise fun x y => x.s < y.s
theorem lt_le {x y : List UInt8} (h : x < y) : x ≤ y := Std.le_of_lt h
theorem le_asymm {x y : List UInt8} (h : x ≤ y) (k : y ≤ x) : x = y := Std.le_antisymm h k
theorem Rising.nodup {l : List Vw} (h : Rising l) : (names l).Nodup := by
  unfold names
  rw [List.nodup_iff_pairwise_ne, List.pairwise_map]
  exact h.imp fun {a b} hab e => by
    have h1 : a.s < b.s := hab
    rw [e] at h1
    exact absurd h1 (Std.lt_irrefl)
theorem Rising.filter {l : List Vw} (h : Rising l) (p : Vw → Bool) : Rising (l.filter p) := List.Pairwise.filter p h
/-- The viewers, rising by name. -/
def byName (x y : Vw) : Bool := decide (x.s ≤ y.s)
def sortV (l : List Vw) : List Vw := l.mergeSort byName
theorem sortV_perm (l : List Vw) : (sortV l).Perm l := List.mergeSort_perm l _
theorem sortV_pairwise (l : List Vw) : (sortV l).Pairwise fun x y => x.s ≤ y.s := by
  have h := List.pairwise_mergeSort (le := byName) (fun a b c h k => by
    unfold byName at h k ⊢; simp only [decide_eq_true_eq] at h k ⊢; exact Std.le_trans h k) (fun a b => by
    unfold byName; simp only [Bool.or_eq_true, decide_eq_true_eq]; exact Std.le_total) l
  exact h.imp fun {a b} hab => by unfold byName at hab; simpa using hab
theorem rising_of {l : List Vw} (h : l.Pairwise fun x y => x.s ≤ y.s) (hn : (names l).Nodup) : Rising l := by
  unfold names at hn
  rw [List.nodup_iff_pairwise_ne, List.pairwise_map] at hn
  unfold Rising
  refine (h.and hn).imp fun {a b} hab => ?_
  exact Std.lt_of_le_of_ne hab.1 hab.2
theorem sortV_rising {l : List Vw} (hn : (names l).Nodup) : Rising (sortV l) :=
  rising_of (sortV_pairwise l) ((names_perm (sortV_perm l)).nodup_iff.2 hn)
/-- Two rising lists of the same viewers are one. -/
theorem rising_one : ∀ {l l' : List Vw}, Rising l → Rising l' → l.Perm l' → l = l'
  | _, _, h, h', hp => hp.eq_of_pairwise (le := fun (x y : Vw) => x.s < y.s) (fun _ _ _ _ hab hba => absurd (Std.lt_trans (α := List UInt8) hab hba) Std.lt_irrefl) h h'
theorem sortV_self {l : List Vw} (h : Rising l) : sortV l = l := rising_one (sortV_rising h.nodup) h (sortV_perm l)
theorem sortV_of_perm {l l' : List Vw} (h : Rising l') (hp : l.Perm l') : sortV l = l' := by
  have hn : (names l).Nodup := ((names_perm hp).nodup_iff).2 h.nodup
  exact rising_one (sortV_rising hn) h ((sortV_perm l).trans hp)
/-- The names, sorted. -/
theorem names_sorted {l : List Vw} (h : Rising l) {ss : List (List UInt8)} (hp : ss.Perm (names l)) : ss.mergeSort (fun x y => decide (x ≤ y)) = names l := by
  have e : ss.mergeSort Go.leB = (names l).mergeSort Go.leB := Go.mergeSort_of_perm hp
  have e2 : (names l).mergeSort Go.leB = names l := by
    apply List.mergeSort_of_pairwise
    unfold names
    rw [List.pairwise_map]
    exact h.imp fun {a b} hab => decide_eq_true (lt_le hab)
  exact e.trans e2
/-- The clearance that stands by a name. -/
def look (l : List Vw) (s : List UInt8) : Option Nat := (l.find? fun x => x.s == s).map (·.c)
/-- May they be a policy's? -/
def okL (l : List Vw) : Prop := l.length ≤ 64 ∧ (names l).Nodup ∧ ∀ x ∈ l, nameL x.s = true
instance (l : List Vw) : Decidable (okL l) := by unfold okL; infer_instance
theorem okL_filter {l : List Vw} (h : okL l) (p : Vw → Bool) : okL (l.filter p) :=
  ⟨Nat.le_trans (List.length_filter_le _ _) h.1, h.2.1.sublist (List.filter_sublist.map _), fun x hx => h.2.2 x ((List.mem_filter.1 hx).1)⟩
theorem okL_perm {l l' : List Vw} (hp : l.Perm l') (h : okL l) : okL l' :=
  ⟨hp.length_eq ▸ h.1, ((names_perm hp).nodup_iff).1 h.2.1, fun x hx => h.2.2 x (hp.mem_iff.2 hx)⟩
/-- Numbers of 64 bits. -/
def Lo64 (l : List Vw) : Prop := ∀ x ∈ l, x.c < 18446744073709551616
theorem Lo64.filter {l : List Vw} (h : Lo64 l) (p : Vw → Bool) : Lo64 (l.filter p) := fun x hx => h x (List.mem_filter.1 hx).1
theorem Lo64.perm {l l' : List Vw} (h : Lo64 l) (hp : l'.Perm l) : Lo64 l' := fun x hx => h x (hp.mem_iff.1 hx)
/-- What a map holds: these viewers, and no others. -/
structure MapIs {H : Type} (D : DataW H) (l : List Vw) : Prop where
  map : IsMap D
  has : ∀ s, Maps.has D (.string s) = true ↔ s ∈ names l
  at' : ∀ x ∈ l, ∀ z, D.atKey (.string x.s) z = .lit (.int .u64 x.c)
theorem mapIs_nil {H : Type} : MapIs (.map [] : DataW H) [] := ⟨⟨[], rfl⟩, fun s => by simp [Maps.has, names], fun x hx => by simp at hx⟩
theorem key_lit (s : List UInt8) : WideAt.IsKeyLit (.string s) := by simp [WideAt.IsKeyLit]
theorem MapIs.put {H : Type} {D : DataW H} {l : List Vw} (h : MapIs D l) (x : Vw) (hx : x.s ∉ names l) : MapIs (D.put (.string x.s) (.lit (.int .u64 x.c))) (l ++ [x]) := by
  refine ⟨h.map.put _ _, fun s => ?_, fun y hy z => ?_⟩
  · by_cases e : s = x.s
    · subst e
      simp [has_put_same h.map (key_lit _), names]
    · rw [has_put_other (by simpa using e), h.has]
      simp [names, e]
  · rw [List.mem_append, List.mem_singleton] at hy
    rcases hy with hy | rfl
    · have hne : y.s ≠ x.s := fun e => hx (e ▸ List.mem_map_of_mem hy)
      rw [atKey_put_other (by simpa using hne)]
      exact h.at' y hy z
    · exact atKey_put_same h.map (key_lit _) _ _
theorem MapIs.perm {H : Type} {D : DataW H} {l l' : List Vw} (h : MapIs D l) (hp : l.Perm l') : MapIs D l' :=
  ⟨h.map, fun s => by rw [h.has]; exact (hp.map (·.s)).mem_iff, fun x hx => h.at' x (hp.mem_iff.2 hx)⟩
end Go.Proofs.YtfibbjnkicjbpaaGreatDoor
