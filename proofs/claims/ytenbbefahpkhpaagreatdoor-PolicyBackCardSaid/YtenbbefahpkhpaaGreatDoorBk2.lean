/- Texts of the proof, merged: Shelf, Base, LbBase, LbSet, LbBelow, LbWord, LbBoth, LbOf, LbOps, LbMyOf, LbParseP. -/
import Derived.Test.YtenbbefahpkhpaaGreatDoorBk1
import Derived.Shelf.Strings.Builder1
import Derived.Shelf.Strings.Builder2
import Derived.Shelf.Small.Bits
import Derived.Shelf.Small.Wraps
import Derived.Shelf.Strconv.Itoa0
import Derived.Shelf.Strconv.Itoa1
import Derived.Shelf.LaysM
import Derived.Shelf.Strconv.Itoa2
import Derived.Shelf.Strconv.Itoa3
import Derived.Shelf.Strings.Search1
import Derived.Shelf.Strings.Search2
import Derived.Shelf.Strings.Search3
import Derived.Shelf.Strings.Cut
import Derived.Shelf.Strings.Count
import Derived.Shelf.Strings.Shaped
import Derived.Shelf.GgClosure.StringsIndexFunc
import Derived.Ground.GgwProg
import Derived.Shelf.GgClosure.StringsIndexFuncTop
import Derived.Shelf.GgClosure.StringsRunes
import Derived.Shelf.Strings.Prefix
import Derived.Shelf.Strings.Split
import Derived.Shelf.Strings.SplitShaped
import Derived.Shelf.Unicode.DecodeSlow
import Derived.Shelf.Unicode.DecodeAny
import Derived.Shelf.Strings.FuncGrows
import Derived.Test.YtenbbefahpkhpaaGreatDoorProg
import Derived.Test.YtenbbefahpkhpaaGreatDoorRows
import Derived.WalkKit
import Derived.WalkSpells
import Derived.WalkLawsBesides
import Derived.Lib.Hide
import Derived.Lib.SmallJoins
import Derived.Deep.LoopGhost
import Derived.BigQuiet
import Derived.StillTactics
import Derived.OwnWalk
import Derived.Laws.Rows
import Derived.Laws.Tables
import Derived.Shelf.GgClosure.Gives
import Derived.Laws.CopyOwn
import Derived.Deep.WholeRow
import Derived.Deep.DeepCutAuto
import Derived.Laws.BitsAllLaws
/- The library's contracts that the walks call, laid at this program by the shelf's own tool (plain mode), without its remarks. -/
namespace Go.Proofs
open Go.Shelf
def Tryz.lays104_ren : Go.Shelf.Ren := ⟨fun | 104 => 94 | 211 => 115 | 207 => 138 | n => n, fun | 9 => 9 | 4 => 4 | 24 => 123 | 3 => 3 | n => n, fun | n => n⟩
theorem Tryz.lays104 : Go.Proofs.Lays.n104 Tryz.prog Tryz.lays104_ren := {
  mixed := by kernel_rfl
  f104 := Tryz.func94.trans (congrArg some (by kernel_rfl))
  f207 := Tryz.func138.trans (congrArg some (by kernel_rfl))
  f211 := Tryz.func115.trans (congrArg some (by kernel_rfl))
  t3 := Tryz.underlying3
  a3 := Tryz.isAgg3
  z3 := Tryz.sizeOf3
  v3 := Tryz.zeroValue3
  t4 := Tryz.underlying4
  a4 := Tryz.isAgg4
  z4 := Tryz.sizeOf4
  v4 := Tryz.zeroValue4
  t9 := Tryz.underlying9
  a9 := Tryz.isAgg9
  z9 := Tryz.sizeOf9
  v9 := Tryz.zeroValue9
  t24 := Tryz.underlying123
  a24 := Tryz.isAgg123
  z24 := Tryz.sizeOf123
  v24 := Tryz.zeroValue123 }
open Go.RowKit in
theorem Tryz.strings_CutSuffix (s p : ByteArray) (w : World) (hs : s.size ≤ 9223372036854775807) :
    Calls Tryz.prog 94 #[.string s, .string p] w fun e w' => e = .returned (.tuple #[.string ⟨(Lib.trimSuffix s.data.toList p.data.toList).toArray⟩, .bool (Lib.hasSuffix s.data.toList p.data.toList)]) ∧ w' = w := Any.strings_CutSuffix Tryz.lays104 s p w hs
def Tryz.lays143_ren : Go.Shelf.Ren := ⟨fun | 143 => 93 | 219 => 114 | 217 => 134 | 225 => 135 | 224 => 136 | 267 => 137 | 266 => 155 | 314 => 156 | n => n, fun | 9 => 9 | 3 => 3 | 4 => 4 | 5 => 5 | 46 => 51 | 146 => 174 | 51 => 115 | n => n, fun | 1 => 1 | n => n⟩
theorem Tryz.lays143 : Go.Proofs.Lays.n143 Tryz.prog Tryz.lays143_ren := {
  mixed := by kernel_rfl
  f143 := Tryz.func93.trans (congrArg some (by kernel_rfl))
  f217 := Tryz.func134.trans (congrArg some (by kernel_rfl))
  f219 := Tryz.func114.trans (congrArg some (by kernel_rfl))
  f224 := Tryz.func136.trans (congrArg some (by kernel_rfl))
  f225 := Tryz.func135.trans (congrArg some (by kernel_rfl))
  f266 := Tryz.func155.trans (congrArg some (by kernel_rfl))
  f267 := Tryz.func137.trans (congrArg some (by kernel_rfl))
  f314 := Tryz.func156.trans (congrArg some (by kernel_rfl))
  t3 := Tryz.underlying3
  a3 := Tryz.isAgg3
  z3 := Tryz.sizeOf3
  v3 := Tryz.zeroValue3
  t4 := Tryz.underlying4
  a4 := Tryz.isAgg4
  z4 := Tryz.sizeOf4
  v4 := Tryz.zeroValue4
  t5 := Tryz.underlying5
  a5 := Tryz.isAgg5
  z5 := Tryz.sizeOf5
  v5 := Tryz.zeroValue5
  t9 := Tryz.underlying9
  a9 := Tryz.isAgg9
  z9 := Tryz.sizeOf9
  v9 := Tryz.zeroValue9
  t46 := Tryz.underlying51
  a46 := Tryz.isAgg51
  z46 := Tryz.sizeOf51
  v46 := Tryz.zeroValue51
  t51 := Tryz.underlying115
  a51 := Tryz.isAgg115
  z51 := Tryz.sizeOf115
  v51 := Tryz.zeroValue115
  t146 := Tryz.underlying174
  a146 := Tryz.isAgg174
  z146 := Tryz.sizeOf174
  v146 := Tryz.zeroValue174
  g1 := by kernel_rfl }
open Go.RowKit Go.Lib in
theorem Tryz.strings_Index_one (s : ByteArray) (c : UInt8) (w : World) :
    Calls Tryz.prog 93 #[.string s, .string ⟨#[c]⟩] w fun e w' => e = .returned (.int .i64 (Lib.indexByte s.data.toList c)) ∧ w' = w := Any.strings_Index_one Tryz.lays143 s c w
def Tryz.lays145_ren : Go.Shelf.Ren := ⟨fun | 145 => 66 | 220 => 96 | 219 => 114 | 217 => 134 | 225 => 135 | 224 => 136 | 267 => 137 | 266 => 155 | 314 => 156 | n => n, fun | 9 => 9 | 4 => 4 | 59 => 101 | 3 => 3 | 5 => 5 | 46 => 51 | 146 => 174 | 51 => 115 | n => n, fun | 1 => 1 | n => n⟩
theorem Tryz.lays145 : Go.Proofs.Lays.n145 Tryz.prog Tryz.lays145_ren := {
  mixed := by kernel_rfl
  f145 := Tryz.func66.trans (congrArg some (by kernel_rfl))
  f217 := Tryz.func134.trans (congrArg some (by kernel_rfl))
  f219 := Tryz.func114.trans (congrArg some (by kernel_rfl))
  f220 := Tryz.func96.trans (congrArg some (by kernel_rfl))
  f224 := Tryz.func136.trans (congrArg some (by kernel_rfl))
  f225 := Tryz.func135.trans (congrArg some (by kernel_rfl))
  f266 := Tryz.func155.trans (congrArg some (by kernel_rfl))
  f267 := Tryz.func137.trans (congrArg some (by kernel_rfl))
  f314 := Tryz.func156.trans (congrArg some (by kernel_rfl))
  t3 := Tryz.underlying3
  a3 := Tryz.isAgg3
  z3 := Tryz.sizeOf3
  v3 := Tryz.zeroValue3
  t4 := Tryz.underlying4
  a4 := Tryz.isAgg4
  z4 := Tryz.sizeOf4
  v4 := Tryz.zeroValue4
  t5 := Tryz.underlying5
  a5 := Tryz.isAgg5
  z5 := Tryz.sizeOf5
  v5 := Tryz.zeroValue5
  t9 := Tryz.underlying9
  a9 := Tryz.isAgg9
  z9 := Tryz.sizeOf9
  v9 := Tryz.zeroValue9
  t46 := Tryz.underlying51
  a46 := Tryz.isAgg51
  z46 := Tryz.sizeOf51
  v46 := Tryz.zeroValue51
  t51 := Tryz.underlying115
  a51 := Tryz.isAgg115
  z51 := Tryz.sizeOf115
  v51 := Tryz.zeroValue115
  t59 := Tryz.underlying101
  a59 := Tryz.isAgg101
  z59 := Tryz.sizeOf101
  v59 := Tryz.zeroValue101
  t146 := Tryz.underlying174
  a146 := Tryz.isAgg174
  z146 := Tryz.sizeOf174
  v146 := Tryz.zeroValue174
  g1 := by kernel_rfl }
open Go.RowKit Go.Lib in
theorem Tryz.strings_Cut (s sep : ByteArray) (m : Int) (w : World) (hs : s.size < 4294967281) (hm : w.cell? ⟨1, 0, none⟩ = some (.int .i64 m)) :
    Calls Tryz.prog 66 #[.string s, .string sep] w fun e w' => e = .returned (.tuple #[.string ⟨(Lib.cut s.data.toList sep.data.toList).1.toArray⟩, .string ⟨(Lib.cut s.data.toList sep.data.toList).2.1.toArray⟩, .bool (Lib.cut s.data.toList sep.data.toList).2.2]) ∧ ∃ n, w' = w.drewN n := Any.strings_Cut Tryz.lays145 s sep m w hs hm
def Tryz.lays138_ren : Go.Shelf.Ren := ⟨fun | 138 => 64 | 195 => 91 | 218 => 92 | 143 => 93 | 219 => 114 | 217 => 134 | 225 => 135 | 224 => 136 | 267 => 137 | 266 => 155 | 314 => 156 | n => n, fun | 9 => 9 | 3 => 3 | 4 => 4 | 5 => 5 | 0 => 0 | 46 => 51 | 146 => 174 | 51 => 115 | n => n, fun | 1 => 1 | n => n⟩
theorem Tryz.lays138 : Go.Proofs.Lays.n138 Tryz.prog Tryz.lays138_ren := {
  mixed := by kernel_rfl
  f138 := Tryz.func64.trans (congrArg some (by kernel_rfl))
  f143 := Tryz.func93.trans (congrArg some (by kernel_rfl))
  f195 := Tryz.func91.trans (congrArg some (by kernel_rfl))
  f217 := Tryz.func134.trans (congrArg some (by kernel_rfl))
  f218 := Tryz.func92.trans (congrArg some (by kernel_rfl))
  f219 := Tryz.func114.trans (congrArg some (by kernel_rfl))
  f224 := Tryz.func136.trans (congrArg some (by kernel_rfl))
  f225 := Tryz.func135.trans (congrArg some (by kernel_rfl))
  f266 := Tryz.func155.trans (congrArg some (by kernel_rfl))
  f267 := Tryz.func137.trans (congrArg some (by kernel_rfl))
  f314 := Tryz.func156.trans (congrArg some (by kernel_rfl))
  t0 := Tryz.underlying0
  a0 := Tryz.isAgg0
  z0 := Tryz.sizeOf0
  v0 := Tryz.zeroValue0
  t3 := Tryz.underlying3
  a3 := Tryz.isAgg3
  z3 := Tryz.sizeOf3
  v3 := Tryz.zeroValue3
  t4 := Tryz.underlying4
  a4 := Tryz.isAgg4
  z4 := Tryz.sizeOf4
  v4 := Tryz.zeroValue4
  t5 := Tryz.underlying5
  a5 := Tryz.isAgg5
  z5 := Tryz.sizeOf5
  v5 := Tryz.zeroValue5
  t9 := Tryz.underlying9
  a9 := Tryz.isAgg9
  z9 := Tryz.sizeOf9
  v9 := Tryz.zeroValue9
  t46 := Tryz.underlying51
  a46 := Tryz.isAgg51
  z46 := Tryz.sizeOf51
  v46 := Tryz.zeroValue51
  t51 := Tryz.underlying115
  a51 := Tryz.isAgg115
  z51 := Tryz.sizeOf115
  v51 := Tryz.zeroValue115
  t146 := Tryz.underlying174
  a146 := Tryz.isAgg174
  z146 := Tryz.sizeOf174
  v146 := Tryz.zeroValue174
  g1 := by kernel_rfl }
open Go.RowKit Go.Lib in
theorem Tryz.strings_Count_one (s : ByteArray) (c : UInt8) (w : World) :
    Calls Tryz.prog 64 #[.string s, .string ⟨#[c]⟩] w fun e w' => e = .returned (.int .i64 (Lib.countByte s.data.toList c)) ∧ w' = w := Any.strings_Count_one Tryz.lays138 s c w
def Tryz.laysGw17_ren : Go.Shelf.Ren := ⟨fun | 17 => 62 | 15 => 90 | 20 => 113 | n => n, fun | 9 => 9 | 23 => 99 | 4 => 4 | 3 => 3 | 0 => 0 | 21 => 21 | n => n, fun | n => n⟩
theorem Tryz.laysGw17 : Go.Proofs.LaysGw.n17 Tryz.prog Tryz.laysGw17_ren := {
  mixed := by kernel_rfl
  f15 := Tryz.func90.trans (congrArg some (by kernel_rfl))
  f17 := Tryz.func62.trans (congrArg some (by kernel_rfl))
  f20 := Tryz.func113.trans (congrArg some (by kernel_rfl))
  t0 := Tryz.underlying0
  a0 := Tryz.isAgg0
  z0 := Tryz.sizeOf0
  v0 := Tryz.zeroValue0
  i0 := by kernel_rfl
  t3 := Tryz.underlying3
  a3 := Tryz.isAgg3
  z3 := Tryz.sizeOf3
  v3 := Tryz.zeroValue3
  i3 := by kernel_rfl
  t4 := Tryz.underlying4
  a4 := Tryz.isAgg4
  z4 := Tryz.sizeOf4
  v4 := Tryz.zeroValue4
  i4 := by kernel_rfl
  t9 := Tryz.underlying9
  a9 := Tryz.isAgg9
  z9 := Tryz.sizeOf9
  v9 := Tryz.zeroValue9
  i9 := by kernel_rfl
  t21 := Tryz.underlying21
  a21 := Tryz.isAgg21
  z21 := Tryz.sizeOf21
  v21 := Tryz.zeroValue21
  i21 := by kernel_rfl
  t23 := Tryz.underlying99
  a23 := Tryz.isAgg99
  z23 := Tryz.sizeOf99
  v23 := Tryz.zeroValue99
  i23 := by kernel_rfl }
open Go.RowKit Go.Lib in
theorem Tryz.strings_ContainsFunc (g : Nat) (lb : Array Value) (eg : ∀ args w, (callFunc g args).run Tryz.prog w = .ok (.enter g args) w) (p : Nat → Bool) (s : ByteArray) (w : World) (hp : PredAt Tryz.prog g lb encR p w) :
    Calls Tryz.prog 62 #[.string s, .func (.func g) #[] lb] w fun e w' => e = .returned (.bool (decide (0 ≤ Lib.idxFunc p true s))) ∧ Below w.heap.size w w' := Any.strings_ContainsFunc Tryz.laysGw17 g lb eg p s w hp
def Tryz.lays146_ren : Go.Shelf.Ren := ⟨fun | 146 => 95 | 221 => 116 | 268 => 139 | 138 => 64 | 143 => 93 | 195 => 91 | 197 => 141 | 218 => 92 | 219 => 114 | 260 => 157 | 217 => 134 | 225 => 135 | 224 => 136 | 267 => 137 | 266 => 155 | 314 => 156 | n => n, fun | 9 => 9 | 31 => 33 | 3 => 3 | 4 => 4 | 0 => 0 | 105 => 160 | 21 => 21 | 5 => 5 | 46 => 51 | 119 => 183 | 139 => 186 | 138 => 185 | 146 => 174 | 51 => 115 | n => n, fun | 1 => 1 | 3 => 5 | 4 => 6 | n => n⟩
theorem Tryz.lays146 : Go.Proofs.Lays.n146 Tryz.prog Tryz.lays146_ren := {
  mixed := by kernel_rfl
  f138 := Tryz.func64.trans (congrArg some (by kernel_rfl))
  f143 := Tryz.func93.trans (congrArg some (by kernel_rfl))
  f146 := Tryz.func95.trans (congrArg some (by kernel_rfl))
  f195 := Tryz.func91.trans (congrArg some (by kernel_rfl))
  f197 := Tryz.func141.trans (congrArg some (by kernel_rfl))
  f217 := Tryz.func134.trans (congrArg some (by kernel_rfl))
  f218 := Tryz.func92.trans (congrArg some (by kernel_rfl))
  f219 := Tryz.func114.trans (congrArg some (by kernel_rfl))
  f221 := Tryz.func116.trans (congrArg some (by kernel_rfl))
  f224 := Tryz.func136.trans (congrArg some (by kernel_rfl))
  f225 := Tryz.func135.trans (congrArg some (by kernel_rfl))
  f260 := Tryz.func157.trans (congrArg some (by kernel_rfl))
  f266 := Tryz.func155.trans (congrArg some (by kernel_rfl))
  f267 := Tryz.func137.trans (congrArg some (by kernel_rfl))
  f268 := Tryz.func139.trans (congrArg some (by kernel_rfl))
  f314 := Tryz.func156.trans (congrArg some (by kernel_rfl))
  t0 := Tryz.underlying0
  a0 := Tryz.isAgg0
  z0 := Tryz.sizeOf0
  v0 := Tryz.zeroValue0
  t3 := Tryz.underlying3
  a3 := Tryz.isAgg3
  z3 := Tryz.sizeOf3
  v3 := Tryz.zeroValue3
  t4 := Tryz.underlying4
  a4 := Tryz.isAgg4
  z4 := Tryz.sizeOf4
  v4 := Tryz.zeroValue4
  t5 := Tryz.underlying5
  a5 := Tryz.isAgg5
  z5 := Tryz.sizeOf5
  v5 := Tryz.zeroValue5
  t9 := Tryz.underlying9
  a9 := Tryz.isAgg9
  z9 := Tryz.sizeOf9
  v9 := Tryz.zeroValue9
  t21 := Tryz.underlying21
  a21 := Tryz.isAgg21
  z21 := Tryz.sizeOf21
  v21 := Tryz.zeroValue21
  t31 := Tryz.underlying33
  a31 := Tryz.isAgg33
  z31 := Tryz.sizeOf33
  v31 := Tryz.zeroValue33
  t46 := Tryz.underlying51
  a46 := Tryz.isAgg51
  z46 := Tryz.sizeOf51
  v46 := Tryz.zeroValue51
  t51 := Tryz.underlying115
  a51 := Tryz.isAgg115
  z51 := Tryz.sizeOf115
  v51 := Tryz.zeroValue115
  t105 := Tryz.underlying160
  a105 := Tryz.isAgg160
  z105 := Tryz.sizeOf160
  v105 := Tryz.zeroValue160
  t119 := Tryz.underlying183
  a119 := Tryz.isAgg183
  z119 := Tryz.sizeOf183
  t138 := Tryz.underlying185
  a138 := Tryz.isAgg185
  z138 := Tryz.sizeOf185
  v138 := Tryz.zeroValue185
  t139 := Tryz.underlying186
  a139 := Tryz.isAgg186
  z139 := Tryz.sizeOf186
  v139 := Tryz.zeroValue186
  t146 := Tryz.underlying174
  a146 := Tryz.isAgg174
  z146 := Tryz.sizeOf174
  v146 := Tryz.zeroValue174
  g1 := by kernel_rfl
  g3 := by kernel_rfl
  g4 := by kernel_rfl }
open Go.RowKit Go.Lib in
theorem Tryz.strings_Split (s sep : ByteArray) (m : Int) (w : World) (hs : s.size < 4294967281) (hm : w.cell? ⟨1, 0, none⟩ = some (.int .i64 m)) (h1 : 1 ≤ sep.size) :
    Calls Tryz.prog 95 #[.string s, .string sep] w fun e w' =>
      e = .returned (.slice (some ⟨w.heap.size, 0, none⟩) (Lib.countB s sep + 1) (Lib.countB s sep + 1)) ∧ w' = w.alloc (.cells ((Lib.splitB sep 0 (Lib.countB s sep) s).map Value.string).toArray 9) := Any.strings_Split Tryz.lays146 (by kernel_rfl) s sep m w hs hm h1
def Tryz.laysM146_ren : Go.Shelf.Ren := ⟨fun | 146 => 95 | 221 => 116 | 268 => 139 | 138 => 64 | 143 => 93 | 195 => 91 | 197 => 141 | 218 => 92 | 219 => 114 | 260 => 157 | 217 => 134 | 225 => 135 | 224 => 136 | 267 => 137 | 266 => 155 | 314 => 156 | n => n, fun | 9 => 9 | 31 => 33 | 3 => 3 | 4 => 4 | 0 => 0 | 105 => 160 | 21 => 21 | 5 => 5 | 46 => 51 | 119 => 183 | 139 => 186 | 138 => 185 | 146 => 174 | 51 => 115 | n => n, fun | 1 => 1 | 3 => 5 | 4 => 6 | n => n⟩
theorem Tryz.laysM146 : Go.Proofs.LaysM.n146 Tryz.prog Tryz.laysM146_ren := {
  mixed := by kernel_rfl
  f138 := Tryz.func64.trans (congrArg some (by kernel_rfl))
  f143 := Tryz.func93.trans (congrArg some (by kernel_rfl))
  f146 := Tryz.func95.trans (congrArg some (by kernel_rfl))
  f195 := Tryz.func91.trans (congrArg some (by kernel_rfl))
  f197 := Tryz.func141.trans (congrArg some (by kernel_rfl))
  f217 := Tryz.func134.trans (congrArg some (by kernel_rfl))
  f218 := Tryz.func92.trans (congrArg some (by kernel_rfl))
  f219 := Tryz.func114.trans (congrArg some (by kernel_rfl))
  f221 := Tryz.func116.trans (congrArg some (by kernel_rfl))
  f224 := Tryz.func136.trans (congrArg some (by kernel_rfl))
  f225 := Tryz.func135.trans (congrArg some (by kernel_rfl))
  f260 := Tryz.func157.trans (congrArg some (by kernel_rfl))
  f266 := Tryz.func155.trans (congrArg some (by kernel_rfl))
  f267 := Tryz.func137.trans (congrArg some (by kernel_rfl))
  f268 := Tryz.func139.trans (congrArg some (by kernel_rfl))
  f314 := Tryz.func156.trans (congrArg some (by kernel_rfl))
  t0 := Tryz.underlying0
  a0 := Tryz.isAgg0
  z0 := Tryz.sizeOf0
  v0 := Tryz.zeroValue0
  t3 := Tryz.underlying3
  a3 := Tryz.isAgg3
  z3 := Tryz.sizeOf3
  v3 := Tryz.zeroValue3
  t4 := Tryz.underlying4
  a4 := Tryz.isAgg4
  z4 := Tryz.sizeOf4
  v4 := Tryz.zeroValue4
  t5 := Tryz.underlying5
  a5 := Tryz.isAgg5
  z5 := Tryz.sizeOf5
  v5 := Tryz.zeroValue5
  t9 := Tryz.underlying9
  a9 := Tryz.isAgg9
  z9 := Tryz.sizeOf9
  v9 := Tryz.zeroValue9
  t21 := Tryz.underlying21
  a21 := Tryz.isAgg21
  z21 := Tryz.sizeOf21
  v21 := Tryz.zeroValue21
  t31 := Tryz.underlying33
  a31 := Tryz.isAgg33
  z31 := Tryz.sizeOf33
  v31 := Tryz.zeroValue33
  t46 := Tryz.underlying51
  a46 := Tryz.isAgg51
  z46 := Tryz.sizeOf51
  v46 := Tryz.zeroValue51
  t51 := Tryz.underlying115
  a51 := Tryz.isAgg115
  z51 := Tryz.sizeOf115
  v51 := Tryz.zeroValue115
  t105 := Tryz.underlying160
  a105 := Tryz.isAgg160
  z105 := Tryz.sizeOf160
  v105 := Tryz.zeroValue160
  t119 := Tryz.underlying183
  a119 := Tryz.isAgg183
  z119 := Tryz.sizeOf183
  t138 := Tryz.underlying185
  a138 := Tryz.isAgg185
  z138 := Tryz.sizeOf185
  v138 := Tryz.zeroValue185
  t139 := Tryz.underlying186
  a139 := Tryz.isAgg186
  z139 := Tryz.sizeOf186
  v139 := Tryz.zeroValue186
  t146 := Tryz.underlying174
  a146 := Tryz.isAgg174
  z146 := Tryz.sizeOf174
  v146 := Tryz.zeroValue174
  g1 := by kernel_rfl
  g3 := by kernel_rfl
  g4 := by kernel_rfl
  i0 := by kernel_rfl
  i3 := by kernel_rfl
  i4 := by kernel_rfl
  i5 := by kernel_rfl
  i9 := by kernel_rfl
  i21 := by kernel_rfl
  i31 := by kernel_rfl
  i46 := by kernel_rfl
  i51 := by kernel_rfl
  i105 := by kernel_rfl
  i138 := by kernel_rfl
  i139 := by kernel_rfl
  i146 := by kernel_rfl
  m1 := by kernel_rfl
  s1_3 := fun w h => Go.Proofs.cell_of_shapedOpen_int (zero := #[.int .i64 0]) (t := 3) h (of_decide_eq_true (by kernel_rfl)) (by kernel_rfl) rfl (by kernel_rfl) (by kernel_rfl) Tryz.underlying3
  m3 := by kernel_rfl
  m4 := by kernel_rfl }
open Go.RowKit Go.Lib in
theorem Tryz.strings_Split_shaped (s sep : ByteArray) (w : World) (h : w.ShapedOpen Tryz.prog) (hs : s.size < 4294967281) (h1 : 1 ≤ sep.size) :
    Calls Tryz.prog 95 #[.string s, .string sep] w fun e w' =>
      e = .returned (.slice (some ⟨w.heap.size, 0, none⟩) (Lib.countB s sep + 1) (Lib.countB s sep + 1)) ∧ w' = w.alloc (.cells ((Lib.splitB sep 0 (Lib.countB s sep) s).map Value.string).toArray 9) := Any.strings_Split_shaped Tryz.laysM146 s sep w h hs h1
end Go.Proofs
/- What the walks import; how an ending is spelt. -/
namespace Go.Proofs.YtenbbefahpkhpaaGreatDoor
open Go.RowKit

theorem ret_bool {a b : Bool} (h : a = b) : Ending.returned (.bool a) = .returned (.bool b) := by rw [h]

theorem ret_int {k : IntKind} {a b : Int} (h : a = b) : Ending.returned (.int k a) = .returned (.int k b) := by rw [h]

theorem str_ret {a b : ByteArray} (h : a = b) : Ending.returned (.string a) = .returned (.string b) := by rw [h]
end Go.Proofs.YtenbbefahpkhpaaGreatDoor
/- What the walks over labels import. -/
namespace Go.Proofs.YtenbbefahpkhpaaGreatDoor
open Go.RowKit

/-- Sixty-four truths as cells. -/
structure Bits (cs : Array Value) (f : Nat → Bool) : Prop where
  size : cs.size = 64
  get : ∀ i, i < 64 → cs[i]? = some (.bool (f i))
theorem Bits.cell {w : World} {cs : Array Value} {f : Nat → Bool} {t : TypeId} (h : Bits cs f) (i : Nat) (hi : i < 64) : (w.alloc (.cells cs t)).cell? ⟨w.heap.size, i, none⟩ = some (.bool (f i)) := by
  rw [World.cell?_alloc_mark]; exact h.get i hi
end Go.Proofs.YtenbbefahpkhpaaGreatDoor
/- The document's Set, by its contract. -/
namespace Go.Proofs.YtenbbefahpkhpaaGreatDoor
open Go.RowKit

theorem div_pow_step (a k : Nat) : a / 2 ^ (k + 1) = a / 2 ^ k / 2 := by rw [Nat.pow_succ, Nat.div_div_eq_div_mul]
theorem bit_div (a k : Nat) : a.testBit k = (a / 2 ^ k % 2 == 1) := by
  rw [Nat.testBit_eq_decide_div_mod_eq]
  rw [Bool.eq_iff_iff]; simp
theorem bools_one {cs : Array Value} {f : Nat → Bool} (h : Bits cs f) : cs.all (·.oneCell') = true := by
  rw [Array.all_eq_true]
  intro i hi
  have h1 := h.get i (by have := h.size; omega)
  rw [Array.getElem?_eq_getElem hi, Option.some.injEq] at h1
  rw [h1]; rfl
end Go.Proofs.YtenbbefahpkhpaaGreatDoor
/- The document's Below, by its contract. -/
namespace Go.Proofs.YtenbbefahpkhpaaGreatDoor
open Go.RowKit

theorem below_no (a b k : Nat) (hk : k < 64) (h1 : a.testBit k = true) (h2 : b.testBit k = false) : belowB a b = false := by
  cases h : belowB a b with
  | false => rfl
  | true => have := (below_iff a b).1 h k hk h1; rw [h2] at this; cases this
theorem below_yes (a b : Nat) (h : ∀ i, i < 64 → (a.testBit i && !b.testBit i) = false) : belowB a b = true := by
  rw [below_iff]
  intro i hi ha
  have := h i hi
  rw [ha] at this
  simpa using this

/-- Two arrays of the call's own, written whole one behind the other. -/
theorem heap_first (w : World) (z z' : Array Value) (T : TypeId) : ((w.alloc (.cells z T)).alloc (.cells z' T)).heap[w.heap.size]? = some (.cells z T (0, 0)) := by
  rw [heap_alloc_old _ _ (by simp)]; exact heap_alloc_new _ _
theorem heap_second (w : World) (z z' cs : Array Value) (T : TypeId) : (((w.alloc (.cells z T)).alloc (.cells z' T)).setRow w.heap.size cs).heap[w.heap.size + 1]? = some (.cells z' T (0, 0)) := by
  rw [setRow_other _ _ _ _ (by omega)]
  have := heap_alloc_new (w.alloc (.cells z T)) (.cells z' T)
  simpa using this
def TwoArr (w W : World) (cs ds : Array Value) : Prop := W.heap.size = w.heap.size + 2 ∧ Below w.heap.size w W ∧ (∀ i, W.cell? ⟨w.heap.size, i, none⟩ = cs[i]?) ∧ ∀ i, W.cell? ⟨w.heap.size + 1, i, none⟩ = ds[i]?
theorem twoArr (w : World) (z z' cs ds : Array Value) (T : TypeId) : TwoArr w ((((w.alloc (.cells z T)).alloc (.cells z' T)).setRow w.heap.size cs).setRow (w.heap.size + 1) ds) cs ds := by
  have h1 := heap_first w z z' T
  have h2 := heap_second w z z' cs T
  have h3 := setRow_heap _ _ _ cs _ _ h1
  have h4 := setRow_heap _ _ _ ds _ _ h2
  refine ⟨by simp, below_setRow (below_setRow (((Below.refl _ _).alloc (Nat.le_refl _) _).alloc (by simp) _) (Nat.le_refl _) _) (by omega) _, fun i => ?_, fun i => cell_of_row _ _ _ _ _ _ h4⟩
  have h5 : ((((w.alloc (.cells z T)).alloc (.cells z' T)).setRow w.heap.size cs).setRow (w.heap.size + 1) ds).heap[w.heap.size]? = some (.cells cs T (0, 0)) := by
    rw [setRow_other _ _ _ _ (by omega)]; exact h3
  exact cell_of_row _ _ _ _ _ _ h5

end Go.Proofs.YtenbbefahpkhpaaGreatDoor
/- The document's Word, by its contract. -/
namespace Go.Proofs.YtenbbefahpkhpaaGreatDoor
open Go.RowKit

end Go.Proofs.YtenbbefahpkhpaaGreatDoor
/- The document's Both, by its contract. -/
namespace Go.Proofs.YtenbbefahpkhpaaGreatDoor
open Go.RowKit

theorem both1 (a b k : Nat) : bothF 1 a b k = (a.testBit k || b.testBit k) := rfl
theorem both2 (a b k : Nat) : bothF 2 a b k = (a.testBit k && b.testBit k) := rfl
theorem both3 (a b k : Nat) : bothF 3 a b k = (a.testBit k && !b.testBit k) := rfl

end Go.Proofs.YtenbbefahpkhpaaGreatDoor
/- The document's Of, by its contract; rows of numbers; lists of numbers compared. -/
namespace Go.Proofs.YtenbbefahpkhpaaGreatDoor
open Go.RowKit

/-- The slice at p holds these numbers. -/
def NumRow (k : IntKind) (w : World) (p : Option Addr) (xs : List Int) : Prop := ∀ i (h : i < xs.length), ∃ b off, p = some ⟨b, off, none⟩ ∧ b < w.heap.size ∧ w.cell? ⟨b, off + i, none⟩ = some (.int k xs[i])
theorem NumRow.at {kd : IntKind} {w : World} {p : Option Addr} {xs : List Int} (h : NumRow kd w p xs) (i : Nat) (hi : i < xs.length) : ∃ b off, p = some ⟨b, off, none⟩ ∧ b < w.heap.size ∧ ∀ W, Below w.heap.size w W → W.cell? ⟨b, off + i, none⟩ = some (.int kd xs[i]) := by
  obtain ⟨b, off, e, hlt, hc⟩ := h i hi
  exact ⟨b, off, e, hlt, fun W hb => (hb.cell (p := ⟨b, off + i, none⟩) hlt).trans hc⟩
theorem NumRow.later {kd : IntKind} {w W : World} {p : Option Addr} {xs : List Int} (h : NumRow kd w p xs) (hb : Below w.heap.size w W) : NumRow kd W p xs := fun i hi => by
  obtain ⟨b, off, e, hlt, hc⟩ := h i hi
  exact ⟨b, off, e, Nat.lt_of_lt_of_le hlt hb.size, (hb.cell (p := ⟨b, off + i, none⟩) hlt).trans hc⟩

def ofOk (xs : List Int) : Bool := xs.all fun x => decide (0 ≤ x) && decide (x ≤ 63)
def ofF (xs : List Int) (i : Nat) : Bool := xs.contains (i : Int)
def ofW (xs : List Int) : Nat := if ofOk xs then wordOf (ofF xs) else 0
def ofE (xs : List Int) : Int := if ofOk xs then 0 else 1
theorem of_bad (xs : List Int) (k : Nat) (h : k < xs.length) (hx : xs[k] < 0 ∨ 63 < xs[k]) : ofW xs = 0 ∧ ofE xs = 1 := by
  have e : ofOk xs = false := by
    unfold ofOk
    rw [List.all_eq_false]
    refine ⟨xs[k], List.getElem_mem h, ?_⟩
    simp; omega
  unfold ofW ofE; rw [e]; exact ⟨rfl, rfl⟩
theorem of_good (xs : List Int) (h : ∀ (k : Nat) (hk : k < xs.length), 0 ≤ xs[k] ∧ xs[k] ≤ 63) : ofW xs = wordOf (ofF xs) ∧ ofE xs = 0 := by
  have e : ofOk xs = true := by
    unfold ofOk
    rw [List.all_eq_true]
    intro x hx
    obtain ⟨k, hk, rfl⟩ := List.getElem_of_mem hx
    have := h k hk
    simp [this.1, this.2]
  unfold ofW ofE; rw [e]; exact ⟨rfl, rfl⟩
theorem ofF_take (xs : List Int) (k m i : Nat) (h : k < xs.length) (hm : xs[k] = (m : Int)) : ofF (xs.take (k + 1)) i = (ofF (xs.take k) i || decide (i = m)) := by
  unfold ofF
  rw [List.take_succ_eq_append_getElem h, List.contains_append, hm]
  congr 1
  rw [Bool.eq_iff_iff]; simp; omega
theorem zeros_at (i : Nat) (h : i < 64) : (Array.replicate 64 (Value.bool false))[i]? = some (.bool false) := by
  rw [Array.getElem?_replicate, if_pos h]
theorem ofF_all (xs : List Int) (n : Nat) (h : xs.length = n) : ofF (xs.take n) = ofF xs := by rw [List.take_of_length_le (by omega)]

end Go.Proofs.YtenbbefahpkhpaaGreatDoor
/- label's own words on two labels, by contract: the world stays as it is. -/
namespace Go.Proofs.YtenbbefahpkhpaaGreatDoor
open Go.RowKit

/-- What is in a and not in b. -/
def lessN (a b : Nat) : Nat := a &&& (18446744073709551615 - b)
theorem less_bit (a b : Nat) (hb : b < 18446744073709551616) (i : Nat) (hi : i < 64) : (lessN a b).testBit i = (a.testBit i && !b.testBit i) := by
  have e : 18446744073709551615 - b = 2 ^ 64 - (b + 1) := by omega
  unfold lessN
  rw [Nat.testBit_and, e, Nat.testBit_two_pow_sub_succ hb i, decide_eq_true hi, Bool.true_and]
theorem less_lt (a b : Nat) (ha : a < 18446744073709551616) : lessN a b < 18446744073709551616 := Nat.lt_of_le_of_lt Nat.and_le_left ha
theorem both_less (a b : Nat) (ha : a < 18446744073709551616) (hb : b < 18446744073709551616) : wordOf (bothF 3 a b) = lessN a b :=
  word_ext (wordOf_lt _) (less_lt a b ha) fun i hi => by rw [wordOf_bit _ i hi, less_bit a b hb i hi]; rfl
theorem less_zero (a b : Nat) (ha : a < 18446744073709551616) (hb : b < 18446744073709551616) : (((lessN a b : Nat) : Int) == 0) = belowB a b := by
  rw [Bool.eq_iff_iff, below_iff, beq_iff_eq]
  constructor
  · intro h i hi hai
    have h0 : lessN a b = 0 := by omega
    have := less_bit a b hb i hi
    rw [h0, hai, Nat.zero_testBit] at this
    cases hbi : b.testBit i with
    | true => rfl
    | false => rw [hbi] at this; cases this
  · intro h
    have h0 : lessN a b = 0 := word_ext (less_lt a b ha) (by decide) fun i hi => by
      rw [less_bit a b hb i hi, Nat.zero_testBit]
      cases hai : a.testBit i with
      | false => rfl
      | true => rw [h i hi hai]; rfl
    rw [h0]; rfl
theorem or_lt (a b : Nat) (ha : a < 18446744073709551616) (hb : b < 18446744073709551616) : a ||| b < 18446744073709551616 := Nat.or_lt_two_pow (n := 64) ha hb
theorem and_lt (a b : Nat) (ha : a < 18446744073709551616) : a &&& b < 18446744073709551616 := Nat.lt_of_le_of_lt Nat.and_le_left ha

theorem less_any (a b : Nat) (w : World) (ha : a < 18446744073709551616) (hb : b < 18446744073709551616) :
    Calls Tryz.prog 84 #[.int .u64 a, .int .u64 b] w fun e w' => e = .returned (.int .u64 (lessN a b : Nat)) ∧ w = w' := by
  have H := Lib.hid (u64_andNot_nat a b ha hb)
  go_enter Tryz.func84, Tryz.ntmps84
  go_wp2
  go_ret
  exact ⟨ret_int H.out, rfl⟩
theorem below_any (a b : Nat) (w : World) (ha : a < 18446744073709551616) (hb : b < 18446744073709551616) :
    Calls Tryz.prog 53 #[.int .u64 a, .int .u64 b] w fun e w' => e = .returned (.bool (belowB a b)) ∧ w = w' := by
  have cL := less_any a b w ha hb
  have H := Lib.hid (less_zero a b ha hb)
  go_enter Tryz.func53, Tryz.ntmps53
  go_wp2_with (go_at_call 84; refine cL.mono ?_; rintro e w' ⟨rfl, rfl⟩)
  go_ret
  exact ⟨ret_bool H.out, rfl⟩
end Go.Proofs.YtenbbefahpkhpaaGreatDoor
/- label's own Of, by its contract. -/
namespace Go.Proofs.YtenbbefahpkhpaaGreatDoor
open Go.RowKit

theorem ofF_none : ofF [] = fun _ => false := by funext i; simp [ofF]
theorem wordOf_none : wordOf (ofF []) = 0 := word_ext (wordOf_lt _) (by decide) fun i hi => by
  rw [wordOf_bit _ i hi, ofF_none, Nat.zero_testBit]
theorem wordOf_or (xs : List Int) (k m : Nat) (h : k < xs.length) (hm : xs[k] = (m : Int)) (hm64 : m < 64) : wordOf (ofF (xs.take k)) ||| 2 ^ m = wordOf (ofF (xs.take (k + 1))) :=
  word_ext (or_lt _ _ (wordOf_lt _) (Nat.pow_lt_pow_right (by decide) hm64)) (wordOf_lt _) fun i hi => by
    rw [Nat.testBit_or, wordOf_bit _ i hi, wordOf_bit _ i hi, ofF_take xs k m i h hm, Nat.testBit_two_pow]
    congr 1
    rw [Bool.eq_iff_iff]; simp; omega

theorem ofW_lt (xs : List Int) : ofW xs < 18446744073709551616 := by
  unfold ofW; split
  · exact wordOf_lt _
  · decide

theorem wrap_pow (m : Nat) (h : 2 ^ m < 18446744073709551616) : IntKind.u64.wrap ((2 : Int) ^ m) = ((2 ^ m : Nat) : Int) := by
  have e : ((2 : Int) ^ m) = ((2 ^ m : Nat) : Int) := (Int.natCast_pow 2 m).symm
  rw [e, IntKind.wrap_u64]
  generalize 2 ^ m = p at *
  omega

set_option maxRecDepth 100000 in
set_option maxHeartbeats 4000000 in
theorem of_any (w : World) (p : Option Addr) (n c : Nat) (xs : List Int) (hp : NumRow .i64 w p xs) (hn : xs.length = n) (hl : n ≤ 17592186044416) :
    Calls Tryz.prog 99 #[.slice p n c] w fun e w' => e = .returned (.tuple #[.int .u64 (ofW xs), .int .i64 (ofE xs)]) ∧ w = w' := by
  have hbad := Lib.hid (of_bad xs)
  have hgood := Lib.hid (of_good xs)
  have hall := Lib.hid (ofF_all xs n hn)
  have HN := Lib.hid hn
  have H0 := Lib.hid wordOf_none
  generalize ofW xs = r at *
  generalize ofE xs = f at *
  clear hn
  go_enter Tryz.func99, Tryz.ntmps99
  go_wp2_with fail
  go_loopg [4, 9] n (fun g a i wr => ∃ (k : Nat), k + g = n ∧ i = .int .i64 k ∧ w = wr ∧ a = .int .u64 (wordOf (ofF (xs.take k)) : Nat) ∧ Hid (∀ (j : Nat) (hj : j < xs.length), j < k → 0 ≤ xs[j] ∧ xs[j] ≤ 63))
  case atStart => exact ⟨0, by omega, rfl, rfl, by rw [List.take_zero, H0.out]; rfl, fun j _ h => absurd h (Nat.not_lt_zero _)⟩
  case round =>
    obtain ⟨k, hk, rfl, rfl, rfl, hr⟩ := hrel
    by_cases h0 : k < n
    · have hx : k < xs.length := by rw [HN.out]; exact h0
      obtain ⟨b1, o1, rfl, l1, h1c⟩ := hp.at k hx
      have g1 := h1c w (Below.refl _ _)
      have hb' := Lib.hid (hbad.out k hx)
      have htk := Lib.hid (fun m => wordOf_or xs k m hx)
      have hrk : Hid (0 ≤ xs[k] → xs[k] ≤ 63 → ∀ (j : Nat) (hj : j < xs.length), j < k + 1 → 0 ≤ xs[j] ∧ xs[j] ≤ 63) := by
        intro q1 q2 j hj hjk
        by_cases e : j = k
        · subst e; exact ⟨q1, q2⟩
        · exact hr.out j hj (by omega)
      have hkk : (0 : Int) ≤ (k : Int) := Int.natCast_nonneg _
      have hkn : (k : Int) < (n : Int) := by omega
      have hwl := wordOf_lt (ofF (xs.take k))
      clear h1c hbad hgood hall hr H0
      generalize xs[k] = x at *
      by_cases hneg : x < 0
      · have e := hb'.out (.inl hneg)
        obtain ⟨rfl, rfl⟩ := e
        clear hb' htk hrk
        go_wp2_with fail
        go_ret2
        exact ⟨rfl, rfl⟩
      · by_cases hbig : 63 < x
        · have e := hb'.out (.inr hbig)
          obtain ⟨rfl, rfl⟩ := e
          clear hb' htk hrk
          go_wp2_with fail
          go_ret2
          exact ⟨rfl, rfl⟩
        · obtain ⟨m, rfl⟩ : ∃ m : Nat, x = m := ⟨x.toNat, by omega⟩
          have hm : m < 64 := by omega
          have hpw : 2 ^ m < 18446744073709551616 := (Nat.pow_lt_pow_right (by decide : 1 < 2) hm : 2 ^ m < 2 ^ 64)
          have ho := u64_or_nat (wordOf (ofF (xs.take k))) (2 ^ m) hwl hpw
          rw [htk.out m rfl hm] at ho
          have hrn := Lib.hid (hrk.out (by omega) (by omega))
          have hmm : (0 : Int) ≤ (m : Int) := Int.natCast_nonneg _
          generalize wordOf (ofF (xs.take k)) = a at *
          obtain ⟨a', ha'⟩ : ∃ a', wordOf (ofF (xs.take (k + 1))) = a' := ⟨_, rfl⟩
          rw [ha'] at ho
          have HA := Lib.hid ha'
          clear ha' hb' htk hrk
          go_wp2_with fail
          go_roundg (gk - 1)
          case rel =>
            refine ⟨k + 1, by omega, by go_num, rfl, ?_, hrn⟩
            rw [HA.out, ← ho, wrap_pow m hpw]
          case measure => omega
    · obtain rfl : k = n := by omega
      have e := hgood.out fun j hj => hr.out j hj (by have := HN.out; omega)
      obtain ⟨rfl, rfl⟩ := e
      have e2 := hall.out
      clear hbad hgood hall hr H0
      go_wp2_with fail
      go_ret2
      rw [e2]
      exact ⟨rfl, rfl⟩
end Go.Proofs.YtenbbefahpkhpaaGreatDoor
/- What a text is read as, plainly. -/
namespace Go.Proofs.YtenbbefahpkhpaaGreatDoor
open Go

/-- The compartment that a piece names. -/
def pieceV (p : List UInt8) : Option Nat :=
  match Lib.atoiAll p with
  | .ok v => if 0 ≤ v ∧ v ≤ 63 then some v.toNat else none
  | _ => none
theorem piece_ok {p : List UInt8} {v : Int} (h : Lib.atoiAll p = .ok v) (h0 : 0 ≤ v) (h1 : v ≤ 63) : pieceV p = some v.toNat := by
  unfold pieceV; rw [h]; simp [h0, h1]
theorem piece_out {p : List UInt8} {v : Int} (h : Lib.atoiAll p = .ok v) (h0 : v < 0 ∨ 63 < v) : pieceV p = none := by
  unfold pieceV; rw [h]
  have : ¬ (0 ≤ v ∧ v ≤ 63) := by omega
  simp only [if_neg this]
theorem piece_no {p : List UInt8} (h : ∀ v, Lib.atoiAll p ≠ .ok v) : pieceV p = none := by
  unfold pieceV
  cases e : Lib.atoiAll p with
  | ok v => exact absurd e (h v)
  | _ => rfl
theorem piece_digits : ∀ i : Fin 64, pieceV (if i.val < 10 then [UInt8.ofNat (48 + i.val)] else [UInt8.ofNat (48 + i.val / 10), UInt8.ofNat (48 + i.val % 10)]) = some i.val := by decide +kernel
theorem piece_dec (i : Nat) (h : i < 64) : pieceV (Lib.decDigits i) = some i := by
  rw [dec_lt i (by omega)]; exact piece_digits ⟨i, h⟩
/-- What the pieces name together. -/
def accP (ps : List (List UInt8)) : Nat := wordOf (ofF (ps.map fun p => (((pieceV p).getD 0 : Nat) : Int)))
theorem acc_nil : accP [] = 0 := wordOf_none
theorem acc_lt (ps : List (List UInt8)) : accP ps < 18446744073709551616 := wordOf_lt _
theorem acc_snoc (ps : List (List UInt8)) (p : List UInt8) (c : Nat) (h : pieceV p = some c) (hc : c < 64) : accP (ps ++ [p]) = accP ps ||| 2 ^ c := by
  unfold accP
  rw [List.map_append, List.map_singleton, h]
  refine word_ext (wordOf_lt _) (or_lt _ _ (wordOf_lt _) (Nat.pow_lt_pow_right (by decide) hc)) fun i hi => ?_
  rw [Nat.testBit_or, wordOf_bit _ i hi, wordOf_bit _ i hi, Nat.testBit_two_pow]
  unfold ofF
  rw [List.contains_append]
  congr 1
  rw [Bool.eq_iff_iff]; simp; omega
theorem mem_list (b i : Nat) : i ∈ listTo b 64 ↔ i < 64 ∧ b.testBit i = true := by
  unfold listTo
  rw [List.mem_filter, List.mem_range]
theorem acc_text (b : Nat) (h0 : b ≠ 0) (hb : b < 18446744073709551616) : accP (spl (textN b)) = b := by
  rw [spl_text b h0 hb]
  unfold accP
  have e : ((listTo b 64).map Lib.decDigits).map (fun p => (((pieceV p).getD 0 : Nat) : Int)) = (listTo b 64).map fun i : Nat => (i : Int) := by
    rw [List.map_map]
    apply List.map_congr_left
    intro i hi
    show (((pieceV (Lib.decDigits i)).getD 0 : Nat) : Int) = _
    rw [piece_dec i (list_lt b 64 i hi)]; rfl
  rw [e]
  refine word_ext (wordOf_lt _) hb fun i hi => ?_
  rw [wordOf_bit _ i hi]
  unfold ofF
  rw [Bool.eq_iff_iff, List.contains_iff_mem, List.mem_map]
  constructor
  · rintro ⟨j, hj, e⟩
    have : j = i := by omega
    rw [← this]; exact ((mem_list b j).1 hj).2
  · intro h
    exact ⟨i, (mem_list b i).2 ⟨hi, h⟩, rfl⟩
/-- What a text is read as. -/
def ReadAs (s : List UInt8) (a : Nat) (e : Int) : Prop := (e = 0 ∧ a < 18446744073709551616 ∧ textN a = s) ∨ (e = 4 ∧ a = 0 ∧ ∀ b, b < 18446744073709551616 → textN b ≠ s)
theorem text_inj (a b : Nat) (ha : a < 18446744073709551616) (hb : b < 18446744073709551616) (h : textN a = textN b) : a = b := by
  have key : ∀ c, c < 18446744073709551616 → c ≠ 0 → textN c ≠ [45] := by
    intro c hc h0 e
    have h1 := acc_text c h0 hc
    rw [e] at h1
    have h2 : accP (spl [45]) = 1 := by decide +kernel
    rw [h2] at h1
    subst h1
    have h3 : textN 1 = [48] := by
      unfold textN
      rw [if_neg (by decide), show listTo 1 64 = [0] by decide +kernel, List.map_cons, List.map_nil, Lib.join_one, dec_lt 0 (by decide)]
      decide +kernel
    rw [h3] at e
    exact absurd e (by decide)
  by_cases h0 : a = 0
  · by_cases h1 : b = 0
    · rw [h0, h1]
    · rw [h0] at h; exact absurd h.symm (key b hb h1)
  · by_cases h1 : b = 0
    · rw [h1] at h; exact absurd h (key a ha h0)
    · rw [← acc_text a h0 ha, h, acc_text b h1 hb]
theorem readAs_one {s : List UInt8} {a b : Nat} {e f : Int} (h : ReadAs s a e) (k : ReadAs s b f) : a = b ∧ e = f := by
  rcases h with ⟨rfl, ha, h1⟩ | ⟨rfl, rfl, h1⟩ <;> rcases k with ⟨rfl, hb, k1⟩ | ⟨rfl, rfl, k1⟩
  · exact ⟨text_inj a b ha hb (h1.trans k1.symm), rfl⟩
  · exact absurd h1 (k1 a ha)
  · exact absurd k1 (h1 b hb)
  · exact ⟨rfl, rfl⟩
/-- A piece that names none: the text is no label's. -/
theorem read_bad {s : List UInt8} (hs : s ≠ [45]) {ps : List (List UInt8)} (hp : ps <+: spl s) {p : List UInt8} (hm : p ∈ ps) (hv : pieceV p = none) : ReadAs s 0 4 := by
  refine .inr ⟨rfl, rfl, fun b hb e => ?_⟩
  by_cases h0 : b = 0
  · subst h0; exact hs e.symm
  · have h1 := spl_text b h0 hb
    rw [e] at h1
    have h2 := hp.subset hm
    rw [h1] at h2
    obtain ⟨i, hi, rfl⟩ := List.mem_map.1 h2
    rw [piece_dec i (list_lt b 64 i hi)] at hv
    cases hv
/-- All pieces name one: it is the label's text, or no label's. -/
theorem read_good_lb {s : List UInt8} (hs : s ≠ [45]) : ReadAs s (accP (spl s)) 0 ∧ textN (accP (spl s)) = s ∨ ReadAs s 0 4 ∧ textN (accP (spl s)) ≠ s := by
  by_cases h : textN (accP (spl s)) = s
  · exact .inl ⟨.inl ⟨rfl, acc_lt _, h⟩, h⟩
  · refine .inr ⟨.inr ⟨rfl, rfl, fun b hb e => ?_⟩, h⟩
    by_cases h0 : b = 0
    · subst h0; exact hs e.symm
    · have h1 := acc_text b h0 hb
      rw [e] at h1
      rw [h1] at h
      exact h e
theorem read_dash : ReadAs [45] 0 0 := .inl ⟨rfl, by decide, rfl⟩
end Go.Proofs.YtenbbefahpkhpaaGreatDoor
