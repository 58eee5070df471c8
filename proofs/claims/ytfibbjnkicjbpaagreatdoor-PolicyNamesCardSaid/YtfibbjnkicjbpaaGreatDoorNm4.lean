/- Texts of the proof, merged: PoKeys, OwnAppend, VwRow, PoNew, PoThose, PoAsk, RangeStore. -/
import Derived.Test.YtfibbjnkicjbpaaGreatDoorNm1
import Derived.Test.YtfibbjnkicjbpaaGreatDoorNm2
import Derived.Test.YtfibbjnkicjbpaaGreatDoorNm3
import Derived.Shelf.SlIter.Sorted
import Derived.Shelf.SlIter.Nil
import Derived.Maps.OwnOps
import Derived.Maps.OwnSet
import Derived.Laws.AppendOwn
import Derived.OwnWalk
import Derived.RowKit
import Derived.Deep.Slices
import Derived.Deep.Fields
import Derived.Deep.QuietTactic
import Derived.Laws.AppendOwnNone
import Derived.RangeFuncFrom
import Derived.RangeFuncNested
/- slices.Sorted(maps.Keys(m)) over the shelf's contracts, laid at this program by hand; a policy in memory. -/
namespace Go.Proofs.YtfibbjnkicjbpaaGreatDoor
open Go Go.RowKit Go.Maps Go.Sort Go.Shelf

def ks_ren : Go.Shelf.Ren := ⟨fun | 6 => 44 | 7 => 45 | 8 => 66 | 9 => 67 | 10 => 68 | 11 => 97 | n => n, fun | 0 => 0 | 3 => 25 | 4 => 4 | 23 => 52 | 24 => 33 | 26 => 9 | 27 => 76 | 28 => 77 | 33 => 63 | n => n, fun n => n⟩
theorem ks6 : SlLaysZ.n6 Tryz.prog ks_ren where
  mixed := by kernel_rfl
  f6 := ⟨"slices.Sorted[string]", by decide, Tryz.func44.trans (congrArg some (by kernel_rfl))⟩
  f8 := ⟨"slices.Collect[string]", by decide, Tryz.func66.trans (congrArg some (by kernel_rfl))⟩
  f11 := ⟨"slices.AppendSeq[[]string,string]", by decide, Tryz.func97.trans (congrArg some (by kernel_rfl))⟩
  t0 := Tryz.underlying0
  a0 := Tryz.isAgg0
  z0 := Tryz.sizeOf0
  v0 := Tryz.zeroValue0
  t24 := Tryz.underlying33
  a24 := Tryz.isAgg33
  z24 := Tryz.sizeOf33
  v24 := Tryz.zeroValue33
  t26 := Tryz.underlying9
  a26 := Tryz.isAgg9
  z26 := Tryz.sizeOf9
  v26 := Tryz.zeroValue9
  t28 := Tryz.underlying77
  a28 := Tryz.isAgg77
  z28 := Tryz.sizeOf77
  v28 := Tryz.zeroValue77
  i26 := by kernel_rfl
theorem ks7 : SlLaysZ.n7 Tryz.prog ks_ren where
  mixed := by kernel_rfl
  f7 := ⟨"maps.Keys[map[string]scrim/api.Label,string,scrim/api.Label]", by decide, Tryz.func45.trans (congrArg some (by kernel_rfl))⟩
  f10 := ⟨"maps.Keys[map[string]scrim/api.Label,string,scrim/api.Label]$1", by decide, Tryz.func68.trans (congrArg some (by kernel_rfl))⟩
  t0 := Tryz.underlying0
  a0 := Tryz.isAgg0
  z0 := Tryz.sizeOf0
  v0 := Tryz.zeroValue0
  t4 := Tryz.underlying4
  a4 := Tryz.isAgg4
  z4 := Tryz.sizeOf4
  v4 := Tryz.zeroValue4
  t23 := Tryz.underlying52
  a23 := Tryz.isAgg52
  z23 := Tryz.sizeOf52
  v23 := Tryz.zeroValue52
  t26 := Tryz.underlying9
  a26 := Tryz.isAgg9
  z26 := Tryz.sizeOf9
  v26 := Tryz.zeroValue9
  t27 := Tryz.underlying76
  a27 := Tryz.isAgg76
  z27 := Tryz.sizeOf76
  v27 := Tryz.zeroValue76
  t28 := Tryz.underlying77
  a28 := Tryz.isAgg77
  z28 := Tryz.sizeOf77
  v28 := Tryz.zeroValue77
  t33 := Tryz.underlying63
  a33 := Tryz.isAgg63
  z33 := Tryz.sizeOf63
  v33 := Tryz.zeroValue63

/-- slices.Sort's two contracts at this program, at the fence that asks nothing. -/
theorem sorts_wide (m : Nat) : AnyZ.SortsIn Tryz.prog ks_ren Fence.wide m :=
  ⟨fun blk off cap ss W hH hblk hsz => callsIn_wide.2 (Tryz.slices_Sort_string blk off cap ss W hH hblk hsz),
   fun p cap W => callsIn_wide.2 (Tryz.slices_Sort_string_none p cap W)⟩

abbrev LT : TypeId := 25
theorem strLaw : Keyed Tryz.prog 9 := string_keyed Tryz.underlying9
theorem zeroLab (w : World) : (zeroValue 25).run Tryz.prog w = .ok (.int .u64 0) w := by kernel_rfl
/-- The map at block b holds these viewers. -/
def MapAt (w : World) (b : Nat) (l : List Vw) : Prop := ∃ (n : Nat) (D : DataW Unit), n ≤ 64 ∧ w.ownsMap Tryz.prog 9 (plainElem Tryz.prog 25) b n D ∧ MapIs D l
theorem MapAt.later {w W : World} {b : Nat} {l : List Vw} (h : MapAt w b l) (hb : Below w.heap.size w W) : MapAt W b l := by
  obtain ⟨n, D, hn, hown, hm⟩ := h
  have hbl := hown.lt
  obtain ⟨es, clock, hb', Ft, hs, hD⟩ := hown
  exact ⟨n, D, hn, ⟨es, clock, (hb.block b hbl).trans hb', Ft, hs, hD⟩, hm⟩
theorem MapAt.lt {w : World} {b : Nat} {l : List Vw} (h : MapAt w b l) : b < w.heap.size := by
  obtain ⟨n, D, hn, hown, hm⟩ := h
  exact hown.lt
/-- A policy at a pointer: its viewers, rising by name. -/
structure PolAt (w : World) (v : Value) (l : List Vw) : Prop where
  ok : okL l
  up : Rising l
  lo : Lo64 l
  at' : ∃ p b, v = .pointer (some ⟨p, 0, none⟩) ∧ p < w.heap.size ∧ w.cell? ⟨p, 0, none⟩ = some (.map (some b)) ∧ MapAt w b l
theorem PolAt.later {w W : World} {v : Value} {l : List Vw} (h : PolAt w v l) (hb : Below w.heap.size w W) : PolAt W v l := by
  obtain ⟨p, b, e, hp, hc, hm⟩ := h.at'
  exact ⟨h.ok, h.up, h.lo, p, b, e, Nat.lt_of_lt_of_le hp hb.size, (hb.cell (p := ⟨p, 0, none⟩) hp).trans hc, hm.later hb⟩

theorem strKeys_perm {w : World} {b n : Nat} {D : DataW Unit} {R : Value → Option (DataW Unit × List MemPlace)} {l : List Vw} (hown : w.ownsMap Tryz.prog 9 R b n D) (hn : (names l).Nodup) (hm : MapIs D l) : (names l).Perm (strKeys D) := by
  obtain ⟨es, e, hes⟩ := hown.tidy strLaw
  obtain ⟨es', e', hk⟩ := hown.keysOf
  subst e
  injection e' with e'
  subst e'
  exact perm_strKeys hes (fun p hp => by
    obtain ⟨key, hkey⟩ := hk p hp
    obtain ⟨x, _, hx, _⟩ := keyOf_str Tryz.underlying9 hkey
    exact ⟨x, hx⟩) hn (fun x => (hm.has x).symm)
theorem size_strKeys (D : DataW Unit) (h : IsMap D) : Maps.size D = (strKeys D).length := by
  obtain ⟨es, rfl⟩ := h
  simp [Maps.size, strKeys]

set_option maxHeartbeats 1000000 in
theorem keys_any (b : Nat) (w : World) : Calls Tryz.prog 45 #[.map (some b)] w fun e w' => e = .returned (.func (.func 68) #[] #[.pointer (some ⟨w.heap.size, 0, none⟩)]) ∧ w' = w.alloc (.cells #[.map (some b)] 52) :=
  (callsIn_wide (n := 5)).1 (AnyZ.keys_in ks7 Fence.wide 5 trivial rfl (some b) w)

set_option maxHeartbeats 1000000 in
/-- The names of the map's viewers, rising, in a row of the call's own. -/
theorem sorted_any (b Bm : Nat) (l : List Vw) (W : World) (hm : MapAt W b l) (hBm : Bm < W.heap.size) (hc : W.cell? ⟨Bm, 0, none⟩ = some (.map (some b))) (hr : Rising l) (h64 : l.length ≤ 64) :
    Calls Tryz.prog 44 #[.func (.func 68) #[] #[.pointer (some ⟨Bm, 0, none⟩)]] W fun e w' => ∃ v, e = .returned v ∧
      w'.ownsRow W.heap.size 9 1 v l.length ((names l).map encStr) ∧ Below W.heap.size W w' := by
  obtain ⟨n, D, hn, hown, hD⟩ := hm
  have hp := strKeys_perm hown hr.nodup hD
  have hsz : Maps.size D = l.length := by rw [size_strKeys D hD.map, ← hp.length_eq]; simp [names]
  have hseq : SeqGives Fence.wide 2 Tryz.prog 68 #[.pointer (some ⟨Bm, 0, none⟩)] encStr (fun ss => ss.Perm (strKeys D)) (Maps.size D) W :=
    AnyZ.keys_gives (ρ := ks_ren) { ks7 with } Fence.wide _ trivial rfl (by omega) Bm b n D _ hBm hc hown
  have cS := AnyZ.sorted_in ks6 Fence.wide 5 trivial trivial trivial trivial rfl (by omega) (sorts_wide _) (enters_of Tryz.func67 (by kernel_rfl) rfl) 68 #[.pointer (some ⟨Bm, 0, none⟩)] trivial (enters_of Tryz.func68 (by kernel_rfl) rfl) _ _ (by rw [hsz]; unfold maxLen; omega) (by rw [hsz]; omega) _ hseq
  refine ((callsIn_wide (n := 5)).1 cS).mono ?_
  rintro e w' ⟨v, ss, rfl, hS, hrow, hnil, hb⟩
  have hl : ss.length = l.length := by rw [hS.length_eq, ← hp.length_eq]; simp [names]
  have hs := names_sorted hr (hS.trans hp.symm)
  rw [hl, hs] at hrow
  exact ⟨v, rfl, hrow, hb⟩
end Go.Proofs.YtfibbjnkicjbpaaGreatDoor
/- append to a row of the call's own, with the row's block told: the old one, or a new one. No program. -/
namespace Go.Proofs.YtfibbjnkicjbpaaGreatDoor
open Go Go.RowKit

section
variable {P : Program} (w : World)
theorem run_append_blk (base : Nat) (t ty e : TypeId) (i : TypeInfo) (z : Value) (size bytes : Nat) (ht : P.underlying t = some (.slice e)) (hi : P.info? e = some i) (hz : i.zero = some z)
    (hsize : i.size = size) (hby : i.bytes = bytes) (hzs : z.cells.size = size) (hsz : 0 < size)
    (v : Value) (n : Nat) (xs : List Value) (hown : w.ownsRow base e size v n xs)
    (a : Addr) (m c : Nat) (news : List Value) (hl : news.length = m * size) (hnews : ∀ j u, news[j]? = some u → w.cell? (a.add j) = some u) (h1 : ∀ u ∈ news, u.oneCell' = true)
    (h63 : n + m ≤ maxLen) (hbytes : (n + m) * bytes ≤ 140737488355328) (hbase : base ≤ w.heap.size) :
    ∃ v' w', (Builtin.append_ #[t, t] ty #[v, .slice (some a) m c]).run P w = .ok v' w' ∧ w'.ownsRow base e size v' (n + m) (xs ++ news) ∧ w.grownBy w' v.ownBlock ∧
      (v'.ownBlock = v.ownBlock ∨ v'.ownBlock = some w.heap.size) := by
  obtain ⟨v', w', hr, h2, h3, h4⟩ := run_append_own (P := P) w base t ty e i z size bytes ht hi hz hsize hby hzs hsz v n xs hown a m c news hl hnews h1 h63 hbytes hbase
  refine ⟨v', w', hr, h2, h3, ?_⟩
  subst hsize
  subst hby
  have hsmall : n + m ≤ 9223372036854775807 := by simp only [maxLen] at h63; omega
  have hown0 := hown
  rcases hown.2 with ⟨rfl, rfl⟩ | ⟨g, cap, cur, rfl, hbg, hg, hnc, hcm, hcs, htake⟩
  · by_cases hm : m = 0
    · rw [h4.2 ⟨rfl, hm⟩]; exact .inl rfl
    · have hr2 := run_append_nil (P := P) w t ty e i z ht hi hz a m c news hl hnews (by omega) (by omega) (by have hb := hbytes; simp only [Nat.zero_add] at hb; omega)
      rw [hr] at hr2
      injection hr2 with e1 _
      rw [e1]; exact .inr rfl
  · by_cases hroom : n + m ≤ cap
    · have hfit : n * i.size + news.length ≤ cur.size := by rw [hl, hcs, ← Nat.add_mul]; exact Nat.mul_le_mul_right _ hroom
      have hr2 := run_append_room (P := P) w t ty e i ht hi g n cap cur hg a m c news hl hnews h1 hroom hfit
      rw [hr] at hr2
      injection hr2 with e1 _
      rw [e1]; exact .inl rfl
    · have holds : ∀ j u, xs[j]? = some u → w.cell? ((⟨g, 0, none⟩ : Addr).add j) = some u := hown0.cells (g := g) rfl
      have hr2 := run_append_grow (P := P) w t ty e i z ht hi hz ⟨g, 0, none⟩ n cap xs hown0.1 holds a m c news hl hnews (by omega) (by omega) (growslice_fits (by omega) hbytes)
      rw [hr] at hr2
      injection hr2 with e1 _
      rw [e1]; exact .inr rfl

theorem wpList_append_blk {ops : Array Oper} {rest : List Oper} {o : Oper} {a : Act} {Q : Exit → Act → World → Prop} (hgd : o.guard = none) (s x : Operand) (t : TypeId)
    (ho : o.op = .call { callee := .builtin .append, args := #[s, x], argTypes := #[t, t] })
    (base : Nat) (e : TypeId) (i : TypeInfo) (z : Value) (size bytes : Nat) (ht : P.underlying t = some (.slice e)) (hi : P.info? e = some i) (hz : i.zero = some z)
    (hsize : i.size = size) (hby : i.bytes = bytes) (hzs : z.cells.size = size) (hsz : 0 < size)
    (v : Value) (n : Nat) (xs : List Value) (hs : a.eval s = v) (hown : w.ownsRow base e size v n xs)
    (ad : Addr) (m c : Nat) (news : List Value) (hx : a.eval x = .slice (some ad) m c) (hl : news.length = m * size) (hnews : ∀ j u, news[j]? = some u → w.cell? (ad.add j) = some u) (h1 : ∀ u ∈ news, u.oneCell' = true)
    (h63 : n + m ≤ maxLen) (hbytes : (n + m) * bytes ≤ 140737488355328) (hbase : base ≤ w.heap.size)
    (h : ∀ v' w', w'.ownsRow base e size v' (n + m) (xs ++ news) → w.grownBy w' v.ownBlock → (v'.ownBlock = v.ownBlock ∨ v'.ownBlock = some w.heap.size) → wpList P ops Q rest (a.put o.dst v') w') : wpList P ops Q (o :: rest) a w :=
  wpList_plain hgd fun K hK => by
    obtain ⟨v', w', hr, h2, h3, h4⟩ := run_append_blk (P := P) w base t o.type e i z size bytes ht hi hz hsize hby hzs hsz v n xs hown ad m c news hl hnews h1 h63 hbytes hbase
    unfold Oper.wp execOp
    simp only [ho, resolve, invoke, builtin, Sem.run_bind, Sem.run_pure, Result.andThen_ok, List.map_toArray, List.map_cons, List.map_nil, hs, hx, hr]
    exact hK _ _ (h v' w' h2 h3 h4)
end
end Go.Proofs.YtfibbjnkicjbpaaGreatDoor
/- Rows of viewers in memory: one that a slice points to; one that the call itself owns. -/
namespace Go.Proofs.YtfibbjnkicjbpaaGreatDoor
open Go Go.RowKit

/-- A name as Go's string. -/
def bs (l : List UInt8) : ByteArray := ⟨l.toArray⟩
theorem bs_list (l : List UInt8) : (bs l).data.toList = l := by simp [bs]
theorem bs_size (l : List UInt8) : (bs l).size = l.length := by simp [bs, ByteArray.size]
theorem bs_of (b : ByteArray) : bs b.data.toList = b := by simp [bs]
theorem bs_inj {x y : List UInt8} (h : bs x = bs y) : x = y := by rw [← bs_list x, h, bs_list]
def Vw.vals (x : Vw) : List Value := [.string (bs x.s), .int .u64 x.c]
def Vw.agg (x : Vw) : Value := .agg #[.string (bs x.s), .int .u64 x.c]
/-- Names that a program may hold, numbers of 64 bits. -/
def Fit64 (l : List Vw) : Prop := ∀ x ∈ l, x.c < 18446744073709551616 ∧ x.s.length ≤ maxLen
theorem fit64_nil : Fit64 [] := fun x hx => by simp at hx
theorem Fit64.filter {l : List Vw} (h : Fit64 l) (p : Vw → Bool) : Fit64 (l.filter p) := fun x hx => h x (List.mem_filter.1 hx).1
theorem Fit64.perm {l l' : List Vw} (h : Fit64 l) (hp : l'.Perm l) : Fit64 l' := fun x hx => h x (hp.mem_iff.1 hx)
def VwAt (w : World) (b o : Nat) (x : Vw) : Prop := w.cell? ⟨b, o, none⟩ = some (.string (bs x.s)) ∧ w.cell? ⟨b, o + 1, none⟩ = some (.int .u64 x.c)
/-- The slice at p holds these viewers. -/
def VwRow (w : World) (p : Option Addr) (xs : List Vw) : Prop := ∀ i (h : i < xs.length), ∃ b off, p = some ⟨b, off, none⟩ ∧ b < w.heap.size ∧ VwAt w b (off + i * 2) xs[i]
theorem VwAt.below {w W : World} {b o : Nat} {x : Vw} {B : Nat} (h : VwAt w b o x) (hb : Below B w W) (hlt : b < B) : VwAt W b o x :=
  ⟨(hb.cell (p := ⟨b, o, none⟩) hlt).trans h.1, (hb.cell (p := ⟨b, o + 1, none⟩) hlt).trans h.2⟩
theorem VwRow.at {w : World} {p : Option Addr} {xs : List Vw} (h : VwRow w p xs) (i : Nat) (hi : i < xs.length) : ∃ b off, p = some ⟨b, off, none⟩ ∧ b < w.heap.size ∧ ∀ W, Below w.heap.size w W → VwAt W b (off + i * 2) xs[i] := by
  obtain ⟨b, off, e, hlt, hc⟩ := h i hi
  exact ⟨b, off, e, hlt, fun W hb => hc.below hb hlt⟩
theorem VwRow.later {w W : World} {p : Option Addr} {xs : List Vw} (h : VwRow w p xs) (hb : Below w.heap.size w W) : VwRow W p xs := fun i hi => by
  obtain ⟨b, off, e, hlt, hc⟩ := h i hi
  exact ⟨b, off, e, Nat.lt_of_lt_of_le hlt hb.size, hc.below hb hlt⟩
theorem vwRow_nil (w : World) (p : Option Addr) : VwRow w p [] := fun _ hi => absurd hi (Nat.not_lt_zero _)
/-- The cells of a list of viewers. -/
def flat (xs : List Vw) : List Value := xs.flatMap Vw.vals
theorem flat_cons (x : Vw) (xs : List Vw) : flat (x :: xs) = x.vals ++ flat xs := by unfold flat; rw [List.flatMap_cons]
theorem flat_snoc (xs : List Vw) (x : Vw) : flat (xs ++ [x]) = flat xs ++ x.vals := by simp [flat]
theorem flat_len : ∀ xs : List Vw, (flat xs).length = xs.length * 2
  | [] => rfl
  | x :: xs => by
    rw [flat_cons, List.length_append, flat_len xs, List.length_cons]
    simp [Vw.vals]; omega
theorem flat_at : ∀ (xs : List Vw) (i j : Nat) (h : i < xs.length), j < 2 → (flat xs)[i * 2 + j]? = (xs[i].vals)[j]?
  | x :: xs, 0, j, _, hj => by
    rw [flat_cons, Nat.zero_mul, Nat.zero_add, List.getElem?_append_left (by simp [Vw.vals]; exact hj)]; rfl
  | x :: xs, i + 1, j, h, hj => by
    have ih := flat_at xs i j (Nat.lt_of_succ_lt_succ h) hj
    rw [flat_cons, List.getElem?_append_right (by simp [Vw.vals]; omega)]
    have e : (i + 1) * 2 + j - (x.vals).length = i * 2 + j := by simp [Vw.vals]; omega
    rw [e, ih]; rfl
theorem vw_owned {W : World} {B : Nat} {e : TypeId} {v : Value} {n : Nat} {xs : List Vw} (hn : xs.length = n) (h : W.ownsRow B e 2 v n (flat xs)) : ∃ p c, v = .slice p n c ∧ VwRow W p xs := by
  subst hn
  rcases h.2 with ⟨hv, h0⟩ | ⟨g, cap, cur, hv, _⟩
  · refine ⟨none, 0, by rw [hv, h0], fun i hi => ?_⟩
    omega
  · refine ⟨some ⟨g, 0, none⟩, cap, hv, fun i hi => ?_⟩
    subst hv
    have h0 := (h.cellAt (i * 2 + 0) (by omega)).trans (flat_at xs i 0 hi (by omega))
    have h1 := (h.cellAt (i * 2 + 1) (by omega)).trans (flat_at xs i 1 hi (by omega))
    have hlt := World.block_lt_of_cell? W _ (show W.cell? ⟨g, i * 2 + 0, none⟩ = some (.string (bs xs[i].s)) from h0)
    refine ⟨g, 0, rfl, hlt, ?_⟩
    rw [Nat.zero_add]
    exact ⟨h0, h1⟩
/-- Its own row, untouched by what only adds. -/
theorem ownsAny_later {w W : World} {B z : Nat} {e : TypeId} {v : Value} {n : Nat} {cs : List Value} (h : w.ownsRow B e z v n cs) (hb : Below w.heap.size w W) : W.ownsRow B e z v n cs := by
  refine ⟨h.1, ?_⟩
  rcases h.2 with h' | ⟨g, cap, cur, hv, hB, hg, rest⟩
  · exact .inl h'
  · have hlt : g < w.heap.size := (Array.getElem?_eq_some_iff.1 hg).1
    exact .inr ⟨g, cap, cur, hv, hB, by rw [hb.block g hlt]; exact hg, rest⟩
theorem vwInfo : (Tryz.prog.info? 40).map (fun i => (i.zero, i.size, i.bytes)) = some (some (.agg #[.string ⟨#[]⟩, .int .u64 0]), 2, 24) := by kernel_rfl
/-- A row of names that the call owns. -/
def nameVals (ns : List (List UInt8)) : List Value := ns.map fun x => .string (bs x)
theorem nameVals_len (ns : List (List UInt8)) : (nameVals ns).length = ns.length := by simp [nameVals]
theorem encStr_names (ns : List (List UInt8)) : ns.map encStr = nameVals ns := rfl
/-- The slice at p holds these names. -/
def NmRow (w : World) (p : Option Addr) (ns : List (List UInt8)) : Prop := ∀ i (h : i < ns.length), ∃ b off, p = some ⟨b, off, none⟩ ∧ b < w.heap.size ∧ w.cell? ⟨b, off + i, none⟩ = some (.string (bs ns[i]))
theorem NmRow.at {w : World} {p : Option Addr} {ns : List (List UInt8)} (h : NmRow w p ns) (i : Nat) (hi : i < ns.length) : ∃ b off, p = some ⟨b, off, none⟩ ∧ ∀ W, Below w.heap.size w W → W.cell? ⟨b, off + i, none⟩ = some (.string (bs ns[i])) := by
  obtain ⟨b, off, e, hlt, hc⟩ := h i hi
  exact ⟨b, off, e, fun W hb => (hb.cell (p := ⟨b, off + i, none⟩) hlt).trans hc⟩
theorem NmRow.later {w W : World} {p : Option Addr} {ns : List (List UInt8)} (h : NmRow w p ns) (hb : Below w.heap.size w W) : NmRow W p ns := fun i hi => by
  obtain ⟨b, off, e, hlt, hc⟩ := h i hi
  exact ⟨b, off, e, Nat.lt_of_lt_of_le hlt hb.size, (hb.cell (p := ⟨b, off + i, none⟩) hlt).trans hc⟩
theorem nm_owned {W : World} {B : Nat} {e : TypeId} {v : Value} {n : Nat} {ns : List (List UInt8)} (hn : ns.length = n) (h : W.ownsRow B e 1 v n (nameVals ns)) : ∃ p c, v = .slice p n c ∧ NmRow W p ns := by
  subst hn
  rcases h.2 with ⟨hv, h0⟩ | ⟨g, cap, cur, hv, _⟩
  · refine ⟨none, 0, by rw [hv, h0], fun i hi => ?_⟩
    omega
  · refine ⟨some ⟨g, 0, none⟩, cap, hv, fun i hi => ?_⟩
    subst hv
    have hc := h.cellAt i (by omega)
    unfold nameVals at hc
    rw [List.getElem?_map, List.getElem?_eq_getElem hi] at hc
    have hlt := World.block_lt_of_cell? W _ (show W.cell? ⟨g, i, none⟩ = some (.string (bs ns[i])) from hc)
    exact ⟨g, 0, rfl, hlt, by rw [Nat.zero_add]; exact hc⟩
end Go.Proofs.YtfibbjnkicjbpaaGreatDoor
/- policy.New, by its contract. -/
namespace Go.Proofs.YtfibbjnkicjbpaaGreatDoor
open Go Go.RowKit Go.Maps

theorem okL_long {l : List Vw} (h : ¬ l.length ≤ 64) : ¬ okL l := fun k => h k.1
theorem okL_twice {l : List Vw} {k : Nat} (hk : k < l.length) (h : l[k].s ∈ names (l.take k)) : ¬ okL l := fun o => by
  have hn := o.2.1
  have e : l = l.take k ++ l[k] :: l.drop (k + 1) := by rw [← List.drop_eq_getElem_cons hk, List.take_append_drop]
  rw [e] at hn
  unfold names at hn h
  rw [List.map_append, List.nodup_append] at hn
  exact hn.2.2 _ h _ (List.mem_map_of_mem (List.mem_cons_self ..)) rfl
theorem okL_name {l : List Vw} {k : Nat} (hk : k < l.length) (h : nameL l[k].s = false) : ¬ okL l := fun o => by
  have := o.2.2 l[k] (List.getElem_mem hk)
  rw [h] at this; cases this
/-- Between two rounds: k viewers are in the map. -/
def UpTo (l : List Vw) (k : Nat) : Prop := (names (l.take k)).Nodup ∧ ∀ x ∈ l.take k, nameL x.s = true
theorem upTo_zero (l : List Vw) : UpTo l 0 := ⟨by simp [names], by simp⟩
theorem upTo_step {l : List Vw} {k : Nat} (hk : k < l.length) (h : UpTo l k) (h1 : l[k].s ∉ names (l.take k)) (h2 : nameL l[k].s = true) : UpTo l (k + 1) := by
  have e : l.take (k + 1) = l.take k ++ [l[k]] := List.take_succ_eq_append_getElem hk
  unfold UpTo
  rw [e]
  refine ⟨?_, fun x hx => ?_⟩
  · unfold names at h1 ⊢
    rw [List.map_append, List.nodup_append]
    refine ⟨h.1, by simp, fun a ha b hb => ?_⟩
    simp only [List.map_cons, List.map_nil, List.mem_singleton] at hb
    rintro rfl
    exact h1 (hb ▸ ha)
  · rw [List.mem_append, List.mem_singleton] at hx
    rcases hx with hx | rfl
    · exact h.2 x hx
    · exact h2
theorem upTo_all {l : List Vw} (h64 : l.length ≤ 64) (h : UpTo l l.length) : okL l := by
  unfold UpTo at h
  rw [List.take_length] at h
  exact ⟨h64, h.1, h.2⟩
/-- What New answers. -/
def NewSays (l : List Vw) (W : World) (e : Ending) (w' : World) : Prop := Below W.heap.size W w' ∧ ((okL l ∧ ∃ v, e = .returned (.tuple #[v, .int .i64 0]) ∧ PolAt w' v (sortV l) ∧ ∃ a, v = .pointer (some a)) ∨ (¬ okL l ∧ e = .returned (.tuple #[.pointer none, .int .i64 30])))
theorem mapAt_grown {w W : World} {B b : Nat} {l : List Vw} (h : MapAt w b l) (hb : Below w.heap.size w W) (_ : B ≤ b) : MapAt W b l := h.later hb

theorem run_makeMap_hint (n : Int) (w : World) : (Instr.makeMap 52 (some (.int .i64 n))).run Tryz.prog w = .ok (.map (some w.heap.size)) (w.alloc (.map #[] 0)) := by
  simp [Instr.makeMap, asInt, asIntOf, Sem.run_bind, run_underlying Tryz.underlying52]
theorem owns_below {w W : World} {b n : Nat} {D : DataW Unit} {R : Value → Option (DataW Unit × List MemPlace)} {k : TypeId} (h : w.ownsMap Tryz.prog k R b n D) (hb : Below w.heap.size w W) : W.ownsMap Tryz.prog k R b n D := by
  have hbl := h.lt
  obtain ⟨es, clock, hb', Ft, hs, hD⟩ := h
  exact ⟨es, clock, (hb.block b hbl).trans hb', Ft, hs, hD⟩

set_option maxRecDepth 100000 in
set_option maxHeartbeats 4000000 in
theorem new_any (w : World) (p : Option Addr) (n c : Nat) (l : List Vw) (hn : l.length = n) (hnm : n ≤ maxLen) (hr : VwRow w p l) (hf : Fit64 l) :
    Calls Tryz.prog 14 #[.slice p n c] w (NewSays l w) := by
  unfold maxLen at hnm
  by_cases h64 : n ≤ 64
  · have hz := run_makeMap_hint
    have HN := Lib.hid hn
    clear hn
    go_enter Tryz.func14, Tryz.ntmps14
    go_wp2
    clear hz
    go_loopg [17] n (fun g vi wr => ∃ k : Nat, k + g = n ∧ vi = .int .i64 k ∧ UpTo l k ∧ Below w.heap.size w wr ∧ Hid (∃ D : DataW Unit, wr.ownsMap Tryz.prog 9 (plainElem Tryz.prog 25) w.heap.size k D ∧ MapIs D (l.take k)))
    case atStart => exact ⟨0, by omega, rfl, upTo_zero l, (Below.refl _ _).alloc (Nat.le_refl _) _, ⟨.map [], World.ownsMap_made _ _ _ _, by rw [List.take_zero]; exact mapIs_nil⟩⟩
    case round =>
      obtain ⟨k, hk, rfl, hu, hbr, HM⟩ := hrel
      by_cases hlt : k < n
      · have hlt' : k < l.length := by rw [HN.out]; exact hlt
        obtain ⟨b1, o1, rfl, hb1, h1c⟩ := hr.at k hlt'
        obtain ⟨g1, g2⟩ := h1c wr hbr
        obtain ⟨D, hown, hD⟩ := HM.out
        obtain ⟨hx1, hx2⟩ := hf l[k] (List.getElem_mem hlt')
        have hup := Lib.hid (fun (h1 : l[k].s ∉ names (l.take k)) h2 => upTo_step hlt' hu h1 h2)
        have htw := Lib.hid (fun h => okL_twice hlt' h)
        have hnm' := Lib.hid (fun h => okL_name hlt' h)
        have hput := Lib.hid (fun h : l[k].s ∉ names (l.take k) => (show MapIs (D.put (.string l[k].s) (.lit (.int .u64 l[k].c))) (l.take (k + 1)) by rw [List.take_succ_eq_append_getElem hlt']; exact hD.put l[k] h))
        have hin := hD.has l[k].s
        generalize l[k] = x at *
        have hkey : keyOf Tryz.prog 9 (.string (bs x.s)) = some (.string x.s) := by
          have := Go.WideMaps.keyOf_string_mk (P := Tryz.prog) Tryz.underlying9 (s := bs x.s) (by rw [bs_size]; exact hx2)
          rwa [bs_list] at this
        have hwf : (Lit.int .u64 (x.c : Int)).wf = true := WalkArith.wf_u64 (by omega)
        have hbz := hbr.size
        have HB := Lib.hid hbr
        clear h1c HM hD hbr hu
        cases hh : Maps.has D (.string x.s) with
        | true =>
          have hno : Hid (¬ okL l) := htw.out (hin.1 hh)
          clear hin htw hnm' hput hup
          go_wp2_with (first
            | (at_lookup; refine wpList_lookup_own_ok_int _ rfl _ _ 52 rfl 9 25 .u64 strLaw Tryz.underlying52 Tryz.underlying25 (zeroLab _) w.heap.size k D rfl (hown.alloc _) _ _ rfl hkey ?_; intro c hat hwc; rw [hh]; clear hat hwc))
          go_ret2
          exact ⟨HB.out.alloc (by omega) _, .inr ⟨hno.out, rfl⟩⟩
        | false =>
          have hni : x.s ∉ names (l.take k) := fun h => by have := hin.2 h; rw [hh] at this; cases this
          have cN := fun W => name_any (bs x.s) W (by rw [bs_size]; exact hx2)
          rw [bs_list] at cN
          cases hnx : nameL x.s with
          | false =>
            rw [hnx] at cN
            have hno : Hid (¬ okL l) := hnm'.out hnx
            clear hin htw hnm' hput hup hni
            go_wp2_with (first
              | (at_lookup; refine wpList_lookup_own_ok_int _ rfl _ _ 52 rfl 9 25 .u64 strLaw Tryz.underlying52 Tryz.underlying25 (zeroLab _) w.heap.size k D rfl (hown.alloc _) _ _ rfl hkey ?_; intro c hat hwc; rw [hh]; clear hat hwc)
              | (go_at_call 31; refine (cN _).mono ?_; rintro e w' ⟨rfl, hb2⟩))
            go_ret2
            exact ⟨(HB.out.alloc (by omega) _).trans (hb2.mono (by simp; omega)), .inr ⟨hno.out, rfl⟩⟩
          | true =>
            rw [hnx] at cN
            have hup' : Hid (UpTo l (k + 1)) := hup.out hni hnx
            have hput' := Lib.hid (hput.out hni)
            clear hin htw hnm' hput hup hni
            go_wp2_with (first
              | (at_lookup; refine wpList_lookup_own_ok_int _ rfl _ _ 52 rfl 9 25 .u64 strLaw Tryz.underlying52 Tryz.underlying25 (zeroLab _) w.heap.size k D rfl (hown.alloc _) _ _ rfl hkey ?_; intro c hat hwc; rw [hh]; clear hat hwc)
              | (go_at_call 31; refine (cN _).mono ?_; rintro e w2 ⟨rfl, hb2⟩
                 have m0 : w2.cell? ⟨wr.heap.size, 0, none⟩ = some (.string (bs x.s)) := (hb2.cell (p := ⟨wr.heap.size, 0, none⟩) (by simp)).trans (by rw [World.cell?_alloc_mark]; rfl)
                 have m1 : w2.cell? ⟨wr.heap.size, 1, none⟩ = some (.int .u64 x.c) := (hb2.cell (p := ⟨wr.heap.size, 1, none⟩) (by simp)).trans (by rw [World.cell?_alloc_mark]; rfl)
                 have hown2 := owns_below (hown.alloc _) hb2)
              | (at_mapUpdate; refine wpList_mapUpdate_own _ rfl _ _ _ 52 rfl 9 25 strLaw Tryz.underlying52 _ w.heap.size k D rfl hown2 (by unfold maxLen; omega) _ _ (.string x.s) rfl rfl hkey _ [] (plainElem_int Tryz.underlying25 hwf) ?_; intro w3 hown3 hgr3))
            have hsz2 := hb2.size
            have hbe : Below w.heap.size w w3 := ((HB.out.alloc (by omega) _).trans (hb2.mono (by simp; omega))).grown hgr3 (by simp at hsz2; omega) (fun j hj => by cases hj; exact Nat.le_refl _)
            have HO : Hid (∃ D : DataW Unit, w3.ownsMap Tryz.prog 9 (plainElem Tryz.prog 25) w.heap.size (k + 1) D ∧ MapIs D (l.take (k + 1))) := ⟨_, hown3, hput'.out⟩
            clear hown3 hgr3 hown2 m0 m1 hb2 cN
            go_wp2
            go_roundg (gk - 1)
            case rel => exact ⟨k + 1, by omega, by go_num, hup'.out, hbe, HO⟩
            case measure => omega
      · obtain rfl : n = k := by omega
        obtain ⟨D, hown, hD⟩ := HM.out
        have hok := upTo_all (l := l) (by rw [HN.out]; exact h64) (by rw [HN.out]; exact hu)
        have hall : l.take n = l := by rw [← HN.out]; exact List.take_length
        rw [hall] at hD
        have HD := Lib.hid hD
        have HO := Lib.hid hown
        have HB := Lib.hid hbr
        have hbz := hbr.size
        have hlo : Lo64 l := fun x hx => (hf x hx).1
        clear hD HM hown hbr hall
        go_wp2
        go_ret2
        refine ⟨HB.out.alloc (by omega) _, .inl ⟨hok, _, rfl, ⟨okL_perm (sortV_perm l).symm hok, sortV_rising hok.2.1, hlo.perm (sortV_perm l), ?_⟩, _, rfl⟩⟩
        exact ⟨wr.heap.size, w.heap.size, rfl, by simp, by rw [World.cell?_alloc_mark]; rfl, n, D, h64, HO.out.alloc _, HD.out.perm (sortV_perm l).symm⟩
  · have hno := okL_long (l := l) (by omega)
    clear hn
    go_enter Tryz.func14, Tryz.ntmps14
    go_wp2
    go_ret2
    exact ⟨Below.refl _ _, .inr ⟨hno, rfl⟩⟩
end Go.Proofs.YtfibbjnkicjbpaaGreatDoor
/- What goes through policy's one function, by its contract, whatever is asked of each. -/
namespace Go.Proofs.YtfibbjnkicjbpaaGreatDoor
open Go Go.RowKit Go.Maps

/-- A look-up in a map that holds the viewer. -/
theorem wpList_look_vw {w : World} {ops : Array Oper} {rest : List Oper} {o : Oper} {a : Act} {Q : Exit → Act → World → Prop} (hg : o.guard = none) (m x : Operand) (hop : o.op = Op.lookup 52 m x false)
    (b n : Nat) (D : DataW Unit) (hm : a.eval m = .map (some b)) (hown : w.ownsMap Tryz.prog 9 (plainElem Tryz.prog 25) b n D) (key : Value) (kl : Lit) (hx : a.eval x = key) (hkey : keyOf Tryz.prog 9 key = some kl)
    (v : Int) (hat : ∀ z, D.atKey kl z = .lit (.int .u64 v)) (hK : wpList Tryz.prog ops Q rest (a.put o.dst (.int .u64 v)) w) : wpList Tryz.prog ops Q (o :: rest) a w := by
  refine wpList_lookup_own_int w hg m x 52 hop 9 25 .u64 strLaw Tryz.underlying52 Tryz.underlying25 (zeroLab w) b n D hm hown key kl hx hkey fun c hc _ => ?_
  rw [hat] at hc
  have e : v = c := by simpa using hc
  subst e
  exact hK
theorem filter_snoc {l : List Vw} {k : Nat} (hk : k < l.length) (f : Vw → Bool) : (l.take (k + 1)).filter f = (l.take k).filter f ++ (if f l[k] then [l[k]] else []) := by
  rw [List.take_succ_eq_append_getElem hk, List.filter_append]
  cases h : f l[k] <;> simp [h]
theorem take_filter_le (l : List Vw) (k : Nat) (f : Vw → Bool) : ((l.take k).filter f).length ≤ k := Nat.le_trans (List.length_filter_le _ _) (by rw [List.length_take]; omega)
theorem base_le {W : World} {base base' : Nat} {e : TypeId} {size : Nat} {v : Value} {k : Nat} {xs : List Value} (h : W.ownsRow base e size v k xs) (hb : base' ≤ base) : W.ownsRow base' e size v k xs := ownsRow_base_a h hb
/-- What is asked of a clearance by a function value that writes nothing of ours. -/
def Asks (g : Nat) (cb : Array Value) (f : Nat → Bool) (w : World) : Prop := ∀ (a : Nat) (W : World), a < 18446744073709551616 → Below w.heap.size w W → Calls Tryz.prog g (#[.int .u64 a] ++ cb) W fun e w' => e = .returned (.bool (f a)) ∧ Below W.heap.size W w'

set_option maxRecDepth 100000 in
set_option maxHeartbeats 4000000 in
theorem those_any (g : Nat) (cb : Array Value) (f : Nat → Bool) (v : Value) (l : List Vw) (w : World) (hp : PolAt w v l) (eg : ∀ args W, (callFunc g args).run Tryz.prog W = .ok (.enter g args) W) (hf : Asks g cb f w) :
    Calls Tryz.prog 22 #[v, .func (.func g) #[] cb] w fun e w' => ∃ u, e = .returned u ∧ Below w.heap.size w w' ∧
      w'.ownsRow w.heap.size 40 2 u (l.filter fun x => f x.c).length (flat (l.filter fun x => f x.c)) := by
  obtain ⟨p, b, rfl, hpl, hc, hm⟩ := hp.at'
  have h64 := hp.ok.1
  have cK := keys_any b
  have cS := fun Bm W => sorted_any b Bm l W
  have hm1 := fun o => hm.later ((Below.refl _ w).alloc (Nat.le_refl _) o)
  have cS1 := fun W h1 h2 h3 => sorted_any b w.heap.size l W h1 h2 h3 hp.up h64
  have hnm : (names l).length = l.length := by simp [names]
  obtain ⟨i0, hi, hz0, hz1, hz2⟩ := info_parts vwInfo
  have HF : Aside _ := hf
  have HM : Aside _ := hm
  have HP : Aside _ := hp
  clear hf hm hp cS
  have hkeyL : ∀ x ∈ l, keyOf Tryz.prog 9 (.string (bs x.s)) = some (.string x.s) := fun x hx => by
    have hn := HP.out.ok.2.2 x hx
    have h32 : x.s.length ≤ 32 := by unfold nameL at hn; simp only [Bool.and_eq_true, decide_eq_true_eq] at hn; exact hn.1.2
    have := Go.WideMaps.keyOf_string_mk (P := Tryz.prog) Tryz.underlying9 (s := bs x.s) (by rw [bs_size]; unfold maxLen; omega)
    rwa [bs_list] at this
  have HK : Aside _ := hkeyL
  clear hkeyL
  go_enter Tryz.func22, Tryz.ntmps22
  go_wp2_with (first
    | (go_at_call 45; refine (cK _).mono ?_; rintro e w' ⟨rfl, rfl⟩)
    | (go_at_call 44; refine (cS1 _ (hm1 _) (by simp) (by simp)).mono ?_; rintro e w1 ⟨vn, rfl, hrow, hb1⟩; obtain ⟨pn, cn, rfl, hnr⟩ := nm_owned hnm hrow))
  have hbw : Below w.heap.size w w1 := ((Below.refl _ w).alloc (Nat.le_refl _) _).trans (hb1.mono (by simp))
  have hs1 := hbw.size
  clear hb1 cK cS1 hm1 hrow
  obtain ⟨n, hn⟩ : ∃ n, l.length = n := ⟨_, rfl⟩
  rw [hn] at h64 ⊢
  have HN := Lib.hid hn
  clear hn hnm
  go_wp2_with fail
  go_loopg [5, 18] n (fun g u vi wr => ∃ k : Nat, k + g = n ∧ vi = .int .i64 k ∧ Below w1.heap.size w1 wr ∧ Hid (wr.ownsRow w1.heap.size 40 2 u ((l.take k).filter fun x => f x.c).length (flat ((l.take k).filter fun x => f x.c))))
  case atStart => exact ⟨0, by omega, rfl, Below.refl _ _, by rw [List.take_zero]; exact World.ownsRow_nil _ _ _ _⟩
  case round =>
    obtain ⟨k, hk, rfl, hbr, HO⟩ := hrel
    have hbrw : Below w.heap.size w wr := hbw.trans (hbr.mono hs1)
    have hsr := hbr.size
    by_cases hlt : k < n
    · have hlt' : k < l.length := by rw [HN.out]; exact hlt
      have hmem := List.getElem_mem hlt'
      obtain ⟨b1, o1, rfl, h1c⟩ := hnr.at k (by unfold names; rw [List.length_map]; exact hlt')
      have g1 := h1c wr hbr
      have hnk : (names l)[k]'(by unfold names; rw [List.length_map]; exact hlt') = l[k].s := by simp [names]
      rw [hnk] at g1
      have hkx := HK.out l[k] hmem
      obtain ⟨nn, D, _, hown, hD⟩ := MapAt.later (w := w) (b := b) (l := l) HM.out hbrw
      have hat := hD.at' l[k] hmem
      have hx64 := HP.out.lo l[k] hmem
      have cA := HF.out l[k].c wr hx64 hbrw
      have hcw : wr.cell? ⟨p, 0, none⟩ = some (.map (some b)) := (hbrw.cell (p := ⟨p, 0, none⟩) hpl).trans hc
      have hfs := Lib.hid (filter_snoc hlt' fun x => f x.c)
      have hle := take_filter_le l k fun x => f x.c
      generalize l[k] = x at *
      generalize (l.take k).filter (fun x => f x.c) = ys at *
      have HB := Lib.hid hbr
      have HBW := Lib.hid hbrw
      clear h1c hnk hD hbr hbrw hmem
      cases hfx : f x.c with
      | false =>
        rw [hfx] at cA hfs
        have hfs' : Hid ((l.take (k + 1)).filter (fun x => f x.c) = ys) := by have := hfs.out; rw [if_neg (by simp), List.append_nil] at this; exact this
        clear hfs
        go_wp2_with (first
          | (at_lookup; refine wpList_look_vw rfl _ _ rfl b nn D rfl hown _ _ rfl hkx _ hat ?_)
          | (go_at_fn g; refine cA.mono ?_; rintro e w2 ⟨rfl, hb2⟩))
        have hbe : Below w1.heap.size w1 w2 := HB.out.trans (hb2.mono hsr)
        have HO2 := Lib.hid (ownsAny_later HO.out hb2)
        clear cA hb2
        go_roundg (gk - 1)
        case rel => exact ⟨k + 1, by omega, by go_num, hbe, by rw [hfs'.out]; exact HO2.out⟩
        case measure => omega
      | true =>
        rw [hfx] at cA hfs
        have hfs' : Hid ((l.take (k + 1)).filter (fun x => f x.c) = ys ++ [x]) := by have := hfs.out; rw [if_pos rfl] at this; exact this
        clear hfs
        go_wp2_with (first
          | (at_lookup; refine wpList_look_vw rfl _ _ rfl b nn D rfl hown _ _ rfl hkx _ hat ?_)
          | (go_at_fn g; refine cA.mono ?_; rintro e w2 ⟨rfl, hb2⟩; have ho' := ownsAny_later HO.out hb2; have hsz2 := hb2.size)
          | (at_builtin; refine wpList_append_own _ rfl _ _ 29 rfl w1.heap.size 40 i0 (.agg #[.string ⟨#[]⟩, .int .u64 0]) 2 24 Tryz.underlying29 hi hz0 hz1 hz2 rfl (by decide) _ _ _ rfl (ho'.alloc _) ⟨w2.heap.size, 0, none⟩ 1 1 x.vals rfl rfl ?c1 ?c2 ?c3 ?c4 ?c5 ?_))
        case c1 =>
          intro j u hj
          match j, hj with
          | 0, hj => simp [Vw.vals] at hj; subst hj; simp [Addr.add]
          | 1, hj => simp [Vw.vals] at hj; subst hj; simp [Addr.add]
        case c2 => intro u hu; simp [Vw.vals] at hu; rcases hu with rfl | rfl <;> rfl
        case c3 => unfold maxLen; omega
        case c4 => omega
        case c5 => simp; omega
        intro u' w3 hown' hgrow _
        have hb3 : Below w1.heap.size w1 w3 := ((HB.out.trans (hb2.mono hsr)).alloc (by omega) _).grown hgrow (by simp; omega) (fun g hg => (ho'.lt g hg).1)
        have HO2 : Hid (w3.ownsRow w1.heap.size 40 2 u' (ys ++ [x]).length (flat (ys ++ [x]))) := by
          show w3.ownsRow _ _ _ _ _ _
          rw [flat_snoc, List.length_append]; exact hown'
        clear ho' hown' hgrow cA hb2
        go_wp2_with fail
        go_roundg (gk - 1)
        case rel => exact ⟨k + 1, by omega, by go_num, hb3, by rw [hfs'.out]; exact HO2.out⟩
        case measure => omega
    · obtain rfl : k = n := by omega
      have hall : l.take k = l := by rw [← HN.out]; exact List.take_length
      have HO2 := Lib.hid HO.out
      rw [hall] at HO2
      have HBW := Lib.hid hbrw
      clear HO hbr hbrw hall
      go_wp2_with fail
      go_ret
      exact ⟨_, rfl, HBW.out, base_le HO2.out hs1⟩
end Go.Proofs.YtfibbjnkicjbpaaGreatDoor
/- policy's Viewers, Below, Above, Erase, Clearance, names, by their contracts. -/
namespace Go.Proofs.YtfibbjnkicjbpaaGreatDoor
open Go Go.RowKit Go.Maps

theorem askAll (w : World) : Asks 23 #[] (fun _ => true) w := fun a W _ _ => by
  show Calls Tryz.prog 23 #[.int .u64 a] W _
  go_enter Tryz.func23, Tryz.ntmps23
  go_wp2
  go_ret
  exact ⟨rfl, Below.refl _ _⟩
theorem askBelow (w : World) (B c : Nat) (hB : B < w.heap.size) (hc : w.cell? ⟨B, 0, none⟩ = some (.int .u64 c)) (h64 : c < 18446744073709551616) : Asks 48 #[.pointer (some ⟨B, 0, none⟩)] (fun a => belowB a c) w := fun a W ha hb => by
  show Calls Tryz.prog 48 #[.int .u64 a, .pointer (some ⟨B, 0, none⟩)] W _
  have h0 : W.cell? ⟨B, 0, none⟩ = some (.int .u64 c) := (hb.cell (p := ⟨B, 0, none⟩) hB).trans hc
  have cB := below_any a c W ha h64
  clear hb hc
  go_enter Tryz.func48, Tryz.ntmps48
  go_wp2_with (go_at_call 49; refine cB.mono ?_; rintro e w' ⟨rfl, rfl⟩)
  go_ret
  exact ⟨rfl, Below.refl _ _⟩
theorem askAbove (w : World) (B c : Nat) (hB : B < w.heap.size) (hc : w.cell? ⟨B, 0, none⟩ = some (.int .u64 c)) (h64 : c < 18446744073709551616) : Asks 50 #[.pointer (some ⟨B, 0, none⟩)] (fun a => belowB c a) w := fun a W ha hb => by
  show Calls Tryz.prog 50 #[.int .u64 a, .pointer (some ⟨B, 0, none⟩)] W _
  have h0 : W.cell? ⟨B, 0, none⟩ = some (.int .u64 c) := (hb.cell (p := ⟨B, 0, none⟩) hB).trans hc
  have cB := below_any c a W h64 ha
  clear hb hc
  go_enter Tryz.func50, Tryz.ntmps50
  go_wp2_with (go_at_call 49; refine cB.mono ?_; rintro e w' ⟨rfl, rfl⟩)
  go_ret
  exact ⟨rfl, Below.refl _ _⟩
theorem mkBelow_any (c : Nat) (w : World) : Calls Tryz.prog 27 #[.int .u64 c] w fun e w' => e = .returned (.func (.func 48) #[] #[.pointer (some ⟨w.heap.size, 0, none⟩)]) ∧ w' = w.alloc (.cells #[.int .u64 c] 25) := by
  go_enter Tryz.func27, Tryz.ntmps27
  go_wp2
  go_ret
  exact ⟨rfl, rfl⟩
theorem mkAbove_any (c : Nat) (w : World) : Calls Tryz.prog 28 #[.int .u64 c] w fun e w' => e = .returned (.func (.func 50) #[] #[.pointer (some ⟨w.heap.size, 0, none⟩)]) ∧ w' = w.alloc (.cells #[.int .u64 c] 25) := by
  go_enter Tryz.func28, Tryz.ntmps28
  go_wp2
  go_ret
  exact ⟨rfl, rfl⟩
/-- A list of viewers handed out. -/
def GivesVw (w : World) (l : List Vw) (e : Ending) (w' : World) : Prop := Below w.heap.size w w' ∧ ∃ p c, e = .returned (.slice p l.length c) ∧ VwRow w' p l ∧ w'.ownsRow w.heap.size 40 2 (.slice p l.length c) l.length (flat l)
/-- A list of names handed out. -/
def GivesNm (w : World) (ns : List (List UInt8)) (e : Ending) (w' : World) : Prop := Below w.heap.size w w' ∧ ∃ p c, e = .returned (.slice p ns.length c) ∧ NmRow w' p ns ∧ w'.ownsRow w.heap.size 9 1 (.slice p ns.length c) ns.length (nameVals ns)
theorem those_gives {g : Nat} {cb : Array Value} {f : Nat → Bool} {v : Value} {l : List Vw} {w : World} (hp : PolAt w v l) (eg : ∀ args W, (callFunc g args).run Tryz.prog W = .ok (.enter g args) W) (hf : Asks g cb f w) :
    Calls Tryz.prog 22 #[v, .func (.func g) #[] cb] w (GivesVw w (l.filter fun x => f x.c)) :=
  (those_any g cb f v l w hp eg hf).mono fun e w' ⟨u, he, hb, ho⟩ => by
    obtain ⟨p, c, hu, hr⟩ := vw_owned rfl ho
    exact ⟨hb, p, c, by rw [he, hu], hr, hu ▸ ho⟩
theorem eg_all : ∀ args W, (callFunc 23 args).run Tryz.prog W = .ok (.enter 23 args) W := enters_of Tryz.func23 (by kernel_rfl) rfl
theorem eg_below : ∀ args W, (callFunc 48 args).run Tryz.prog W = .ok (.enter 48 args) W := enters_of Tryz.func48 (by kernel_rfl) rfl
theorem eg_above : ∀ args W, (callFunc 50 args).run Tryz.prog W = .ok (.enter 50 args) W := enters_of Tryz.func50 (by kernel_rfl) rfl
theorem filter_all (l : List Vw) : (l.filter fun x => (fun _ => true) x.c) = l := by simp

theorem viewers_any (v : Value) (l : List Vw) (w : World) (hp : PolAt w v l) : Calls Tryz.prog 8 #[v] w (GivesVw w l) := by
  have cT := those_gives hp eg_all (askAll w)
  rw [filter_all] at cT
  obtain ⟨p, b, rfl, _⟩ := hp.at'
  clear hp
  go_enter Tryz.func8, Tryz.ntmps8
  go_wp2_with (go_at_call 22; refine cT.mono ?_; rintro e w1 ⟨hb, p1, c1, rfl, hr, ho⟩)
  go_ret
  exact ⟨hb, p1, c1, rfl, hr, ho⟩

set_option maxRecDepth 100000 in
set_option maxHeartbeats 2000000 in
theorem names_any (w : World) (p : Option Addr) (n c : Nat) (l : List Vw) (hn : l.length = n) (h64 : n ≤ 64) (hr : VwRow w p l) :
    Calls Tryz.prog 26 #[.slice p n c] w (GivesNm w (names l)) := by
  obtain ⟨i0, hi, hz0, hz1, hz2⟩ := info_parts strInfo
  have HN := Lib.hid hn
  clear hn
  go_enter Tryz.func26, Tryz.ntmps26
  go_wp2
  go_loopg [3, 8] n (fun g u vi wr => ∃ k : Nat, k + g = n ∧ vi = .int .i64 k ∧ Below w.heap.size w wr ∧ Hid (wr.ownsRow w.heap.size 9 1 u k (nameVals (names (l.take k)))))
  case atStart => exact ⟨0, by omega, rfl, Below.refl _ _, by rw [List.take_zero]; exact World.ownsRow_nil _ _ _ _⟩
  case round =>
    obtain ⟨k, hk, rfl, hbr, HO⟩ := hrel
    have hsr := hbr.size
    by_cases hlt : k < n
    · have hlt' : k < l.length := by rw [HN.out]; exact hlt
      obtain ⟨b1, o1, rfl, hb1, h1c⟩ := hr.at k hlt'
      obtain ⟨g1, g2⟩ := h1c wr hbr
      have hsn : Hid (nameVals (names (l.take (k + 1))) = nameVals (names (l.take k)) ++ [.string (bs l[k].s)]) := by
        show nameVals (names (l.take (k + 1))) = _
        rw [List.take_succ_eq_append_getElem hlt']
        unfold nameVals names
        rw [List.map_append, List.map_append]; rfl
      generalize l[k] = x at *
      have ho' := HO.out.alloc (.cells #[.string (bs x.s), .int .u64 x.c] 40)
      have HB := Lib.hid hbr
      clear h1c hbr HO
      go_wp2_with (first
        | (at_builtin; refine wpList_append_own _ rfl _ _ 33 rfl w.heap.size 9 i0 (.string ⟨#[]⟩) 1 16 Tryz.underlying33 hi hz0 hz1 hz2 rfl (by decide) _ _ _ rfl (ho'.alloc _) ⟨wr.heap.size + 1, 0, none⟩ 1 1 [.string (bs x.s)] rfl rfl ?c1 ?c2 ?c3 ?c4 ?c5 ?_))
      case c1 =>
        intro j u hj
        match j, hj with
        | 0, hj => simp at hj; subst hj; simp [Addr.add]
      case c2 => intro u hu; simp at hu; subst hu; rfl
      case c3 => unfold maxLen; omega
      case c4 => omega
      case c5 => simp; omega
      intro u' w3 hown' hgrow _
      have hb3 : Below w.heap.size w w3 := ((HB.out.alloc (by omega) _).alloc (by simp; omega) _).grown hgrow (by simp; omega) (fun g hg => (ho'.lt g hg).1)
      have HO2 : Hid (w3.ownsRow w.heap.size 9 1 u' (k + 1) (nameVals (names (l.take (k + 1))))) := by rw [hsn.out]; exact hown'
      clear ho' hown' hgrow hsn
      go_wp2_with fail
      go_roundg (gk - 1)
      case rel => exact ⟨k + 1, by omega, by go_num, hb3, HO2⟩
      case measure => omega
    · obtain rfl : k = n := by omega
      have hall : l.take k = l := by rw [← HN.out]; exact List.take_length
      have HO2 := Lib.hid HO.out
      rw [hall] at HO2
      have hnl : (names l).length = k := by unfold names; rw [List.length_map]; exact HN.out
      have HB := Lib.hid hbr
      have HL := Lib.hid hnl
      clear HO hbr hall hnl
      go_wp2_with fail
      go_ret
      obtain ⟨p1, c1, hu, hrow⟩ := nm_owned HL.out HO2.out
      have ho := HO2.out
      rw [hu] at ho ⊢
      refine ⟨HB.out, p1, c1, by rw [HL.out]; rfl, hrow, ?_⟩
      rw [HL.out]; exact ho

theorem polBelow_any (v : Value) (l : List Vw) (c : Nat) (w : World) (hp : PolAt w v l) (h64 : c < 18446744073709551616) : Calls Tryz.prog 10 #[v, .int .u64 c] w (GivesNm w (names (l.filter fun x => belowB x.c c))) := by
  have cT := fun W (h : PolAt W v l) B hB hc => those_gives h eg_below (askBelow W B c hB hc h64)
  have hp1 := hp.later ((Below.refl _ w).alloc (Nat.le_refl _) (.cells #[.int .u64 c] 25))
  have cT1 := cT _ hp1 w.heap.size (by simp) (by rw [World.cell?_alloc_mark]; rfl)
  have h64' := okL_filter hp.ok fun x => belowB x.c c
  have cN := fun W p c' hr => names_any W p _ c' (l.filter fun x => belowB x.c c) rfl h64'.1 hr
  obtain ⟨p, b, rfl, _⟩ := hp.at'
  have cM := mkBelow_any c w
  clear cT hp hp1 h64'
  generalize (l.filter fun x => belowB x.c c) = ys at *
  go_enter Tryz.func10, Tryz.ntmps10
  go_wp2_with (first
    | (go_at_call 27; refine cM.mono ?_; rintro e w1 ⟨rfl, rfl⟩)
    | (go_at_call 22; refine cT1.mono ?_; rintro e w2 ⟨hb2, p1, c1, rfl, hr, ho⟩)
    | (go_at_call 26; refine (cN _ _ _ hr).mono ?_; rintro e w3 ⟨hb3, p3, c3, rfl, hr3, ho3⟩))
  go_ret
  have hb1 : Below w.heap.size w w2 := ((Below.refl _ w).alloc (Nat.le_refl _) _).trans (hb2.mono (by simp))
  exact ⟨hb1.trans (hb3.mono hb1.size), p3, c3, rfl, hr3, base_le ho3 hb1.size⟩
theorem polAbove_any (v : Value) (l : List Vw) (c : Nat) (w : World) (hp : PolAt w v l) (h64 : c < 18446744073709551616) : Calls Tryz.prog 11 #[v, .int .u64 c] w (GivesNm w (names (l.filter fun x => belowB c x.c))) := by
  have cT := fun W (h : PolAt W v l) B hB hc => those_gives h eg_above (askAbove W B c hB hc h64)
  have hp1 := hp.later ((Below.refl _ w).alloc (Nat.le_refl _) (.cells #[.int .u64 c] 25))
  have cT1 := cT _ hp1 w.heap.size (by simp) (by rw [World.cell?_alloc_mark]; rfl)
  have h64' := okL_filter hp.ok fun x => belowB c x.c
  have cN := fun W p c' hr => names_any W p _ c' (l.filter fun x => belowB c x.c) rfl h64'.1 hr
  obtain ⟨p, b, rfl, _⟩ := hp.at'
  have cM := mkAbove_any c w
  clear cT hp hp1 h64'
  generalize (l.filter fun x => belowB c x.c) = ys at *
  go_enter Tryz.func11, Tryz.ntmps11
  go_wp2_with (first
    | (go_at_call 28; refine cM.mono ?_; rintro e w1 ⟨rfl, rfl⟩)
    | (go_at_call 22; refine cT1.mono ?_; rintro e w2 ⟨hb2, p1, c1, rfl, hr, ho⟩)
    | (go_at_call 26; refine (cN _ _ _ hr).mono ?_; rintro e w3 ⟨hb3, p3, c3, rfl, hr3, ho3⟩))
  go_ret
  have hb1 : Below w.heap.size w w2 := ((Below.refl _ w).alloc (Nat.le_refl _) _).trans (hb2.mono (by simp))
  exact ⟨hb1.trans (hb3.mono hb1.size), p3, c3, rfl, hr3, base_le ho3 hb1.size⟩
theorem fit_of {l : List Vw} (h : okL l) (k : Lo64 l) : Fit64 l := fun x hx => ⟨k x hx, by
  have hn := h.2.2 x hx
  unfold nameL at hn; simp only [Bool.and_eq_true, decide_eq_true_eq] at hn
  unfold maxLen; omega⟩
theorem erase_any (v : Value) (l : List Vw) (c : Nat) (w : World) (hp : PolAt w v l) (h64 : c < 18446744073709551616) : Calls Tryz.prog 13 #[v, .int .u64 c] w fun e w' => Below w.heap.size w w' ∧ ∃ a, e = .returned (.pointer (some a)) ∧ PolAt w' (.pointer (some a)) (l.filter fun x => belowB x.c c) := by
  have cT := fun W (h : PolAt W v l) B hB hc => those_gives h eg_below (askBelow W B c hB hc h64)
  have hp1 := hp.later ((Below.refl _ w).alloc (Nat.le_refl _) (.cells #[.int .u64 c] 25))
  have cT1 := cT _ hp1 w.heap.size (by simp) (by rw [World.cell?_alloc_mark]; rfl)
  have hok := okL_filter hp.ok fun x => belowB x.c c
  have hlo := hp.lo.filter fun x => belowB x.c c
  have hup := sortV_self (hp.up.filter fun x => belowB x.c c)
  have h64l : (l.filter fun x => belowB x.c c).length ≤ maxLen := by have := hok.1; unfold maxLen; omega
  have cN := fun W p c' hr => new_any W p _ c' (l.filter fun x => belowB x.c c) rfl h64l hr (fit_of hok hlo)
  obtain ⟨p, b, rfl, _⟩ := hp.at'
  have cM := mkBelow_any c w
  clear cT hp hp1 h64l hlo
  generalize (l.filter fun x => belowB x.c c) = ys at *
  have HOK : Aside _ := hok
  have HUP := Lib.hid hup
  clear hok hup
  go_enter Tryz.func13, Tryz.ntmps13
  go_wp2_with (first
    | (go_at_call 27; refine cM.mono ?_; rintro e w1 ⟨rfl, rfl⟩)
    | (go_at_call 22; refine cT1.mono ?_; rintro e w2 ⟨hb2, p1, c1, rfl, hr, ho⟩)
    | (go_at_call 14; refine (cN _ _ _ hr).mono ?_; rintro e w3 ⟨hb3, ⟨_, v3, rfl, hp3, a3, rfl⟩ | ⟨hno, _⟩⟩; rotate_left; exact absurd HOK.out hno))
  go_ret
  have hb1 : Below w.heap.size w w2 := ((Below.refl _ w).alloc (Nat.le_refl _) _).trans (hb2.mono (by simp))
  rw [HUP.out] at hp3
  exact ⟨hb1.trans (hb3.mono hb1.size), a3, rfl, hp3⟩
theorem look_mem {l : List Vw} (hn : (names l).Nodup) {x : Vw} (hx : x ∈ l) : look l x.s = some x.c := by
  unfold look
  induction l with
  | nil => simp at hx
  | cons y l ih =>
    unfold names at hn
    rw [List.map_cons, List.nodup_cons] at hn
    rw [List.find?_cons]
    by_cases e : y.s = x.s
    · rw [beq_iff_eq.2 e]
      rcases List.mem_cons.1 hx with rfl | hx
      · rfl
      · exact absurd (e ▸ List.mem_map_of_mem hx) hn.1
    · rw [beq_false_of_ne e]
      rcases List.mem_cons.1 hx with rfl | hx
      · exact absurd rfl e
      · exact ih hn.2 hx
theorem look_none {l : List Vw} {s : List UInt8} (h : s ∉ names l) : look l s = none := by
  unfold look
  rw [List.find?_eq_none.2]
  · rfl
  · intro x hx e
    exact h (by rw [← beq_iff_eq.1 e]; exact List.mem_map_of_mem hx)
/-- What Clearance answers. -/
def clrV (l : List Vw) (s : List UInt8) : Value := match look l s with
  | some c => .tuple #[.int .u64 c, .int .i64 0]
  | none => .tuple #[.int .u64 0, .int .i64 160]
theorem clearance_any (v : Value) (l : List Vw) (s : ByteArray) (w : World) (hp : PolAt w v l) (hs : s.size ≤ maxLen) : Calls Tryz.prog 7 #[v, .string s] w fun e w' => e = .returned (clrV l s.data.toList) ∧ w = w' := by
  obtain ⟨p, b, rfl, hpl, hc, n, D, _, hown, hD⟩ := hp.at'
  have hkey : keyOf Tryz.prog 9 (.string s) = some (.string s.data.toList) := Go.WideMaps.keyOf_string_mk (P := Tryz.prog) Tryz.underlying9 hs
  have hin := hD.has s.data.toList
  unfold clrV
  cases hh : Maps.has D (.string s.data.toList) with
  | true =>
    obtain ⟨x, hx, e⟩ := List.mem_map.1 (hin.1 hh)
    have hl := look_mem hp.ok.2.1 hx
    have hat := hD.at' x hx (.lit (.int .u64 0))
    rw [e] at hl hat
    rw [hl]
    have HT := Lib.hid hat
    clear hp hin hD hat hl hx
    go_enter Tryz.func7, Tryz.ntmps7
    go_wp2_with (first
      | (at_lookup; refine wpList_lookup_own_ok_int _ rfl _ _ 52 rfl 9 25 .u64 strLaw Tryz.underlying52 Tryz.underlying25 (zeroLab _) b n D rfl hown _ _ rfl hkey ?_; intro c hat hwc; rw [hh]; have HC := Lib.hid hat; clear hat hwc))
    go_ret2
    have e2 : c = (x.c : Int) := by have := HC.out.symm.trans HT.out; simpa using this
    exact ⟨by rw [e2]; rfl, rfl⟩
  | false =>
    have hl := look_none (l := l) (s := s.data.toList) (fun h => by have := hin.2 h; rw [hh] at this; cases this)
    rw [hl]
    clear hp hin hD hl
    go_enter Tryz.func7, Tryz.ntmps7
    go_wp2_with (first
      | (at_lookup; refine wpList_lookup_own_ok_int _ rfl _ _ 52 rfl 9 25 .u64 strLaw Tryz.underlying52 Tryz.underlying25 (zeroLab _) b n D rfl hown _ _ rfl hkey ?_; intro c hat hwc; rw [hh]; clear hat hwc))
    go_ret2
    exact ⟨rfl, rfl⟩
end Go.Proofs.YtfibbjnkicjbpaaGreatDoor
/- A loop over an iterator that keeps its state in one box of its own: the loop's invariant abides stores into that box. No program. -/
namespace Go.Proofs.YtfibbjnkicjbpaaGreatDoor
open Go Go.RowKit

/-- What is said between two rounds abides stores into box B. -/
def Stores {β : Type} (B : Nat) (J : β → World → Prop) : Prop := ∀ s (W : World) u, J s W → J s (W.setCell ⟨B, 0, none⟩ u)
/-- The iterator's word, for every loop whose invariant abides stores into box B. -/
def SeqStore {α : Type} (F : Fence) (n : Nat) (P : Program) (g : Nat) (lb : Array Value) (encs : α → Array Value) (Kp : World → World → Prop) (S Sp : List α → Prop) (N B : Nat) (w : World) : Prop :=
  ∀ (l : Nat) (J Jx : List α → World → Prop) (W : World), Below w.heap.size w W → Stores B J →
    (∀ pre x W1, J pre W1 → pre.length < N → YieldAt F (n - 1) P l (encs x) W1 fun e W' =>
      (e = .returned (.bool true) ∧ J (pre ++ [x]) W' ∧ Kp W1 W') ∨ (e = .returned (.bool false) ∧ Jx (pre ++ [x]) W')) →
    J [] W →
    CallsIn F n P g (#[.func (.yield l) #[] #[]] ++ lb) W fun e W' => (∃ v, e = .returned v) ∧ ((∃ xs, S xs ∧ J xs W') ∨ (∃ pre, Sp pre ∧ Jx pre W'))

variable {F : Fence} {n : Nat} {P : Program}
theorem other_block {W : World} {B k : Nat} (u : Value) (h : k ≠ B) : (W.setCell ⟨B, 0, none⟩ u).heap[k]? = W.heap[k]? := by
  show (W.heap.modify B _)[k]? = _
  rw [Array.getElem?_modify, if_neg (fun e => h e.symm)]

theorem range_store {α : Type} {g : Operand} {ps : Array Tmp} {assign body : Code} {Q : Exit → Act → World → Prop} {a : Act} {w : World}
    (hro : F.round = none) (h1 : 1 ≤ n) {gf : Nat} {lb : Array Value} (hg : a.eval g = .func (.func gf) #[] lb) (hFg : F.fn gf) (eg : ∀ args w, (callFunc gf args).run P w = .ok (.enter gf args) w)
    {encs : α → Array Value} {Kp : World → World → Prop} {S Sp : List α → Prop} {N B : Nat} {w0 : World} (hseq : SeqStore F (n - 1) P gf lb encs Kp S Sp N B w0) (hBw : B < w.heap.size)
    (hKt : ∀ {A B C : World}, Kp A B → Kp B C → Kp A C) (hKb : ∀ (W : World) (l : Nat) (o o' : Obj), w.heap.size ≤ l → W.heap[l]? = some o → o.isCells = false → o.isWalk = false → Kp W (W.putObj l o')) (hb0 : Below w0.heap.size w0 w) (hps : ∀ x, (encs x).size = ps.size)
    (I : List α → World → Prop) (Ix : Code → List α → World → Prop) (hI : OwnFrom w.heap.size I) (hIx : ∀ c, OwnFrom w.heap.size (Ix c)) (hIs : Stores B I) (h0 : I [] w) (a₁ : α → Act)
    (hassign : ∀ (l : Nat) (x : α) (W : World) (K : Act → World → Prop), K (a₁ x) W →
      assign.wpIn (F.inRound l) (n - 1 - 1) P (Exit.then K (fun _ _ _ => False)) { tmps := (ps.zip (encs x)).foldl (fun t (p, v) => t.setIfInBounds p v) a.tmps, defers := [] } W)
    (hbody : ∀ (l : Nat) (pre : List α) (x : α) (W : World), I pre W → pre.length < N → body.wpIn (F.inRound l) (n - 1 - 1) P (ownPostK Kp I Ix (pre ++ [x]) W) (a₁ x) W)
    (hdone : ∀ (D : Nat) (xs : List α) (W : World), w.heap.size ≤ D → S xs → I xs W → W.heap[D]? = some (.deferred (some [])) → Q .normal { a with defers := { target := .collected D, args := #[] } :: a.defers } W)
    (hstop : ∀ (D : Nat) (c : Code) (pre : List α) (W : World), w.heap.size ≤ D → Sp pre → Ix c pre W → W.heap[D]? = some (.deferred (some [])) → c.wpIn F n P Q { a with defers := { target := .collected D, args := #[] } :: a.defers } W) :
    (Code.rangeFunc g ps assign body).wpIn F n P Q a w := by
  refine wpIn_rangeFunc ?_
  intro fn hfn
  rw [hro]
  -- the loop's record, at its two states
  let rec_ : LoopState → Option Code → Loop := fun st pe => { state := st, pending := pe, fn, tmps := a.tmps, params := ps, assign, body, defers := w.heap.size }
  have hrd : ∀ st pe, rec_ st pe = { state := st, pending := pe, fn, tmps := a.tmps, params := ps, assign, body, defers := w.heap.size } := fun _ _ => rfl
  generalize rec_ = rc at hrd
  have hW1 : ∃ W1, (w.alloc (.deferred (some []))).alloc (.loop (rc .ready none)) = W1 := ⟨_, rfl⟩
  obtain ⟨W1, hW1⟩ := hW1
  have hL1 : W1.heap[w.heap.size + 1]? = some (.loop (rc .ready none)) := by
    have h := World.alloc_heap_new (w.alloc (.deferred (some []))) (.loop (rc .ready none))
    rw [World.size_alloc, hW1] at h
    exact h
  have hK1 : W1.heap[w.heap.size]? = some (.deferred (some [])) := by
    rw [← hW1]; exact (Below.heap_alloc _ _ _ (by simp)).trans (World.alloc_heap_new w _)
  have hs1 : W1.heap.size = w.heap.size + 2 := by rw [← hW1]; simp
  have hI1 : I [] W1 := by rw [← hW1]; exact hI.alloc _ (hI.alloc _ h0)
  have hb1 : Below w0.heap.size w0 W1 := by
    rw [← hW1]; exact hb0.trans ((((Below.refl _ w).alloc (Nat.le_refl _) _).alloc (by simp) _).mono hb0.size)
  refine ⟨w.heap.size + 1, [{ target := .collected w.heap.size, args := #[] }], W1, { target := .fn (.func gf) lb, args := #[.func (.yield (w.heap.size + 1)) #[] #[]] }, W1, gf,
    #[.func (.yield (w.heap.size + 1)) #[] #[]] ++ lb, W1, ?_, ?_, ?_, ?_, fun _ => h1, ?_⟩
  · rw [← hW1, hrd]; exact run_enterLoop_outer _ _ _ _ _
  · simp only [resolve, hg]
    simp [go_sem]
  · intro f' hf'; simp [Target.leads] at hf'; subst hf'; exact hFg
  · simp [invoke, go_sem, eg]
  · have hcall := hseq (w.heap.size + 1)
      (fun pre W => I pre W ∧ W.heap[w.heap.size + 1]? = some (.loop (rc .ready none)) ∧ W.heap[w.heap.size]? = some (.deferred (some [])))
      (fun pre W => ∃ c, Ix c pre W ∧ W.heap[w.heap.size + 1]? = some (.loop (rc .done (some c))) ∧ W.heap[w.heap.size]? = some (.deferred (some [])))
      W1 hb1 (fun s W u ⟨hi, hl, hk⟩ => ⟨hIs s W u hi, (other_block u (by omega)).trans hl, (other_block u (by omega)).trans hk⟩) ?round ⟨hI1, hL1, hK1⟩
    case round =>
      rintro pre x W ⟨hi, hl, hk⟩ hlen
      have hlt : w.heap.size + 1 < W.heap.size := (Array.getElem?_eq_some_iff.1 hl).1
      have hy := run_yield (P := P) (args := encs x) hl (by rw [hrd]; exact hps x)
      rw [hrd] at hy
      refine ⟨fn, _, assign, body, hy, roundIn_of_wpIn hfn (hassign _ x W _ ⟨_, run_beginRound hl (by rw [hrd]), ?_⟩)⟩
      have hbusy : ({ rc .ready none with state := .busy } : Loop) = rc .busy none := by rw [hrd, hrd]
      rw [hbusy]
      have hl2 : (W.putObj (w.heap.size + 1) (.loop (rc .busy none))).heap[w.heap.size + 1]? = some (.loop (rc .busy none)) := World.putObj_heap_same hlt
      have hk2 : (W.putObj (w.heap.size + 1) (.loop (rc .busy none))).heap[w.heap.size]? = some (.deferred (some [])) := (World.putObj_heap_other (by omega)).trans hk
      have hw2 : Kp W (W.putObj (w.heap.size + 1) (.loop (rc .busy none))) := hKb _ _ _ _ (by omega) hl rfl rfl
      refine wpIn_mono (hbody _ pre x _ (hI.putObj _ hi (by omega) hl rfl) hlen) ?_
      have fin : ∀ (jump : Option Code) (W3 : World), KeepsOthers (W.putObj (w.heap.size + 1) (.loop (rc .busy none))) W3 →
          (Instr.endRound (w.heap.size + 1) jump).run P W3 = .ok (.bool jump.isNone) (W3.putObj (w.heap.size + 1) (.loop (rc (if jump.isNone then .ready else .done) jump))) ∧
          W3.heap[w.heap.size + 1]? = some (.loop (rc .busy none)) ∧
          (W3.putObj (w.heap.size + 1) (.loop (rc (if jump.isNone then .ready else .done) jump))).heap[w.heap.size + 1]? = some (.loop (rc (if jump.isNone then .ready else .done) jump)) ∧
          (W3.putObj (w.heap.size + 1) (.loop (rc (if jump.isNone then .ready else .done) jump))).heap[w.heap.size]? = some (.deferred (some [])) := by
        intro jump W3 hk3
        have hl3 := hk3.same _ _ hl2 rfl
        have hend := run_endRound (P := P) jump (by rw [hrd] at hl3; exact hl3)
        refine ⟨?_, hl3, World.putObj_heap_same (Array.getElem?_eq_some_iff.1 hl3).1, (World.putObj_heap_other (by omega)).trans (hk3.same _ _ hk2 rfl)⟩
        rw [hrd]
        exact hend
      have leave : ∀ (c : Code) (W3 : World), KeepsOthers (W.putObj (w.heap.size + 1) (.loop (rc .busy none))) W3 → Ix c (pre ++ [x]) W3 →
          ∃ c', Ix c' (pre ++ [x]) (W3.putObj (w.heap.size + 1) (.loop (rc .done (some c)))) ∧ (W3.putObj (w.heap.size + 1) (.loop (rc .done (some c)))).heap[w.heap.size + 1]? = some (.loop (rc .done (some c'))) ∧ (W3.putObj (w.heap.size + 1) (.loop (rc .done (some c)))).heap[w.heap.size]? = some (.deferred (some [])) := by
        intro c W3 hk3 hi3
        obtain ⟨_, hl3, hl4, hk4⟩ := fin (some c) W3 hk3
        exact ⟨c, (hIx c).putObj _ hi3 (by omega) hl3 rfl, hl4, hk4⟩
      rintro e a3 W3 hp
      cases e with
      | normal =>
        obtain ⟨hk3, hkp3, hi3⟩ := hp
        obtain ⟨hr, hl3, hl4, hk4⟩ := fin none W3 hk3
        exact ⟨_, _, hr, .inl ⟨rfl, ⟨hI.putObj _ hi3 (by omega) hl3 rfl, hl4, hk4⟩, hKt (hKt hw2 hkp3) (hKb _ _ _ _ (by omega) hl3 rfl rfl)⟩⟩
      | ret => exact ⟨_, _, (fin (some .ret) W3 hp.1).1, .inr ⟨rfl, leave .ret W3 hp.1 hp.2⟩⟩
      | exit id => exact ⟨_, _, (fin (some (.exit id)) W3 hp.1).1, .inr ⟨rfl, leave (.exit id) W3 hp.1 hp.2⟩⟩
      | goto t => exact ⟨_, _, (fin (some (.goto t)) W3 hp.1).1, .inr ⟨rfl, leave (.goto t) W3 hp.1 hp.2⟩⟩
      | panic ch => exact hp.elim
      | outgrown => exact hp.elim
    refine hcall.mono ?_
    rintro e W2 ⟨⟨v, rfl⟩, (⟨xs, hS, hi, hl, hk⟩ | ⟨pre, hSp, c, hi, hl, hk⟩)⟩
    · have hrun := run_endLoop (P := P) hl (by rw [hrd]; simp)
      rw [hrd] at hrun
      exact ⟨none, _, hrun, hdone _ xs _ (Nat.le_refl _) hS (hI.putObj _ hi (by omega) hl rfl) ((World.putObj_heap_other (by omega)).trans hk)⟩
    · have hrun := run_endLoop (P := P) hl (by rw [hrd]; simp)
      rw [hrd] at hrun
      exact ⟨some c, _, hrun, hstop _ c pre _ (Nat.le_refl _) hSp ((hIx c).putObj _ hi (by omega) hl rfl) ((World.putObj_heap_other (by omega)).trans hk)⟩
end Go.Proofs.YtfibbjnkicjbpaaGreatDoor
