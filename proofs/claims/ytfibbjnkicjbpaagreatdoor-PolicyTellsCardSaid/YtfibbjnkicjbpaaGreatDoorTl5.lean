/- Texts of the proof, merged: PoKeys, OwnAppend. -/
import Derived.Test.YtfibbjnkicjbpaaGreatDoorTl3
import Derived.Test.YtfibbjnkicjbpaaGreatDoorTl4
import Derived.Shelf.SlIter.Sorted
import Derived.Shelf.SlIter.Nil
import Derived.Maps.OwnOps
import Derived.Maps.OwnSet
import Derived.Laws.AppendOwn
import Derived.OwnWalk
import Derived.RowKit
/- slices.Sorted(maps.Keys(m)) over the shelf's contracts, laid at this program by hand; a policy in memory. -/
namespace Go.Proofs.YtfibbjnkicjbpaaGreatDoor
open Go Go.RowKit Go.Maps Go.Sort Go.Shelf

def ks_ren : Go.Shelf.Ren := ⟨fun | 6 => 44 | 7 => 45 | 8 => 66 | 9 => 67 | 10 => 68 | 11 => 97 | n => n, fun | 0 => 0 | 3 => 25 | 4 => 4 | 23 => 52 | 24 => 33 | 26 => 9 | 27 => 76 | 28 => 77 | 33 => 63 | n => n, fun n => n⟩
theorem ks6 : SlLaysZ.n6 Tryz.prog ks_ren where
  mixed := by kernel_rfl
  f6 := ⟨"slices.Sorted[string]", by decide, Tryz.func44.trans (congrArg some (by kernel_rfl))⟩
  f8 := ⟨"slices.Collect[string]", by decide, Tryz.func66.trans (congrArg some (by kernel_rfl))⟩
  f11 := ⟨"slices.AppendSeq[[]string,string]", by decide, Tryz.func97.trans (congrArg some (by kernel_rfl))⟩
  t0 := Tryz.underlying0
  a0 := Tryz.isAgg0
  z0 := Tryz.sizeOf0
  v0 := Tryz.zeroValue0
  t24 := Tryz.underlying33
  a24 := Tryz.isAgg33
  z24 := Tryz.sizeOf33
  v24 := Tryz.zeroValue33
  t26 := Tryz.underlying9
  a26 := Tryz.isAgg9
  z26 := Tryz.sizeOf9
  v26 := Tryz.zeroValue9
  t28 := Tryz.underlying77
  a28 := Tryz.isAgg77
  z28 := Tryz.sizeOf77
  v28 := Tryz.zeroValue77
  i26 := by kernel_rfl
theorem ks7 : SlLaysZ.n7 Tryz.prog ks_ren where
  mixed := by kernel_rfl
  f7 := ⟨"maps.Keys[map[string]scrim/api.Label,string,scrim/api.Label]", by decide, Tryz.func45.trans (congrArg some (by kernel_rfl))⟩
  f10 := ⟨"maps.Keys[map[string]scrim/api.Label,string,scrim/api.Label]$1", by decide, Tryz.func68.trans (congrArg some (by kernel_rfl))⟩
  t0 := Tryz.underlying0
  a0 := Tryz.isAgg0
  z0 := Tryz.sizeOf0
  v0 := Tryz.zeroValue0
  t4 := Tryz.underlying4
  a4 := Tryz.isAgg4
  z4 := Tryz.sizeOf4
  v4 := Tryz.zeroValue4
  t23 := Tryz.underlying52
  a23 := Tryz.isAgg52
  z23 := Tryz.sizeOf52
  v23 := Tryz.zeroValue52
  t26 := Tryz.underlying9
  a26 := Tryz.isAgg9
  z26 := Tryz.sizeOf9
  v26 := Tryz.zeroValue9
  t27 := Tryz.underlying76
  a27 := Tryz.isAgg76
  z27 := Tryz.sizeOf76
  v27 := Tryz.zeroValue76
  t28 := Tryz.underlying77
  a28 := Tryz.isAgg77
  z28 := Tryz.sizeOf77
  v28 := Tryz.zeroValue77
  t33 := Tryz.underlying63
  a33 := Tryz.isAgg63
  z33 := Tryz.sizeOf63
  v33 := Tryz.zeroValue63

/-- slices.Sort's two contracts at this program, at the fence that asks nothing. -/
theorem sorts_wide (m : Nat) : AnyZ.SortsIn Tryz.prog ks_ren Fence.wide m :=
  ⟨fun blk off cap ss W hH hblk hsz => callsIn_wide.2 (Tryz.slices_Sort_string blk off cap ss W hH hblk hsz),
   fun p cap W => callsIn_wide.2 (Tryz.slices_Sort_string_none p cap W)⟩

abbrev LT : TypeId := 25
theorem strLaw : Keyed Tryz.prog 9 := string_keyed Tryz.underlying9
theorem zeroLab (w : World) : (zeroValue 25).run Tryz.prog w = .ok (.int .u64 0) w := by kernel_rfl
/-- The map at block b holds these viewers. -/
def MapAt (w : World) (b : Nat) (l : List Vw) : Prop := ∃ (n : Nat) (D : DataW Unit), n ≤ 64 ∧ w.ownsMap Tryz.prog 9 (plainElem Tryz.prog 25) b n D ∧ MapIs D l
theorem MapAt.later {w W : World} {b : Nat} {l : List Vw} (h : MapAt w b l) (hb : Below w.heap.size w W) : MapAt W b l := by
  obtain ⟨n, D, hn, hown, hm⟩ := h
  have hbl := hown.lt
  obtain ⟨es, clock, hb', Ft, hs, hD⟩ := hown
  exact ⟨n, D, hn, ⟨es, clock, (hb.block b hbl).trans hb', Ft, hs, hD⟩, hm⟩
theorem MapAt.lt {w : World} {b : Nat} {l : List Vw} (h : MapAt w b l) : b < w.heap.size := by
  obtain ⟨n, D, hn, hown, hm⟩ := h
  exact hown.lt
/-- A policy at a pointer: its viewers, rising by name. -/
structure PolAt (w : World) (v : Value) (l : List Vw) : Prop where
  ok : okL l
  up : Rising l
  lo : Lo64 l
  at' : ∃ p b, v = .pointer (some ⟨p, 0, none⟩) ∧ p < w.heap.size ∧ w.cell? ⟨p, 0, none⟩ = some (.map (some b)) ∧ MapAt w b l
theorem PolAt.later {w W : World} {v : Value} {l : List Vw} (h : PolAt w v l) (hb : Below w.heap.size w W) : PolAt W v l := by
  obtain ⟨p, b, e, hp, hc, hm⟩ := h.at'
  exact ⟨h.ok, h.up, h.lo, p, b, e, Nat.lt_of_lt_of_le hp hb.size, (hb.cell (p := ⟨p, 0, none⟩) hp).trans hc, hm.later hb⟩

theorem strKeys_perm {w : World} {b n : Nat} {D : DataW Unit} {R : Value → Option (DataW Unit × List MemPlace)} {l : List Vw} (hown : w.ownsMap Tryz.prog 9 R b n D) (hn : (names l).Nodup) (hm : MapIs D l) : (names l).Perm (strKeys D) := by
  obtain ⟨es, e, hes⟩ := hown.tidy strLaw
  obtain ⟨es', e', hk⟩ := hown.keysOf
  subst e
  injection e' with e'
  subst e'
  exact perm_strKeys hes (fun p hp => by
    obtain ⟨key, hkey⟩ := hk p hp
    obtain ⟨x, _, hx, _⟩ := keyOf_str Tryz.underlying9 hkey
    exact ⟨x, hx⟩) hn (fun x => (hm.has x).symm)
theorem size_strKeys (D : DataW Unit) (h : IsMap D) : Maps.size D = (strKeys D).length := by
  obtain ⟨es, rfl⟩ := h
  simp [Maps.size, strKeys]

set_option maxHeartbeats 1000000 in
theorem keys_any (b : Nat) (w : World) : Calls Tryz.prog 45 #[.map (some b)] w fun e w' => e = .returned (.func (.func 68) #[] #[.pointer (some ⟨w.heap.size, 0, none⟩)]) ∧ w' = w.alloc (.cells #[.map (some b)] 52) :=
  (callsIn_wide (n := 5)).1 (AnyZ.keys_in ks7 Fence.wide 5 trivial rfl (some b) w)

set_option maxHeartbeats 1000000 in
/-- The names of the map's viewers, rising, in a row of the call's own. -/
theorem sorted_any (b Bm : Nat) (l : List Vw) (W : World) (hm : MapAt W b l) (hBm : Bm < W.heap.size) (hc : W.cell? ⟨Bm, 0, none⟩ = some (.map (some b))) (hr : Rising l) (h64 : l.length ≤ 64) :
    Calls Tryz.prog 44 #[.func (.func 68) #[] #[.pointer (some ⟨Bm, 0, none⟩)]] W fun e w' => ∃ v, e = .returned v ∧
      w'.ownsRow W.heap.size 9 1 v l.length ((names l).map encStr) ∧ Below W.heap.size W w' := by
  obtain ⟨n, D, hn, hown, hD⟩ := hm
  have hp := strKeys_perm hown hr.nodup hD
  have hsz : Maps.size D = l.length := by rw [size_strKeys D hD.map, ← hp.length_eq]; simp [names]
  have hseq : SeqGives Fence.wide 2 Tryz.prog 68 #[.pointer (some ⟨Bm, 0, none⟩)] encStr (fun ss => ss.Perm (strKeys D)) (Maps.size D) W :=
    AnyZ.keys_gives (ρ := ks_ren) { ks7 with } Fence.wide _ trivial rfl (by omega) Bm b n D _ hBm hc hown
  have cS := AnyZ.sorted_in ks6 Fence.wide 5 trivial trivial trivial trivial rfl (by omega) (sorts_wide _) (enters_of Tryz.func67 (by kernel_rfl) rfl) 68 #[.pointer (some ⟨Bm, 0, none⟩)] trivial (enters_of Tryz.func68 (by kernel_rfl) rfl) _ _ (by rw [hsz]; unfold maxLen; omega) (by rw [hsz]; omega) _ hseq
  refine ((callsIn_wide (n := 5)).1 cS).mono ?_
  rintro e w' ⟨v, ss, rfl, hS, hrow, hnil, hb⟩
  have hl : ss.length = l.length := by rw [hS.length_eq, ← hp.length_eq]; simp [names]
  have hs := names_sorted hr (hS.trans hp.symm)
  rw [hl, hs] at hrow
  exact ⟨v, rfl, hrow, hb⟩
end Go.Proofs.YtfibbjnkicjbpaaGreatDoor
/- append to a row of the call's own, with the row's block told: the old one, or a new one. No program. -/
namespace Go.Proofs.YtfibbjnkicjbpaaGreatDoor
open Go Go.RowKit

section
variable {P : Program} (w : World)
theorem run_append_blk (base : Nat) (t ty e : TypeId) (i : TypeInfo) (z : Value) (size bytes : Nat) (ht : P.underlying t = some (.slice e)) (hi : P.info? e = some i) (hz : i.zero = some z)
    (hsize : i.size = size) (hby : i.bytes = bytes) (hzs : z.cells.size = size) (hsz : 0 < size)
    (v : Value) (n : Nat) (xs : List Value) (hown : w.ownsRow base e size v n xs)
    (a : Addr) (m c : Nat) (news : List Value) (hl : news.length = m * size) (hnews : ∀ j u, news[j]? = some u → w.cell? (a.add j) = some u) (h1 : ∀ u ∈ news, u.oneCell' = true)
    (h63 : n + m ≤ maxLen) (hbytes : (n + m) * bytes ≤ 140737488355328) (hbase : base ≤ w.heap.size) :
    ∃ v' w', (Builtin.append_ #[t, t] ty #[v, .slice (some a) m c]).run P w = .ok v' w' ∧ w'.ownsRow base e size v' (n + m) (xs ++ news) ∧ w.grownBy w' v.ownBlock ∧
      (v'.ownBlock = v.ownBlock ∨ v'.ownBlock = some w.heap.size) := by
  obtain ⟨v', w', hr, h2, h3, h4⟩ := run_append_own (P := P) w base t ty e i z size bytes ht hi hz hsize hby hzs hsz v n xs hown a m c news hl hnews h1 h63 hbytes hbase
  refine ⟨v', w', hr, h2, h3, ?_⟩
  subst hsize
  subst hby
  have hsmall : n + m ≤ 9223372036854775807 := by simp only [maxLen] at h63; omega
  have hown0 := hown
  rcases hown.2 with ⟨rfl, rfl⟩ | ⟨g, cap, cur, rfl, hbg, hg, hnc, hcm, hcs, htake⟩
  · by_cases hm : m = 0
    · rw [h4.2 ⟨rfl, hm⟩]; exact .inl rfl
    · have hr2 := run_append_nil (P := P) w t ty e i z ht hi hz a m c news hl hnews (by omega) (by omega) (by have hb := hbytes; simp only [Nat.zero_add] at hb; omega)
      rw [hr] at hr2
      injection hr2 with e1 _
      rw [e1]; exact .inr rfl
  · by_cases hroom : n + m ≤ cap
    · have hfit : n * i.size + news.length ≤ cur.size := by rw [hl, hcs, ← Nat.add_mul]; exact Nat.mul_le_mul_right _ hroom
      have hr2 := run_append_room (P := P) w t ty e i ht hi g n cap cur hg a m c news hl hnews h1 hroom hfit
      rw [hr] at hr2
      injection hr2 with e1 _
      rw [e1]; exact .inl rfl
    · have holds : ∀ j u, xs[j]? = some u → w.cell? ((⟨g, 0, none⟩ : Addr).add j) = some u := hown0.cells (g := g) rfl
      have hr2 := run_append_grow (P := P) w t ty e i z ht hi hz ⟨g, 0, none⟩ n cap xs hown0.1 holds a m c news hl hnews (by omega) (by omega) (growslice_fits (by omega) hbytes)
      rw [hr] at hr2
      injection hr2 with e1 _
      rw [e1]; exact .inr rfl

theorem wpList_append_blk {ops : Array Oper} {rest : List Oper} {o : Oper} {a : Act} {Q : Exit → Act → World → Prop} (hgd : o.guard = none) (s x : Operand) (t : TypeId)
    (ho : o.op = .call { callee := .builtin .append, args := #[s, x], argTypes := #[t, t] })
    (base : Nat) (e : TypeId) (i : TypeInfo) (z : Value) (size bytes : Nat) (ht : P.underlying t = some (.slice e)) (hi : P.info? e = some i) (hz : i.zero = some z)
    (hsize : i.size = size) (hby : i.bytes = bytes) (hzs : z.cells.size = size) (hsz : 0 < size)
    (v : Value) (n : Nat) (xs : List Value) (hs : a.eval s = v) (hown : w.ownsRow base e size v n xs)
    (ad : Addr) (m c : Nat) (news : List Value) (hx : a.eval x = .slice (some ad) m c) (hl : news.length = m * size) (hnews : ∀ j u, news[j]? = some u → w.cell? (ad.add j) = some u) (h1 : ∀ u ∈ news, u.oneCell' = true)
    (h63 : n + m ≤ maxLen) (hbytes : (n + m) * bytes ≤ 140737488355328) (hbase : base ≤ w.heap.size)
    (h : ∀ v' w', w'.ownsRow base e size v' (n + m) (xs ++ news) → w.grownBy w' v.ownBlock → (v'.ownBlock = v.ownBlock ∨ v'.ownBlock = some w.heap.size) → wpList P ops Q rest (a.put o.dst v') w') : wpList P ops Q (o :: rest) a w :=
  wpList_plain hgd fun K hK => by
    obtain ⟨v', w', hr, h2, h3, h4⟩ := run_append_blk (P := P) w base t o.type e i z size bytes ht hi hz hsize hby hzs hsz v n xs hown ad m c news hl hnews h1 h63 hbytes hbase
    unfold Oper.wp execOp
    simp only [ho, resolve, invoke, builtin, Sem.run_bind, Sem.run_pure, Result.andThen_ok, List.map_toArray, List.map_cons, List.map_nil, hs, hx, hr]
    exact hK _ _ (h v' w' h2 h3 h4)
end
end Go.Proofs.YtfibbjnkicjbpaaGreatDoor
