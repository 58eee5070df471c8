/- Texts of the proof, merged: OwnAppend, VwRow. -/
import Derived.Test.YtfkkodcppaakjaaGreatDoorRd2
import Derived.Test.YtfkkodcppaakjaaGreatDoorRd6
import Derived.Test.YtfkkodcppaakjaaGreatDoorRd16
import Derived.Laws.AppendOwn
import Derived.OwnWalk
import Derived.RowKit
import Derived.Deep.Slices
import Derived.Deep.Fields
import Derived.Deep.QuietTactic
import Derived.Laws.AppendOwnNone
/- append to a row of the call's own, with the row's block told: the old one, or a new one. No program. -/
namespace Go.Proofs.YtfkkodcppaakjaaGreatDoor
open Go Go.RowKit

section
variable {P : Program} (w : World)
theorem run_append_blk (base : Nat) (t ty e : TypeId) (i : TypeInfo) (z : Value) (size bytes : Nat) (ht : P.underlying t = some (.slice e)) (hi : P.info? e = some i) (hz : i.zero = some z)
    (hsize : i.size = size) (hby : i.bytes = bytes) (hzs : z.cells.size = size) (hsz : 0 < size)
    (v : Value) (n : Nat) (xs : List Value) (hown : w.ownsRow base e size v n xs)
    (a : Addr) (m c : Nat) (news : List Value) (hl : news.length = m * size) (hnews : ∀ j u, news[j]? = some u → w.cell? (a.add j) = some u) (h1 : ∀ u ∈ news, u.oneCell' = true)
    (h63 : n + m ≤ maxLen) (hbytes : (n + m) * bytes ≤ 140737488355328) (hbase : base ≤ w.heap.size) :
    ∃ v' w', (Builtin.append_ #[t, t] ty #[v, .slice (some a) m c]).run P w = .ok v' w' ∧ w'.ownsRow base e size v' (n + m) (xs ++ news) ∧ w.grownBy w' v.ownBlock ∧
      (v'.ownBlock = v.ownBlock ∨ v'.ownBlock = some w.heap.size) := by
  obtain ⟨v', w', hr, h2, h3, h4⟩ := run_append_own (P := P) w base t ty e i z size bytes ht hi hz hsize hby hzs hsz v n xs hown a m c news hl hnews h1 h63 hbytes hbase
  refine ⟨v', w', hr, h2, h3, ?_⟩
  subst hsize
  subst hby
  have hsmall : n + m ≤ 9223372036854775807 := by simp only [maxLen] at h63; omega
  have hown0 := hown
  rcases hown.2 with ⟨rfl, rfl⟩ | ⟨g, cap, cur, rfl, hbg, hg, hnc, hcm, hcs, htake⟩
  · by_cases hm : m = 0
    · rw [h4.2 ⟨rfl, hm⟩]; exact .inl rfl
    · have hr2 := run_append_nil (P := P) w t ty e i z ht hi hz a m c news hl hnews (by omega) (by omega) (by have hb := hbytes; simp only [Nat.zero_add] at hb; omega)
      rw [hr] at hr2
      injection hr2 with e1 _
      rw [e1]; exact .inr rfl
  · by_cases hroom : n + m ≤ cap
    · have hfit : n * i.size + news.length ≤ cur.size := by rw [hl, hcs, ← Nat.add_mul]; exact Nat.mul_le_mul_right _ hroom
      have hr2 := run_append_room (P := P) w t ty e i ht hi g n cap cur hg a m c news hl hnews h1 hroom hfit
      rw [hr] at hr2
      injection hr2 with e1 _
      rw [e1]; exact .inl rfl
    · have holds : ∀ j u, xs[j]? = some u → w.cell? ((⟨g, 0, none⟩ : Addr).add j) = some u := hown0.cells (g := g) rfl
      have hr2 := run_append_grow (P := P) w t ty e i z ht hi hz ⟨g, 0, none⟩ n cap xs hown0.1 holds a m c news hl hnews (by omega) (by omega) (growslice_fits (by omega) hbytes)
      rw [hr] at hr2
      injection hr2 with e1 _
      rw [e1]; exact .inr rfl

theorem wpList_append_blk {ops : Array Oper} {rest : List Oper} {o : Oper} {a : Act} {Q : Exit → Act → World → Prop} (hgd : o.guard = none) (s x : Operand) (t : TypeId)
    (ho : o.op = .call { callee := .builtin .append, args := #[s, x], argTypes := #[t, t] })
    (base : Nat) (e : TypeId) (i : TypeInfo) (z : Value) (size bytes : Nat) (ht : P.underlying t = some (.slice e)) (hi : P.info? e = some i) (hz : i.zero = some z)
    (hsize : i.size = size) (hby : i.bytes = bytes) (hzs : z.cells.size = size) (hsz : 0 < size)
    (v : Value) (n : Nat) (xs : List Value) (hs : a.eval s = v) (hown : w.ownsRow base e size v n xs)
    (ad : Addr) (m c : Nat) (news : List Value) (hx : a.eval x = .slice (some ad) m c) (hl : news.length = m * size) (hnews : ∀ j u, news[j]? = some u → w.cell? (ad.add j) = some u) (h1 : ∀ u ∈ news, u.oneCell' = true)
    (h63 : n + m ≤ maxLen) (hbytes : (n + m) * bytes ≤ 140737488355328) (hbase : base ≤ w.heap.size)
    (h : ∀ v' w', w'.ownsRow base e size v' (n + m) (xs ++ news) → w.grownBy w' v.ownBlock → (v'.ownBlock = v.ownBlock ∨ v'.ownBlock = some w.heap.size) → wpList P ops Q rest (a.put o.dst v') w') : wpList P ops Q (o :: rest) a w :=
  wpList_plain hgd fun K hK => by
    obtain ⟨v', w', hr, h2, h3, h4⟩ := run_append_blk (P := P) w base t o.type e i z size bytes ht hi hz hsize hby hzs hsz v n xs hown ad m c news hl hnews h1 h63 hbytes hbase
    unfold Oper.wp execOp
    simp only [ho, resolve, invoke, builtin, Sem.run_bind, Sem.run_pure, Result.andThen_ok, List.map_toArray, List.map_cons, List.map_nil, hs, hx, hr]
    exact hK _ _ (h v' w' h2 h3 h4)
end
end Go.Proofs.YtfkkodcppaakjaaGreatDoor
/- Rows of viewers in memory: one that a slice points to; one that the call itself owns. -/
namespace Go.Proofs.YtfkkodcppaakjaaGreatDoor
open Go Go.RowKit

/-- A name as Go's string. -/
def bs (l : List UInt8) : ByteArray := ⟨l.toArray⟩
theorem bs_list (l : List UInt8) : (bs l).data.toList = l := by simp [bs]
theorem bs_size (l : List UInt8) : (bs l).size = l.length := by simp [bs, ByteArray.size]
theorem bs_of (b : ByteArray) : bs b.data.toList = b := by simp [bs]
theorem bs_inj {x y : List UInt8} (h : bs x = bs y) : x = y := by rw [← bs_list x, h, bs_list]
def Vw.vals (x : Vw) : List Value := [.string (bs x.s), .int .u64 x.c]
def Vw.agg (x : Vw) : Value := .agg #[.string (bs x.s), .int .u64 x.c]
/-- Names that a program may hold, numbers of 64 bits. -/
def Fit64 (l : List Vw) : Prop := ∀ x ∈ l, x.c < 18446744073709551616 ∧ x.s.length ≤ maxLen
theorem fit64_nil : Fit64 [] := fun x hx => by simp at hx
theorem Fit64.filter {l : List Vw} (h : Fit64 l) (p : Vw → Bool) : Fit64 (l.filter p) := fun x hx => h x (List.mem_filter.1 hx).1
theorem Fit64.perm {l l' : List Vw} (h : Fit64 l) (hp : l'.Perm l) : Fit64 l' := fun x hx => h x (hp.mem_iff.1 hx)
def VwAt (w : World) (b o : Nat) (x : Vw) : Prop := w.cell? ⟨b, o, none⟩ = some (.string (bs x.s)) ∧ w.cell? ⟨b, o + 1, none⟩ = some (.int .u64 x.c)
/-- The slice at p holds these viewers. -/
def VwRow (w : World) (p : Option Addr) (xs : List Vw) : Prop := ∀ i (h : i < xs.length), ∃ b off, p = some ⟨b, off, none⟩ ∧ b < w.heap.size ∧ VwAt w b (off + i * 2) xs[i]
theorem VwAt.below {w W : World} {b o : Nat} {x : Vw} {B : Nat} (h : VwAt w b o x) (hb : Below B w W) (hlt : b < B) : VwAt W b o x :=
  ⟨(hb.cell (p := ⟨b, o, none⟩) hlt).trans h.1, (hb.cell (p := ⟨b, o + 1, none⟩) hlt).trans h.2⟩
theorem VwRow.at {w : World} {p : Option Addr} {xs : List Vw} (h : VwRow w p xs) (i : Nat) (hi : i < xs.length) : ∃ b off, p = some ⟨b, off, none⟩ ∧ b < w.heap.size ∧ ∀ W, Below w.heap.size w W → VwAt W b (off + i * 2) xs[i] := by
  obtain ⟨b, off, e, hlt, hc⟩ := h i hi
  exact ⟨b, off, e, hlt, fun W hb => hc.below hb hlt⟩
theorem VwRow.later {w W : World} {p : Option Addr} {xs : List Vw} (h : VwRow w p xs) (hb : Below w.heap.size w W) : VwRow W p xs := fun i hi => by
  obtain ⟨b, off, e, hlt, hc⟩ := h i hi
  exact ⟨b, off, e, Nat.lt_of_lt_of_le hlt hb.size, hc.below hb hlt⟩
theorem vwRow_nil (w : World) (p : Option Addr) : VwRow w p [] := fun _ hi => absurd hi (Nat.not_lt_zero _)
/-- The cells of a list of viewers. -/
def flat (xs : List Vw) : List Value := xs.flatMap Vw.vals
theorem flat_cons (x : Vw) (xs : List Vw) : flat (x :: xs) = x.vals ++ flat xs := by unfold flat; rw [List.flatMap_cons]
theorem flat_snoc (xs : List Vw) (x : Vw) : flat (xs ++ [x]) = flat xs ++ x.vals := by simp [flat]
theorem flat_len : ∀ xs : List Vw, (flat xs).length = xs.length * 2
  | [] => rfl
  | x :: xs => by
    rw [flat_cons, List.length_append, flat_len xs, List.length_cons]
    simp [Vw.vals]; omega
theorem flat_at : ∀ (xs : List Vw) (i j : Nat) (h : i < xs.length), j < 2 → (flat xs)[i * 2 + j]? = (xs[i].vals)[j]?
  | x :: xs, 0, j, _, hj => by
    rw [flat_cons, Nat.zero_mul, Nat.zero_add, List.getElem?_append_left (by simp [Vw.vals]; exact hj)]; rfl
  | x :: xs, i + 1, j, h, hj => by
    have ih := flat_at xs i j (Nat.lt_of_succ_lt_succ h) hj
    rw [flat_cons, List.getElem?_append_right (by simp [Vw.vals]; omega)]
    have e : (i + 1) * 2 + j - (x.vals).length = i * 2 + j := by simp [Vw.vals]; omega
    rw [e, ih]; rfl
theorem vw_owned {W : World} {B : Nat} {e : TypeId} {v : Value} {n : Nat} {xs : List Vw} (hn : xs.length = n) (h : W.ownsRow B e 2 v n (flat xs)) : ∃ p c, v = .slice p n c ∧ VwRow W p xs := by
  subst hn
  rcases h.2 with ⟨hv, h0⟩ | ⟨g, cap, cur, hv, _⟩
  · refine ⟨none, 0, by rw [hv, h0], fun i hi => ?_⟩
    omega
  · refine ⟨some ⟨g, 0, none⟩, cap, hv, fun i hi => ?_⟩
    subst hv
    have h0 := (h.cellAt (i * 2 + 0) (by omega)).trans (flat_at xs i 0 hi (by omega))
    have h1 := (h.cellAt (i * 2 + 1) (by omega)).trans (flat_at xs i 1 hi (by omega))
    have hlt := World.block_lt_of_cell? W _ (show W.cell? ⟨g, i * 2 + 0, none⟩ = some (.string (bs xs[i].s)) from h0)
    refine ⟨g, 0, rfl, hlt, ?_⟩
    rw [Nat.zero_add]
    exact ⟨h0, h1⟩
/-- Its own row, untouched by what only adds. -/
theorem ownsAny_later {w W : World} {B z : Nat} {e : TypeId} {v : Value} {n : Nat} {cs : List Value} (h : w.ownsRow B e z v n cs) (hb : Below w.heap.size w W) : W.ownsRow B e z v n cs := by
  refine ⟨h.1, ?_⟩
  rcases h.2 with h' | ⟨g, cap, cur, hv, hB, hg, rest⟩
  · exact .inl h'
  · have hlt : g < w.heap.size := (Array.getElem?_eq_some_iff.1 hg).1
    exact .inr ⟨g, cap, cur, hv, hB, by rw [hb.block g hlt]; exact hg, rest⟩
theorem vwInfo : (Tryz.prog.info? 81).map (fun i => (i.zero, i.size, i.bytes)) = some (some (.agg #[.string ⟨#[]⟩, .int .u64 0]), 2, 24) := by kernel_rfl
/-- A row of names that the call owns. -/
def nameVals (ns : List (List UInt8)) : List Value := ns.map fun x => .string (bs x)
theorem nameVals_len (ns : List (List UInt8)) : (nameVals ns).length = ns.length := by simp [nameVals]
theorem encStr_names (ns : List (List UInt8)) : ns.map encStr = nameVals ns := rfl
/-- The slice at p holds these names. -/
def NmRow (w : World) (p : Option Addr) (ns : List (List UInt8)) : Prop := ∀ i (h : i < ns.length), ∃ b off, p = some ⟨b, off, none⟩ ∧ b < w.heap.size ∧ w.cell? ⟨b, off + i, none⟩ = some (.string (bs ns[i]))
theorem NmRow.at {w : World} {p : Option Addr} {ns : List (List UInt8)} (h : NmRow w p ns) (i : Nat) (hi : i < ns.length) : ∃ b off, p = some ⟨b, off, none⟩ ∧ ∀ W, Below w.heap.size w W → W.cell? ⟨b, off + i, none⟩ = some (.string (bs ns[i])) := by
  obtain ⟨b, off, e, hlt, hc⟩ := h i hi
  exact ⟨b, off, e, fun W hb => (hb.cell (p := ⟨b, off + i, none⟩) hlt).trans hc⟩
theorem NmRow.later {w W : World} {p : Option Addr} {ns : List (List UInt8)} (h : NmRow w p ns) (hb : Below w.heap.size w W) : NmRow W p ns := fun i hi => by
  obtain ⟨b, off, e, hlt, hc⟩ := h i hi
  exact ⟨b, off, e, Nat.lt_of_lt_of_le hlt hb.size, (hb.cell (p := ⟨b, off + i, none⟩) hlt).trans hc⟩
theorem nm_owned {W : World} {B : Nat} {e : TypeId} {v : Value} {n : Nat} {ns : List (List UInt8)} (hn : ns.length = n) (h : W.ownsRow B e 1 v n (nameVals ns)) : ∃ p c, v = .slice p n c ∧ NmRow W p ns := by
  subst hn
  rcases h.2 with ⟨hv, h0⟩ | ⟨g, cap, cur, hv, _⟩
  · refine ⟨none, 0, by rw [hv, h0], fun i hi => ?_⟩
    omega
  · refine ⟨some ⟨g, 0, none⟩, cap, hv, fun i hi => ?_⟩
    subst hv
    have hc := h.cellAt i (by omega)
    unfold nameVals at hc
    rw [List.getElem?_map, List.getElem?_eq_getElem hi] at hc
    have hlt := World.block_lt_of_cell? W _ (show W.cell? ⟨g, i, none⟩ = some (.string (bs ns[i])) from hc)
    exact ⟨g, 0, rfl, hlt, by rw [Nat.zero_add]; exact hc⟩
end Go.Proofs.YtfkkodcppaakjaaGreatDoor
