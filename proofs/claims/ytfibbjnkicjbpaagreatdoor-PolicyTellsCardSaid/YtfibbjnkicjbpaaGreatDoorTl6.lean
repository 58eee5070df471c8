/- Texts of the proof, merged: VwRow, Name. -/
import Derived.Test.YtfibbjnkicjbpaaGreatDoorTl3
import Derived.Test.YtfibbjnkicjbpaaGreatDoorTl4
import Derived.Test.YtfibbjnkicjbpaaGreatDoorTl5
import Derived.Deep.Slices
import Derived.Deep.Fields
import Derived.Deep.QuietTactic
import Derived.Laws.AppendOwnNone
/- Rows of viewers in memory: one that a slice points to; one that the call itself owns. -/
namespace Go.Proofs.YtfibbjnkicjbpaaGreatDoor
open Go Go.RowKit

/-- A name as Go's string. -/
def bs (l : List UInt8) : ByteArray := ⟨l.toArray⟩
theorem bs_list (l : List UInt8) : (bs l).data.toList = l := by simp [bs]
theorem bs_size (l : List UInt8) : (bs l).size = l.length := by simp [bs, ByteArray.size]
theorem bs_of (b : ByteArray) : bs b.data.toList = b := by simp [bs]
theorem bs_inj {x y : List UInt8} (h : bs x = bs y) : x = y := by rw [← bs_list x, h, bs_list]
def Vw.vals (x : Vw) : List Value := [.string (bs x.s), .int .u64 x.c]
def Vw.agg (x : Vw) : Value := .agg #[.string (bs x.s), .int .u64 x.c]
/-- Names that a program may hold, numbers of 64 bits. -/
def Fit64 (l : List Vw) : Prop := ∀ x ∈ l, x.c < 18446744073709551616 ∧ x.s.length ≤ maxLen
theorem fit64_nil : Fit64 [] := fun x hx => by simp at hx
theorem Fit64.filter {l : List Vw} (h : Fit64 l) (p : Vw → Bool) : Fit64 (l.filter p) := fun x hx => h x (List.mem_filter.1 hx).1
theorem Fit64.perm {l l' : List Vw} (h : Fit64 l) (hp : l'.Perm l) : Fit64 l' := fun x hx => h x (hp.mem_iff.1 hx)
def VwAt (w : World) (b o : Nat) (x : Vw) : Prop := w.cell? ⟨b, o, none⟩ = some (.string (bs x.s)) ∧ w.cell? ⟨b, o + 1, none⟩ = some (.int .u64 x.c)
/-- The slice at p holds these viewers. -/
def VwRow (w : World) (p : Option Addr) (xs : List Vw) : Prop := ∀ i (h : i < xs.length), ∃ b off, p = some ⟨b, off, none⟩ ∧ b < w.heap.size ∧ VwAt w b (off + i * 2) xs[i]
theorem VwAt.below {w W : World} {b o : Nat} {x : Vw} {B : Nat} (h : VwAt w b o x) (hb : Below B w W) (hlt : b < B) : VwAt W b o x :=
  ⟨(hb.cell (p := ⟨b, o, none⟩) hlt).trans h.1, (hb.cell (p := ⟨b, o + 1, none⟩) hlt).trans h.2⟩
theorem VwRow.at {w : World} {p : Option Addr} {xs : List Vw} (h : VwRow w p xs) (i : Nat) (hi : i < xs.length) : ∃ b off, p = some ⟨b, off, none⟩ ∧ b < w.heap.size ∧ ∀ W, Below w.heap.size w W → VwAt W b (off + i * 2) xs[i] := by
  obtain ⟨b, off, e, hlt, hc⟩ := h i hi
  exact ⟨b, off, e, hlt, fun W hb => hc.below hb hlt⟩
theorem VwRow.later {w W : World} {p : Option Addr} {xs : List Vw} (h : VwRow w p xs) (hb : Below w.heap.size w W) : VwRow W p xs := fun i hi => by
  obtain ⟨b, off, e, hlt, hc⟩ := h i hi
  exact ⟨b, off, e, Nat.lt_of_lt_of_le hlt hb.size, hc.below hb hlt⟩
theorem vwRow_nil (w : World) (p : Option Addr) : VwRow w p [] := fun _ hi => absurd hi (Nat.not_lt_zero _)
/-- The cells of a list of viewers. -/
def flat (xs : List Vw) : List Value := xs.flatMap Vw.vals
theorem flat_cons (x : Vw) (xs : List Vw) : flat (x :: xs) = x.vals ++ flat xs := by unfold flat; rw [List.flatMap_cons]
theorem flat_snoc (xs : List Vw) (x : Vw) : flat (xs ++ [x]) = flat xs ++ x.vals := by simp [flat]
theorem flat_len : ∀ xs : List Vw, (flat xs).length = xs.length * 2
  | [] => rfl
  | x :: xs => by
    rw [flat_cons, List.length_append, flat_len xs, List.length_cons]
    simp [Vw.vals]; omega
theorem flat_at : ∀ (xs : List Vw) (i j : Nat) (h : i < xs.length), j < 2 → (flat xs)[i * 2 + j]? = (xs[i].vals)[j]?
  | x :: xs, 0, j, _, hj => by
    rw [flat_cons, Nat.zero_mul, Nat.zero_add, List.getElem?_append_left (by simp [Vw.vals]; exact hj)]; rfl
  | x :: xs, i + 1, j, h, hj => by
    have ih := flat_at xs i j (Nat.lt_of_succ_lt_succ h) hj
    rw [flat_cons, List.getElem?_append_right (by simp [Vw.vals]; omega)]
    have e : (i + 1) * 2 + j - (x.vals).length = i * 2 + j := by simp [Vw.vals]; omega
    rw [e, ih]; rfl
theorem vw_owned {W : World} {B : Nat} {e : TypeId} {v : Value} {n : Nat} {xs : List Vw} (hn : xs.length = n) (h : W.ownsRow B e 2 v n (flat xs)) : ∃ p c, v = .slice p n c ∧ VwRow W p xs := by
  subst hn
  rcases h.2 with ⟨hv, h0⟩ | ⟨g, cap, cur, hv, _⟩
  · refine ⟨none, 0, by rw [hv, h0], fun i hi => ?_⟩
    omega
  · refine ⟨some ⟨g, 0, none⟩, cap, hv, fun i hi => ?_⟩
    subst hv
    have h0 := (h.cellAt (i * 2 + 0) (by omega)).trans (flat_at xs i 0 hi (by omega))
    have h1 := (h.cellAt (i * 2 + 1) (by omega)).trans (flat_at xs i 1 hi (by omega))
    have hlt := World.block_lt_of_cell? W _ (show W.cell? ⟨g, i * 2 + 0, none⟩ = some (.string (bs xs[i].s)) from h0)
    refine ⟨g, 0, rfl, hlt, ?_⟩
    rw [Nat.zero_add]
    exact ⟨h0, h1⟩
/-- Its own row, untouched by what only adds. -/
theorem ownsAny_later {w W : World} {B z : Nat} {e : TypeId} {v : Value} {n : Nat} {cs : List Value} (h : w.ownsRow B e z v n cs) (hb : Below w.heap.size w W) : W.ownsRow B e z v n cs := by
  refine ⟨h.1, ?_⟩
  rcases h.2 with h' | ⟨g, cap, cur, hv, hB, hg, rest⟩
  · exact .inl h'
  · have hlt : g < w.heap.size := (Array.getElem?_eq_some_iff.1 hg).1
    exact .inr ⟨g, cap, cur, hv, hB, by rw [hb.block g hlt]; exact hg, rest⟩
theorem vwInfo : (Tryz.prog.info? 40).map (fun i => (i.zero, i.size, i.bytes)) = some (some (.agg #[.string ⟨#[]⟩, .int .u64 0]), 2, 24) := by kernel_rfl
/-- A row of names that the call owns. -/
def nameVals (ns : List (List UInt8)) : List Value := ns.map fun x => .string (bs x)
theorem nameVals_len (ns : List (List UInt8)) : (nameVals ns).length = ns.length := by simp [nameVals]
theorem encStr_names (ns : List (List UInt8)) : ns.map encStr = nameVals ns := rfl
/-- The slice at p holds these names. -/
def NmRow (w : World) (p : Option Addr) (ns : List (List UInt8)) : Prop := ∀ i (h : i < ns.length), ∃ b off, p = some ⟨b, off, none⟩ ∧ b < w.heap.size ∧ w.cell? ⟨b, off + i, none⟩ = some (.string (bs ns[i]))
theorem NmRow.at {w : World} {p : Option Addr} {ns : List (List UInt8)} (h : NmRow w p ns) (i : Nat) (hi : i < ns.length) : ∃ b off, p = some ⟨b, off, none⟩ ∧ ∀ W, Below w.heap.size w W → W.cell? ⟨b, off + i, none⟩ = some (.string (bs ns[i])) := by
  obtain ⟨b, off, e, hlt, hc⟩ := h i hi
  exact ⟨b, off, e, fun W hb => (hb.cell (p := ⟨b, off + i, none⟩) hlt).trans hc⟩
theorem NmRow.later {w W : World} {p : Option Addr} {ns : List (List UInt8)} (h : NmRow w p ns) (hb : Below w.heap.size w W) : NmRow W p ns := fun i hi => by
  obtain ⟨b, off, e, hlt, hc⟩ := h i hi
  exact ⟨b, off, e, Nat.lt_of_lt_of_le hlt hb.size, (hb.cell (p := ⟨b, off + i, none⟩) hlt).trans hc⟩
theorem nm_owned {W : World} {B : Nat} {e : TypeId} {v : Value} {n : Nat} {ns : List (List UInt8)} (hn : ns.length = n) (h : W.ownsRow B e 1 v n (nameVals ns)) : ∃ p c, v = .slice p n c ∧ NmRow W p ns := by
  subst hn
  rcases h.2 with ⟨hv, h0⟩ | ⟨g, cap, cur, hv, _⟩
  · refine ⟨none, 0, by rw [hv, h0], fun i hi => ?_⟩
    omega
  · refine ⟨some ⟨g, 0, none⟩, cap, hv, fun i hi => ?_⟩
    subst hv
    have hc := h.cellAt i (by omega)
    unfold nameVals at hc
    rw [List.getElem?_map, List.getElem?_eq_getElem hi] at hc
    have hlt := World.block_lt_of_cell? W _ (show W.cell? ⟨g, i, none⟩ = some (.string (bs ns[i])) from hc)
    exact ⟨g, 0, rfl, hlt, by rw [Nat.zero_add]; exact hc⟩
end Go.Proofs.YtfibbjnkicjbpaaGreatDoor
/- lines.Name, by its contract. -/
namespace Go.Proofs.YtfibbjnkicjbpaaGreatDoor
open Go.RowKit

/-- 'foreign', as ContainsFunc asks it. -/
theorem foreign_at (w : World) : Go.Proofs.PredAt Tryz.prog 59 #[] Go.Proofs.encR foreignR w := fun W r _ => by
  unfold FnGives
  rcases (by omega : r < 45 ∨ r = 45 ∨ (45 < r ∧ r < 48) ∨ (48 ≤ r ∧ r ≤ 57) ∨ (57 < r ∧ r < 95) ∨ r = 95 ∨ r = 96 ∨ (97 ≤ r ∧ r ≤ 122) ∨ 122 < r) with h | h | ⟨h, g⟩ | ⟨h, g⟩ | ⟨h, g⟩ | h | h | ⟨h, g⟩ | h
  all_goals
    obtain ⟨b, hb⟩ : ∃ b, foreignR r = b := ⟨_, rfl⟩
    have he := Lib.hid hb
    rw [hb]; clear hb
    go_enter Tryz.func59, Tryz.ntmps59
    go_wp2
    go_ret
    have hf := he.out
    unfold foreignR at hf
    exact ⟨ret_bool (by rw [← hf, Bool.eq_iff_iff]; simp; omega), 0, rfl⟩

set_option maxHeartbeats 400000 in
theorem name_any (s : ByteArray) (w : World) (hs : s.size ≤ maxLen) :
    Calls Tryz.prog 31 #[.string s] w fun e w' => e = .returned (.bool (nameL s.data.toList)) ∧ Below w.heap.size w w' := by
  unfold maxLen at hs
  have hC := fun W => Tryz.strings_ContainsFunc 59 #[] (enters_of Tryz.func59 (by kernel_rfl) rfl) foreignR s W (foreign_at W)
  by_cases h0 : 1 ≤ s.size
  · obtain ⟨hne, hne2⟩ := bytes_some s h0
    by_cases h : s.size ≤ 32
    · have he := Lib.hid (name_short s h0 h)
      obtain ⟨b, hb⟩ : ∃ b, Lib.idxFunc foreignR true s = b := ⟨_, rfl⟩
      rw [hb] at hC he
      clear hb
      go_enter Tryz.func31, Tryz.ntmps31
      go_wp2_with (go_at_call 58; refine (hC _).mono ?_; rintro e w' ⟨rfl, hb⟩)
      go_ret
      exact ⟨ret_bool he.out.symm, hb⟩
    · have he := Lib.hid (name_long s h)
      clear hC
      go_enter Tryz.func31, Tryz.ntmps31
      go_wp2
      go_ret
      exact ⟨ret_bool he.out.symm, Below.refl _ _⟩
  · have he := Lib.hid (name_empty s h0)
    clear hC
    obtain ⟨hne, hne2⟩ := bytes_none s h0
    go_enter Tryz.func31, Tryz.ntmps31
    go_wp2
    go_ret
    exact ⟨ret_bool he.out.symm, Below.refl _ _⟩
end Go.Proofs.YtfibbjnkicjbpaaGreatDoor
