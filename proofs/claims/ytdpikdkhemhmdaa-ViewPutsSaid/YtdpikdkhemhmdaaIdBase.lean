/- Lines as plain data, their rows in memory, identities as keys of a map. -/
import Derived.Test.YtdpikdkhemhmdaaRows
import Derived.WalkKit
import Derived.WalkSpells
import Derived.WalkLawsBesides
import Derived.Lib.Hide
import Derived.Lib.SmallJoins
import Derived.Deep.Slices
import Derived.Deep.Fields
import Derived.Deep.RegionHeld3
import Derived.BigQuiet
import Derived.ChangeSame
import Derived.StillTactics
import Derived.OwnWalk
import Derived.OpenShut
import Derived.Deep.LoopGhost
import Derived.Deep.QuietTactic
import Derived.Laws.AppendOwnNone
namespace Go.Proofs.Ytdpikdkhemhmdaa
open Go Go.RowKit

/-- A line: its label as a number, N, Rev, text. -/
structure Li where
  u : Nat
  n : Int
  r : Int
  s : ByteArray
theorem retI {k : IntKind} {a b : Int} (h : a = b) : Ending.returned (.int k a) = .returned (.int k b) := by rw [h]
instance : Inhabited Li := ⟨⟨0, 0, 0, ByteArray.empty⟩⟩
def Li.agg (x : Li) : Value := .agg #[.int .u64 x.u, .int .i64 x.n, .int .i64 x.r, .string x.s]
def Li.vals (x : Li) : List Value := [.int .u64 x.u, .int .i64 x.n, .int .i64 x.r, .string x.s]
/-- What makes a line that line. -/
def Li.id (x : Li) : Nat × Int := (x.u, x.n)
/-- Cells that Go can hold. -/
structure LiOk (x : Li) : Prop where
  u : x.u < 18446744073709551616
  n : (Lit.int .i64 x.n).wf = true
  r : (Lit.int .i64 x.r).wf = true
  s : x.s.size ≤ maxLen
def LiAt (w : World) (b o : Nat) (x : Li) : Prop := w.cell? ⟨b, o, none⟩ = some (.int .u64 x.u) ∧ w.cell? ⟨b, o + 1, none⟩ = some (.int .i64 x.n) ∧ w.cell? ⟨b, o + 2, none⟩ = some (.int .i64 x.r) ∧ w.cell? ⟨b, o + 3, none⟩ = some (.string x.s)
/-- The slice at p holds these lines. -/
def LiRow (w : World) (p : Option Addr) (xs : List Li) : Prop := ∀ i (h : i < xs.length), ∃ b off, p = some ⟨b, off, none⟩ ∧ b < w.heap.size ∧ LiAt w b (off + i * 4) xs[i]
theorem LiAt.below {w W : World} {b o : Nat} {x : Li} {B : Nat} (h : LiAt w b o x) (hb : Below B w W) (hlt : b < B) : LiAt W b o x :=
  ⟨(hb.cell (p := ⟨b, o, none⟩) hlt).trans h.1, (hb.cell (p := ⟨b, o + 1, none⟩) hlt).trans h.2.1, (hb.cell (p := ⟨b, o + 2, none⟩) hlt).trans h.2.2.1, (hb.cell (p := ⟨b, o + 3, none⟩) hlt).trans h.2.2.2⟩
theorem LiRow.at {w : World} {p : Option Addr} {xs : List Li} (h : LiRow w p xs) (i : Nat) (hi : i < xs.length) : ∃ b off, p = some ⟨b, off, none⟩ ∧ b < w.heap.size ∧ ∀ W, Below w.heap.size w W → LiAt W b (off + i * 4) xs[i] := by
  obtain ⟨b, off, e, hlt, hc⟩ := h i hi
  exact ⟨b, off, e, hlt, fun W hb => hc.below hb hlt⟩
theorem LiRow.later {w W : World} {p : Option Addr} {xs : List Li} (h : LiRow w p xs) (hb : Below w.heap.size w W) : LiRow W p xs := fun i hi => by
  obtain ⟨b, off, e, hlt, hc⟩ := h i hi
  exact ⟨b, off, e, Nat.lt_of_lt_of_le hlt hb.size, hc.below hb hlt⟩
theorem liRow_nil (w : World) (p : Option Addr) : LiRow w p [] := fun _ hi => absurd hi (Nat.not_lt_zero _)
theorem liInfo : (Try.prog.info? 26).map (fun i => (i.zero, i.size, i.bytes)) = some (some (.agg #[.int .u64 0, .int .i64 0, .int .i64 0, .string ⟨#[]⟩]), 4, 40) := by kernel_rfl
theorem addrAdd (b off i : Nat) : (⟨b, off, none⟩ : Addr).add i = ⟨b, off + i, none⟩ := by
  unfold Addr.add
  by_cases h : i = 0
  · subst h; rfl
  · simp [h]
/-- The cells of a list of lines. -/
def liCells (xs : List Li) : List Value := xs.flatMap Li.vals
theorem liCells_cons (x : Li) (xs : List Li) : liCells (x :: xs) = x.vals ++ liCells xs := by unfold liCells; rw [List.flatMap_cons]
theorem liCells_snoc (xs : List Li) (x : Li) : liCells (xs ++ [x]) = liCells xs ++ x.vals := by simp [liCells]
theorem liCells_len : ∀ xs : List Li, (liCells xs).length = xs.length * 4
  | [] => rfl
  | x :: xs => by
    rw [liCells_cons, List.length_append, liCells_len xs, List.length_cons]
    simp [Li.vals]; omega
theorem liCells_at : ∀ (xs : List Li) (i j : Nat) (h : i < xs.length), j < 4 → (liCells xs)[i * 4 + j]? = (xs[i].vals)[j]?
  | x :: xs, 0, j, _, hj => by
    rw [liCells_cons, Nat.zero_mul, Nat.zero_add, List.getElem?_append_left (by simp [Li.vals]; exact hj)]; rfl
  | x :: xs, i + 1, j, h, hj => by
    have ih := liCells_at xs i j (Nat.lt_of_succ_lt_succ h) hj
    rw [liCells_cons, List.getElem?_append_right (by simp [Li.vals]; omega)]
    have e : (i + 1) * 4 + j - (x.vals).length = i * 4 + j := by simp [Li.vals]; omega
    rw [e, ih]; rfl
theorem li_owned {W : World} {B : Nat} {e : TypeId} {v : Value} {n : Nat} {xs : List Li} (hn : xs.length = n) (h : W.ownsRow B e 4 v n (liCells xs)) : ∃ p c, v = .slice p n c ∧ LiRow W p xs := by
  subst hn
  rcases h.2 with ⟨hv, h0⟩ | ⟨g, cap, cur, hv, _⟩
  · refine ⟨none, 0, by rw [hv, h0], fun i hi => ?_⟩
    omega
  · refine ⟨some ⟨g, 0, none⟩, cap, hv, fun i hi => ?_⟩
    subst hv
    have h0 := (h.cellAt (i * 4 + 0) (by omega)).trans (liCells_at xs i 0 hi (by omega))
    have h1 := (h.cellAt (i * 4 + 1) (by omega)).trans (liCells_at xs i 1 hi (by omega))
    have h2 := (h.cellAt (i * 4 + 2) (by omega)).trans (liCells_at xs i 2 hi (by omega))
    have h3 := (h.cellAt (i * 4 + 3) (by omega)).trans (liCells_at xs i 3 hi (by omega))
    have hlt := World.block_lt_of_cell? W _ (show W.cell? ⟨g, i * 4 + 0, none⟩ = some (.int .u64 xs[i].u) from h0)
    refine ⟨g, 0, rfl, hlt, ?_⟩
    rw [Nat.zero_add]
    exact ⟨h0, h1, h2, h3⟩

/-- A row of the call's own, untouched by what only adds. -/
theorem row_later {w W : World} {B z : Nat} {e : TypeId} {v : Value} {n : Nat} {cs : List Value} (h : w.ownsRow B e z v n cs) (hb : Below w.heap.size w W) : W.ownsRow B e z v n cs := by
  refine ⟨h.1, ?_⟩
  rcases h.2 with h' | ⟨g, cap, cur, hv, hB, hg, rest⟩
  · exact .inl h'
  · have hlt : g < w.heap.size := (Array.getElem?_eq_some_iff.1 hg).1
    exact .inr ⟨g, cap, cur, hv, hB, by rw [hb.block g hlt]; exact hg, rest⟩
end Go.Proofs.Ytdpikdkhemhmdaa
