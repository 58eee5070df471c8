/- What Highest answers, plainly; rows of labels. -/
import Derived.Test.YtglpkadpohbfmaaLbLists
import Derived.Deep.RegionHeld3
namespace Go.Proofs.Ytglpkadpohbfmaa
open Go.RowKit

/-- Does the k-th label say that the i-th is none of the highest? -/
def badB (ns : List Nat) (i k : Nat) : Bool := (!(ns.getD k 0 == ns.getD i 0) && belowB (ns.getD i 0) (ns.getD k 0)) || (decide (k < i) && ns.getD k 0 == ns.getD i 0)
def highTo (ns : List Nat) (i k : Nat) : Bool := (List.range k).all fun j => !badB ns i j
theorem highTo_step (ns : List Nat) (i k : Nat) : highTo ns i (k + 1) = (highTo ns i k && !badB ns i k) := by
  unfold highTo
  rw [List.range_succ, List.all_append]; simp
def highestTo (ns : List Nat) (m : Nat) : List Nat := ((List.range m).filter fun i => highTo ns i ns.length).map fun i => ns.getD i 0
theorem highestTo_step (ns : List Nat) (m : Nat) : highestTo ns (m + 1) = if highTo ns m ns.length then highestTo ns m ++ [ns.getD m 0] else highestTo ns m := by
  unfold highestTo
  rw [List.range_succ, List.filter_append]
  cases h : highTo ns m ns.length <;> simp [h]
theorem highestTo_len (ns : List Nat) (m : Nat) : (highestTo ns m).length ≤ m := by
  unfold highestTo
  rw [List.length_map]
  exact Nat.le_trans (List.length_filter_le _ _) (by simp)

/-- The slice at p holds these labels. -/
def LabRow (w : World) (p : Option Addr) (ns : List Nat) : Prop := ∀ i (_ : i < ns.length), ∃ b off, p = some ⟨b, off, none⟩ ∧ b < w.heap.size ∧ w.cell? ⟨b, off + i, none⟩ = some (.int .u64 (ns.getD i 0 : Nat))
theorem LabRow.at {w : World} {p : Option Addr} {ns : List Nat} (h : LabRow w p ns) (i : Nat) (hi : i < ns.length) : ∃ b off, p = some ⟨b, off, none⟩ ∧ b < w.heap.size ∧ ∀ W, Below w.heap.size w W → W.cell? ⟨b, off + i, none⟩ = some (.int .u64 (ns.getD i 0 : Nat)) := by
  obtain ⟨b, off, e, hlt, hc⟩ := h i hi
  exact ⟨b, off, e, hlt, fun W hb => (hb.cell (p := ⟨b, off + i, none⟩) hlt).trans hc⟩

def TwoC (w : World) (p q : Addr) (x y : Value) (W : World) : Prop := W.cell? p = some x ∧ W.cell? q = some y ∧ Below w.heap.size w W
theorem twoCKeep {w W W' : World} {p q : Addr} {x y : Value} (hb : Below W.heap.size W W') (h : TwoC w p q x y W) : TwoC w p q x y W' :=
  ⟨(hb.cell (World.block_lt_of_cell? W _ h.1)).trans h.1, (hb.cell (World.block_lt_of_cell? W _ h.2.1)).trans h.2.1, Below.trans h.2.2 (hb.mono (Below.size h.2.2))⟩
theorem twoCEnd {w W : World} {p q : Addr} {x y : Value} (h : TwoC w p q x y W) : Below w.heap.size w W := h.2.2
theorem twoCDrew {w W : World} {p q : Addr} {x y : Value} (h : TwoC w p q x y W) : TwoC w p q x y W.drew := ⟨h.1, h.2.1, Below.drew h.2.2⟩

end Go.Proofs.Ytglpkadpohbfmaa
