/- Rows of labels in memory. -/
import Derived.Test.YtdpikdkhemhmdaaBase
import Derived.Test.YtdpikdkhemhmdaaOwnAppend
import Derived.Test.YtdpikdkhemhmdaaSrLess
import Derived.Below
namespace Go.Proofs.Ytdpikdkhemhmdaa
open Go Go.RowKit

/-- A list of labels that a slice points to. -/
def LabRow (w : World) (p : Option Addr) (cs : List Nat) : Prop := ∀ i (h : i < cs.length), ∃ b off, p = some ⟨b, off, none⟩ ∧ b < w.heap.size ∧ w.cell? ⟨b, off + i, none⟩ = some (.int .u64 cs[i])
theorem LabRow.at {w : World} {p : Option Addr} {cs : List Nat} (h : LabRow w p cs) (i : Nat) (hi : i < cs.length) : ∃ b off, p = some ⟨b, off, none⟩ ∧ b < w.heap.size ∧ ∀ W, Below w.heap.size w W → W.cell? ⟨b, off + i, none⟩ = some (.int .u64 cs[i]) := by
  obtain ⟨b, off, e, hlt, hc⟩ := h i hi
  exact ⟨b, off, e, hlt, fun W hb => (hb.cell (p := ⟨b, off + i, none⟩) hlt).trans hc⟩
theorem LabRow.later {w W : World} {p : Option Addr} {cs : List Nat} (h : LabRow w p cs) (hb : Below w.heap.size w W) : LabRow W p cs := fun i hi => by
  obtain ⟨b, off, e, hlt, hc⟩ := h i hi
  exact ⟨b, off, e, Nat.lt_of_lt_of_le hlt hb.size, (hb.cell (p := ⟨b, off + i, none⟩) hlt).trans hc⟩
def labVals (cs : List Nat) : List Value := cs.map lbV
theorem labVals_len (cs : List Nat) : (labVals cs).length = cs.length := by simp [labVals]
theorem labVals_snoc (cs : List Nat) (c : Nat) : labVals (cs ++ [c]) = labVals cs ++ [lbV c] := by simp [labVals]
theorem lab_owned {W : World} {B : Nat} {e : TypeId} {v : Value} {n : Nat} {cs : List Nat} (hn : cs.length = n) (h : W.ownsRow B e 1 v n (labVals cs)) : ∃ p c, v = .slice p n c ∧ LabRow W p cs := by
  subst hn
  rcases h.2 with ⟨hv, h0⟩ | ⟨g, cap, cur, hv, _⟩
  · refine ⟨none, 0, by rw [hv, h0], fun i hi => ?_⟩
    omega
  · refine ⟨some ⟨g, 0, none⟩, cap, hv, fun i hi => ?_⟩
    subst hv
    have hc := h.cellAt i (by omega)
    unfold labVals at hc
    rw [List.getElem?_map, List.getElem?_eq_getElem hi] at hc
    have hlt := World.block_lt_of_cell? W _ (show W.cell? ⟨g, i, none⟩ = some (.int .u64 cs[i]) from hc)
    exact ⟨g, 0, rfl, hlt, by rw [Nat.zero_add]; exact hc⟩
end Go.Proofs.Ytdpikdkhemhmdaa
