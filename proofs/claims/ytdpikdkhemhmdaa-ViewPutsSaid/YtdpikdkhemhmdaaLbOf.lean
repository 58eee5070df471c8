/- The document's Of, by its contract; rows of numbers; lists of numbers compared. -/
import Derived.Test.YtdpikdkhemhmdaaLbBoth
namespace Go.Proofs.Ytdpikdkhemhmdaa
open Go.RowKit

/-- The slice at p holds these numbers. -/
def NumRow (k : IntKind) (w : World) (p : Option Addr) (xs : List Int) : Prop := ∀ i (h : i < xs.length), ∃ b off, p = some ⟨b, off, none⟩ ∧ b < w.heap.size ∧ w.cell? ⟨b, off + i, none⟩ = some (.int k xs[i])
theorem NumRow.at {kd : IntKind} {w : World} {p : Option Addr} {xs : List Int} (h : NumRow kd w p xs) (i : Nat) (hi : i < xs.length) : ∃ b off, p = some ⟨b, off, none⟩ ∧ b < w.heap.size ∧ ∀ W, Below w.heap.size w W → W.cell? ⟨b, off + i, none⟩ = some (.int kd xs[i]) := by
  obtain ⟨b, off, e, hlt, hc⟩ := h i hi
  exact ⟨b, off, e, hlt, fun W hb => (hb.cell (p := ⟨b, off + i, none⟩) hlt).trans hc⟩
theorem NumRow.later {kd : IntKind} {w W : World} {p : Option Addr} {xs : List Int} (h : NumRow kd w p xs) (hb : Below w.heap.size w W) : NumRow kd W p xs := fun i hi => by
  obtain ⟨b, off, e, hlt, hc⟩ := h i hi
  exact ⟨b, off, e, Nat.lt_of_lt_of_le hlt hb.size, (hb.cell (p := ⟨b, off + i, none⟩) hlt).trans hc⟩

theorem below_drewN' {B : Nat} {w W : World} (h : Below B w W) (q : Nat) : Below B w (W.drewN q) := ⟨h.os, h.tape, h.output, h.size, h.block⟩
end Go.Proofs.Ytdpikdkhemhmdaa
