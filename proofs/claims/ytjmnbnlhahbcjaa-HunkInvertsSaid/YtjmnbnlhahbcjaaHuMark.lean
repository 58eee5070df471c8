/- Lists lent by the laws, with a mark behind them. -/
import Derived.Test.YtjmnbnlhahbcjaaHuTwin
namespace Go.Proofs.Ytjmnbnlhahbcjaa
open Go Go.RowKit

theorem str_pre {w : World} {p : Option Addr} {xs ys : List Tx} (h : StrRow w p (xs ++ ys)) : StrRow w p xs := fun i hi => by
  obtain ⟨b, off, e, hlt, hc⟩ := h i (by rw [List.length_append]; omega)
  rw [List.getElem_append_left hi] at hc
  exact ⟨b, off, e, hlt, hc⟩
theorem own_ptr' {W : World} {B z : Nat} {e : TypeId} {v : Value} {n : Nat} {cs : List Value} (h : W.ownsRow B e z v n cs) (hn : 0 < n) : ∃ g cap, v = .slice (some ⟨g, 0, none⟩) n cap ∧ n ≤ cap ∧ B ≤ g ∧ g < W.heap.size := by
  rcases h.2 with ⟨_, h0⟩ | ⟨g, cap, cur, hv', hB, hg, hc, _⟩
  · omega
  · exact ⟨g, cap, hv', hc, hB, (Array.getElem?_eq_some_iff.1 hg).1⟩
def tMark : Tx := ⟨#[109, 97, 114, 107]⟩
theorem lit1 (w : World) (x : Tx) (T : TypeId) : StrRow (w.alloc (.cells #[.string x] T)) (some ⟨w.heap.size, 0, none⟩) [x] := fun i hi => by
  have : i = 0 := by simp at hi; omega
  subst this
  exact ⟨w.heap.size, 0, rfl, by simp, by simp⟩
/-- A list with a mark behind it, in a row of the call's own. -/
structure MarkRow (w : World) (B g c : Nat) (xs : List Tx) : Prop where
  own : w.ownsRow B 9 1 (.slice (some ⟨g, 0, none⟩) (xs.length + 1) c) (xs.length + 1) ((xs ++ [tMark]).map Value.string)
  cap : xs.length + 1 ≤ c
theorem MarkRow.later {w W : World} {B g c : Nat} {xs : List Tx} (h : MarkRow w B g c xs) (hb : Below w.heap.size w W) : MarkRow W B g c xs := ⟨row_later h.own hb, h.cap⟩
theorem MarkRow.txp {w : World} {B g c : Nat} {xs : List Tx} (h : MarkRow w B g c xs) : TxP w (some ⟨g, 0, none⟩) c xs := ⟨str_pre (row_at (by simp) h.own), (fun e => by cases e), by have := h.cap; omega⟩
theorem MarkRow.mark {w : World} {B g c : Nat} {xs : List Tx} (h : MarkRow w B g c xs) : w.cell? ⟨g, xs.length, none⟩ = some (.string tMark) := by
  have := h.own.cellAt xs.length (by omega)
  rw [List.getElem?_map, List.getElem?_append_right (Nat.le_refl _), Nat.sub_self] at this
  exact this
end Go.Proofs.Ytjmnbnlhahbcjaa
