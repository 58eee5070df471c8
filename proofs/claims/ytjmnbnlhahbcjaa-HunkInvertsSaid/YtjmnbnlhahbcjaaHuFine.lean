/- The document's fine, and lines.Text: may a text be a line's? A place behind a hunk. -/
import Derived.Test.YtjmnbnlhahbcjaaHuRows
import Derived.Test.YtjmnbnlhahbcjaaText
import Derived.Deep.LoopGhost
namespace Go.Proofs.Ytjmnbnlhahbcjaa
open Go Go.RowKit

set_option maxHeartbeats 400000 in
theorem fine_any (s : ByteArray) (w : World) (hs : s.size ≤ maxLen) :
    Calls Try.prog 64 #[.string s] w fun e w' => e = .returned (.bool (textL s.data.toList)) ∧ w = w' := by
  unfold maxLen at hs
  go_enter Try.func64, Try.ntmps64
  by_cases h : s.size ≤ 256
  · go_wp2
    go_loop [3] (fun i => ∃ k : Nat, k ≤ s.size ∧ i = .int .i64 k ∧ No10 s k) (fun i => s.size - (intOf i).toNat)
    case atStart => exact ⟨0, Nat.zero_le _, rfl, no10_start s⟩
    case round =>
      obtain ⟨k, hk, rfl, hn⟩ := hrel
      by_cases hlt : k < s.size
      · cases hb : ((s[k].toNat : Int) == 10)
        · have hn' := Lib.hid (no10_step s k hlt hn hb)
          go_wp2
          go_round
          case rel => exact ⟨k + 1, by omega, by go_num, hn'.out⟩
          case measure => simp [intOf]; omega
        · have he := Lib.hid (no10_hit s k hlt hb)
          go_wp2
          go_ret
          exact ⟨ret_bool he.out.symm, rfl⟩
      · obtain rfl : k = s.size := by omega
        have he := Lib.hid ((no10_end s hn).trans (decide_eq_true (by omega)))
        go_wp2
        go_ret
        exact ⟨ret_bool he.out.symm, rfl⟩
  · have he := Lib.hid (text_long s h)
    go_wp2
    go_ret
    exact ⟨ret_bool he.out.symm, rfl⟩
set_option maxRecDepth 100000 in
theorem behind_any (w : World) (ps : Int) (p1 p2 : Option Addr) (lo ln c1 c2 : Nat) :
    Calls Try.prog 66 #[.agg #[.int .i64 ps, .slice p1 lo c1, .slice p2 ln c2]] w fun e w' => e = .returned (.int .i64 (wrap64 (ps + (lo : Int)))) ∧ Below w.heap.size w w' := by
  go_enter Try.func66, Try.ntmps66
  go_wp2_with fail
  go_ret
  exact ⟨rfl, (Below.refl _ _).alloc (Nat.le_refl _) _⟩
/-- A hunk's box. -/
def BoxU (W : World) (g : Nat) (ps : Int) (p1 : Option Addr) (lo c1 : Nat) (p2 : Option Addr) (ln c2 : Nat) : Prop := W.heap[g]? = some (.cells #[.int .i64 ps, .slice p1 lo c1, .slice p2 ln c2] 47 (0, 0))
theorem boxU_new (w : World) (ps : Int) (p1 : Option Addr) (lo c1 : Nat) (p2 : Option Addr) (ln c2 g : Nat) (hg : w.heap.size = g := by rfl) : BoxU (w.alloc (.cells #[.int .i64 ps, .slice p1 lo c1, .slice p2 ln c2] 47)) g ps p1 lo c1 p2 ln c2 := by
  subst hg
  exact heap_alloc_new w _
theorem BoxU.later {W W' : World} {g : Nat} {ps : Int} {p1 : Option Addr} {lo c1 : Nat} {p2 : Option Addr} {ln c2 : Nat} (h : BoxU W g ps p1 lo c1 p2 ln c2) (hb : Below W.heap.size W W') : BoxU W' g ps p1 lo c1 p2 ln c2 := (hb.block g (Array.getElem?_eq_some_iff.1 h).1).trans h
theorem BoxU.kept {W W' : World} {g : Nat} {ps : Int} {p1 : Option Addr} {lo c1 : Nat} {p2 : Option Addr} {ln c2 : Nat} {row : Option Nat} (h : BoxU W g ps p1 lo c1 p2 ln c2) (hg : W.grownBy W' row) (hne : some g ≠ row) : BoxU W' g ps p1 lo c1 p2 ln c2 := (hg.block g (Array.getElem?_eq_some_iff.1 h).1 hne).trans h
theorem BoxU.cells {W : World} {g : Nat} {ps : Int} {p1 : Option Addr} {lo c1 : Nat} {p2 : Option Addr} {ln c2 : Nat} (h : BoxU W g ps p1 lo c1 p2 ln c2) : W.cell? ⟨g, 0, none⟩ = some (.int .i64 ps) ∧ W.cell? ⟨g, 1, none⟩ = some (.slice p1 lo c1) ∧ W.cell? ⟨g, 2, none⟩ = some (.slice p2 ln c2) := by
  refine ⟨?_, ?_, ?_⟩ <;> simp [World.cell?, show W.heap[g]? = _ from h]
theorem BoxU.lt {W : World} {g : Nat} {ps : Int} {p1 : Option Addr} {lo c1 : Nat} {p2 : Option Addr} {ln c2 : Nat} (h : BoxU W g ps p1 lo c1 p2 ln c2) : g < W.heap.size := (Array.getElem?_eq_some_iff.1 h).1
theorem fine_hit {xs : List Tx} {k : Nat} (hk : k < xs.length) (h : fineT xs[k] = false) : xs.all fineT = false := by
  rw [List.all_eq_false]; exact ⟨xs[k], List.getElem_mem hk, by simp [h]⟩
theorem fine_all {xs : List Tx} (h : ∀ j (hj : j < xs.length), fineT xs[j] = true) : xs.all fineT = true := by
  rw [List.all_eq_true]
  intro x hx
  obtain ⟨j, hj, rfl⟩ := List.mem_iff_getElem.1 hx
  exact h j hj
end Go.Proofs.Ytjmnbnlhahbcjaa
