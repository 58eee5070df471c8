/- lines.Check by its contract; the law LinesChecks by a walk over the contracts. -/
import Derived.Test.YtbhgeikijifbgaaChecks2
import Derived.Deep.RegionHeld3
import Derived.StillTactics
import Derived.OwnWalk
namespace Go.Proofs.Ytbhgeikijifbgaa
open Go.RowKit

set_option maxHeartbeats 1000000 in
theorem check_any (u n r : Int) (s : ByteArray) (w : World) (hs : s.size ≤ maxLen) :
    Calls Try.prog 5 #[.agg #[.int .u64 u, .int .i64 n, .int .i64 r, .string s]] w fun e w' => e = .returned (.int .i64 (checkE n r s.data.toList)) ∧ Below w.heap.size w w' := by
  have hT := text_any s (w.alloc (.cells #[.int .u64 u, .int .i64 n, .int .i64 r, .string s] 25)) hs
  cases h5 : textL s.data.toList
  · have he := Lib.hid (check_no n r s.data.toList (.inr (.inr (.inr (.inr h5)))))
    rw [h5] at hT; clear h5
    go_enter Try.func5, Try.ntmps5
    go_wp2_with (go_at_call 7; refine hT.mono ?_; rintro e w' ⟨rfl, rfl⟩)
    go_ret
    exact ⟨ret_int he.out.symm, (Below.refl _ _).alloc (Nat.le_refl _) _⟩
  rw [h5] at hT
  by_cases h1 : n < 1
  · have he := Lib.hid (check_no n r s.data.toList (.inl h1))
    clear h5
    go_enter Try.func5, Try.ntmps5
    go_wp2_with (go_at_call 7; refine hT.mono ?_; rintro e w' ⟨rfl, rfl⟩)
    go_ret
    exact ⟨ret_int he.out.symm, (Below.refl _ _).alloc (Nat.le_refl _) _⟩
  by_cases h2 : 4611686018427387904 < n
  · have he := Lib.hid (check_no n r s.data.toList (.inr (.inl h2)))
    clear h5
    go_enter Try.func5, Try.ntmps5
    go_wp2_with (go_at_call 7; refine hT.mono ?_; rintro e w' ⟨rfl, rfl⟩)
    go_ret
    exact ⟨ret_int he.out.symm, (Below.refl _ _).alloc (Nat.le_refl _) _⟩
  by_cases h3 : r < 0
  · have he := Lib.hid (check_no n r s.data.toList (.inr (.inr (.inl h3))))
    clear h5
    go_enter Try.func5, Try.ntmps5
    go_wp2_with (go_at_call 7; refine hT.mono ?_; rintro e w' ⟨rfl, rfl⟩)
    go_ret
    exact ⟨ret_int he.out.symm, (Below.refl _ _).alloc (Nat.le_refl _) _⟩
  by_cases h4 : 4611686018427387904 < r
  · have he := Lib.hid (check_no n r s.data.toList (.inr (.inr (.inr (.inl h4)))))
    clear h5
    go_enter Try.func5, Try.ntmps5
    go_wp2_with (go_at_call 7; refine hT.mono ?_; rintro e w' ⟨rfl, rfl⟩)
    go_ret
    exact ⟨ret_int he.out.symm, (Below.refl _ _).alloc (Nat.le_refl _) _⟩
  have he := Lib.hid (check_yes n r s.data.toList (by omega) (by omega) (by omega) (by omega) h5)
  clear h5
  go_enter Try.func5, Try.ntmps5
  go_wp2_with (go_at_call 7; refine hT.mono ?_; rintro e w' ⟨rfl, rfl⟩)
  go_ret
  exact ⟨ret_int he.out.symm, (Below.refl _ _).alloc (Nat.le_refl _) _⟩

/-- w1 is w with more blocks and draws. -/
def Grew (w w1 : World) : Prop := Below w.heap.size w w1
theorem boxKeep {w W w' : World} {b : Nat} {x0 x1 x2 x3 : Value} (hb : Below W.heap.size W w')
    (hS : W.cell? ⟨b, 0, none⟩ = some x0 ∧ W.cell? ⟨b, 1, none⟩ = some x1 ∧ W.cell? ⟨b, 2, none⟩ = some x2 ∧ W.cell? ⟨b, 3, none⟩ = some x3 ∧ Grew w W) :
    w'.cell? ⟨b, 0, none⟩ = some x0 ∧ w'.cell? ⟨b, 1, none⟩ = some x1 ∧ w'.cell? ⟨b, 2, none⟩ = some x2 ∧ w'.cell? ⟨b, 3, none⟩ = some x3 ∧ Grew w w' := by
  obtain ⟨h0, h1, h2, h3, hg⟩ := hS
  have hlt := World.block_lt_of_cell? W _ h0
  exact ⟨(hb.cell (p := ⟨b, 0, none⟩) hlt).trans h0, (hb.cell (p := ⟨b, 1, none⟩) hlt).trans h1, (hb.cell (p := ⟨b, 2, none⟩) hlt).trans h2, (hb.cell (p := ⟨b, 3, none⟩) hlt).trans h3,
    Below.trans hg (hb.mono (Below.size hg))⟩
theorem boxDrew {w W : World} {b : Nat} {x0 x1 x2 x3 : Value} 
    (hS : W.cell? ⟨b, 0, none⟩ = some x0 ∧ W.cell? ⟨b, 1, none⟩ = some x1 ∧ W.cell? ⟨b, 2, none⟩ = some x2 ∧ W.cell? ⟨b, 3, none⟩ = some x3 ∧ Grew w W) :
    W.drew.cell? ⟨b, 0, none⟩ = some x0 ∧ W.drew.cell? ⟨b, 1, none⟩ = some x1 ∧ W.drew.cell? ⟨b, 2, none⟩ = some x2 ∧ W.drew.cell? ⟨b, 3, none⟩ = some x3 ∧ Grew w W.drew := by
  obtain ⟨h0, h1, h2, h3, hg⟩ := hS
  exact ⟨h0, h1, h2, h3, Below.drew hg⟩
theorem boxEnd {w W : World} {b : Nat} {x0 x1 x2 x3 : Value}
    (hS : W.cell? ⟨b, 0, none⟩ = some x0 ∧ W.cell? ⟨b, 1, none⟩ = some x1 ∧ W.cell? ⟨b, 2, none⟩ = some x2 ∧ W.cell? ⟨b, 3, none⟩ = some x3 ∧ Grew w W) : Below w.heap.size w W := hS.2.2.2.2
theorem boxStart (w : World) (x0 x1 x2 x3 : Value) (T : TypeId) :
    ((w.alloc (.cells #[x0, x1, x2, x3] T)).cell? ⟨w.heap.size, 0, none⟩ = some x0 ∧ (w.alloc (.cells #[x0, x1, x2, x3] T)).cell? ⟨w.heap.size, 1, none⟩ = some x1 ∧ (w.alloc (.cells #[x0, x1, x2, x3] T)).cell? ⟨w.heap.size, 2, none⟩ = some x2 ∧
      (w.alloc (.cells #[x0, x1, x2, x3] T)).cell? ⟨w.heap.size, 3, none⟩ = some x3 ∧ Grew w (w.alloc (.cells #[x0, x1, x2, x3] T))) := by
  exact ⟨by simp, by simp, by simp, by simp, (Below.refl _ _).alloc (Nat.le_refl _) _⟩

set_option maxHeartbeats 2000000 in
theorem linesChecks_any (u n r : Int) (s t : ByteArray) (w : World) (hs : s.size ≤ maxLen) (ht : t.size ≤ maxLen) :
    Calls Try.prog 3 #[.agg #[.int .u64 u, .int .i64 n, .int .i64 r, .string s], .string t] w fun e w' => e = .returned (.bool true) ∧ Below w.heap.size w w' := by
  have c1 := fun W => check_any u n r s W hs
  have c2 := fun W => refCheck_any u n r s W hs
  have c3 := fun W => text_any t W ht
  have c4 := fun W => refText_any t W ht
  have c5 := fun W => name_any t W ht
  have c6 := fun W => refName_any t W ht
  obtain ⟨x, hx⟩ : ∃ x, checkE n r s.data.toList = x := ⟨_, rfl⟩
  obtain ⟨y, hy⟩ : ∃ y, textL t.data.toList = y := ⟨_, rfl⟩
  obtain ⟨z, hz⟩ : ∃ z, nameL t.data.toList = z := ⟨_, rfl⟩
  rw [hx] at c1 c2; rw [hy] at c3 c4; rw [hz] at c5 c6
  clear hx hy hz hs ht
  go_enter Try.func3, Try.ntmps3
  go_wp2_with fail
  go_region_held3 (fun w' => w'.cell? ⟨w.heap.size, 0, none⟩ = some (.int .u64 u) ∧ w'.cell? ⟨w.heap.size, 1, none⟩ = some (.int .i64 n) ∧ w'.cell? ⟨w.heap.size, 2, none⟩ = some (.int .i64 r) ∧ w'.cell? ⟨w.heap.size, 3, none⟩ = some (.string s) ∧ Grew w w')
    (first | exact boxDrew (boxStart _ _ _ _ _ _) | exact boxStart _ _ _ _ _ _ | exact boxKeep ‹_› ‹_› | exact boxDrew ‹_› | assumption | go_keep)
    (first
      | (go_at_call 5; refine (c1 _).mono ?_; rintro e w' ⟨rfl, hb⟩)
      | (go_at_call 6; refine (c2 _).mono ?_; rintro e w' ⟨rfl, hb⟩)
      | (go_at_call 7; refine (c3 _).mono ?_; rintro e w' ⟨rfl, rfl⟩)
      | (go_at_call 8; refine (c4 _).mono ?_; rintro e w' ⟨rfl, rfl⟩)
      | (go_at_call 9; refine (c5 _).mono ?_; rintro e w' ⟨rfl, hb⟩)
      | (go_at_call 10; refine (c6 _).mono ?_; rintro e w' ⟨rfl, rfl⟩))
  all_goals go_wp2
  all_goals go_ret
  all_goals exact ⟨rfl, boxEnd ‹_›⟩
end Go.Proofs.Ytbhgeikijifbgaa
