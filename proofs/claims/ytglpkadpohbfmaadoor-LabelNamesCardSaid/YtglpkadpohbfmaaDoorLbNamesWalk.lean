/- The closed law LabelNames by a walk over the contracts. -/
import Derived.Test.YtglpkadpohbfmaaDoorAwake
import Derived.Test.YtglpkadpohbfmaaDoorLbBetween
namespace Go.Proofs.YtglpkadpohbfmaaDoor
open Go.RowKit

theorem of063 : ofW [0, 63] = 9223372036854775809 ∧ ofE [0, 63] = 0 := by decide +kernel
theorem of_nil : ofW [] = 0 ∧ ofE [] = 0 := by decide +kernel
theorem of64 : ofW [64] = 0 ∧ ofE [64] = 1 := by decide +kernel
theorem list_063 : listTo 9223372036854775809 64 = [0, 63] := by decide +kernel
theorem text063 : textN 9223372036854775809 = [48, 43, 54, 51] := by
  unfold textN
  rw [if_neg (by decide), list_063, List.map_cons, List.map_cons, List.map_nil, dec_lt 0 (by decide), dec_lt 63 (by decide)]
  decide +kernel
theorem row063 (w : World) : NumRow .i64 (w.alloc (.cells #[.int .i64 0, .int .i64 63] 3)) (some ⟨w.heap.size, 0, none⟩) [0, 63] := lit_row w _ _ _ fun i hi => by
  match i, hi with
  | 0, _ => rfl
  | 1, _ => rfl
theorem row64 (w : World) : NumRow .i64 (w.alloc (.cells #[.int .i64 64] 3)) (some ⟨w.heap.size, 0, none⟩) [64] := lit_row w _ _ _ fun i hi => by
  match i, hi with
  | 0, _ => rfl

set_option maxRecDepth 100000 in
set_option maxHeartbeats 2000000 in
theorem labelNames_any (w : World) (hT : BTab w) :
    Calls Tryd.prog 6 #[] w fun e w' => e = .returned (.bool true) ∧ Below w.heap.size w w' := by
  have hb1 : Below w.heap.size w (w.alloc (.cells #[.int .i64 0, .int .i64 63] 3)) := (Below.refl _ _).alloc (Nat.le_refl _) _
  have hb2 := hb1.alloc hb1.size (.cells #[.int .i64 64] 3)
  have c1 : Calls Tryd.prog 11 #[.slice (some ⟨w.heap.size, 0, none⟩) 2 2] (w.alloc (.cells #[.int .i64 0, .int .i64 63] 3)) fun e w' => e = .returned (.tuple #[.int .u64 9223372036854775809, .int .i64 0]) ∧ w.alloc (.cells #[.int .i64 0, .int .i64 63] 3) = w' := by
    have h := of_any _ _ 2 2 _ (row063 w) rfl (by decide)
    rw [of063.1, of063.2] at h
    exact h
  have c2 : ∀ W : World, Calls Tryd.prog 11 #[.slice none 0 0] W fun e w' => e = .returned (.tuple #[.int .u64 0, .int .i64 0]) ∧ W = w' := fun W => by
    have h := of_any W none 0 0 [] (fun i hi => absurd hi (Nat.not_lt_zero _)) rfl (by decide)
    rw [of_nil.1, of_nil.2] at h
    exact h
  have c3 : ∀ W : World, Calls Tryd.prog 11 #[.slice (some ⟨W.heap.size, 0, none⟩) 1 1] (W.alloc (.cells #[.int .i64 64] 3)) fun e w' => e = .returned (.tuple #[.int .u64 0, .int .i64 1]) ∧ W.alloc (.cells #[.int .i64 64] 3) = w' := fun W => by
    have h := of_any _ _ 1 1 _ (row64 W) rfl (by decide)
    rw [of64.1, of64.2] at h
    exact h
  have c3' := c3 (w.alloc (.cells #[.int .i64 0, .int .i64 63] 3))
  rw [World.size_alloc] at c3'
  have c4 : ∀ W : World, Calls Tryd.prog 26 #[.int .u64 0, .int .u64 131071] W fun e w' => e = .returned (.tuple #[.nilFunc, .int .i64 1]) ∧ Below W.heap.size W w' := fun W =>
    between_big 0 131071 W (by decide) (by decide) (by decide +kernel)
  have c5 : ∀ W : World, Calls Tryd.prog 26 #[.int .u64 131071, .int .u64 0] W fun e w' => (∃ v, e = .returned (.tuple #[v, .int .i64 0])) ∧ Below W.heap.size W w' := fun W =>
    (between_ok 131071 0 W (by decide) (by decide) (by decide +kernel)).mono fun _ _ ⟨h1, _, h2⟩ => ⟨⟨_, h1⟩, h2⟩
  have c6 : ∀ W, BTab W → Calls Tryd.prog 24 #[.int .u64 0] W fun e w' => e = .returned (.string ⟨#[45]⟩) ∧ Below W.heap.size W w' := fun W hW => text_any 0 W (by decide) hW
  have c7 : ∀ W, BTab W → Calls Tryd.prog 24 #[.int .u64 9223372036854775809] W fun e w' => e = .returned (.string ⟨#[48, 43, 54, 51]⟩) ∧ Below W.heap.size W w' := fun W hW => by
    have h := text_any 9223372036854775809 W (by decide) hW
    rw [text063] at h
    exact h
  have HB2 := Lib.hid hb2
  clear c3 hb1 hb2
  go_enter Tryd.func6, Tryd.ntmps6
  go_wp2_with fail
  refine c1.mono ?_
  rintro e w' ⟨rfl, rfl⟩
  go_wp2_with fail
  refine (c2 _).mono ?_
  rintro e w' ⟨rfl, rfl⟩
  go_wp2_with fail
  refine c3'.mono ?_
  rintro e w' ⟨rfl, rfl⟩
  go_wp2_with fail
  refine (c4 _).mono ?_
  rintro e w4 ⟨rfl, hb4⟩
  have hbw4 := HB2.out.trans (hb4.mono HB2.out.size)
  clear HB2 hb4 c1 c2 c3' c4
  go_wp2_with fail
  refine (c5 _).mono ?_
  rintro e w5 ⟨⟨v, rfl⟩, hb5⟩
  have hbw5 := hbw4.trans (hb5.mono hbw4.size)
  have hT5 := hT.below hbw5
  clear hbw4 hb5 c5
  go_wp2_with fail
  refine (c6 _ hT5).mono ?_
  rintro e w6 ⟨rfl, hb6⟩
  have hbw6 := hbw5.trans (hb6.mono hbw5.size)
  have hT6 := hT.below hbw6
  clear hbw5 hb6 c6 hT5
  go_wp2_with fail
  refine (c7 _ hT6).mono ?_
  rintro e w7 ⟨rfl, hb7⟩
  have hbw7 := hbw6.trans (hb7.mono hbw6.size)
  clear hbw6 hb7 c7 hT6
  go_wp2_with fail
  go_ret
  exact ⟨rfl, hbw7⟩
end Go.Proofs.YtglpkadpohbfmaaDoor
