/- Two sets that are not below one another: the laws' own first question, by contract. -/
import Derived.Test.YtglpkadpohbfmaaDoorLbText
import Derived.Test.YtglpkadpohbfmaaDoorLbMyOf
namespace Go.Proofs.YtglpkadpohbfmaaDoor
open Go.RowKit

theorem of37 : ofW [3, 7] = 136 ∧ ofE [3, 7] = 0 := by decide +kernel
theorem of7 : ofW [7] = 128 ∧ ofE [7] = 0 := by decide +kernel
theorem list136 : listTo 136 64 = [3, 7] := by decide +kernel
theorem text136 : textN 136 = [51, 43, 55] := by
  unfold textN
  rw [if_neg (by decide), list136, List.map_cons, List.map_cons, List.map_nil, dec_lt 3 (by decide), dec_lt 7 (by decide)]
  decide +kernel
theorem lit_row (w : World) (cs : Array Value) (t : TypeId) (xs : List Int) (h : ∀ i (_ : i < xs.length), cs[i]? = some (.int .i64 xs[i])) : NumRow .i64 (w.alloc (.cells cs t)) (some ⟨w.heap.size, 0, none⟩) xs := fun i hi =>
  ⟨w.heap.size, 0, rfl, by simp, by rw [Nat.zero_add, World.cell?_alloc_mark]; exact h i hi⟩
theorem row37 (w : World) : NumRow .i64 (w.alloc (.cells #[.int .i64 3, .int .i64 7] 3)) (some ⟨w.heap.size, 0, none⟩) [3, 7] := lit_row w _ _ _ fun i hi => by
  match i, hi with
  | 0, _ => rfl
  | 1, _ => rfl
theorem row7 (w : World) : NumRow .i64 (w.alloc (.cells #[.int .i64 7] 3)) (some ⟨w.heap.size, 0, none⟩) [7] := lit_row w _ _ _ fun i hi => by
  match i, hi with
  | 0, _ => rfl

set_option maxRecDepth 100000 in
set_option maxHeartbeats 2000000 in
theorem awake_any (w : World) (hT : BTab w) :
    Calls Tryd.prog 27 #[] w fun e w' => e = .returned (.bool true) ∧ Below w.heap.size w w' := by
  have hb1 : Below w.heap.size w (w.alloc (.cells #[.int .i64 3, .int .i64 7] 3)) := (Below.refl _ _).alloc (Nat.le_refl _) _
  have hb2 := hb1.alloc hb1.size (.cells #[.int .i64 7] 3)
  have hT2 := hT.below hb2
  have c1 : Calls Tryd.prog 11 #[.slice (some ⟨w.heap.size, 0, none⟩) 2 2] (w.alloc (.cells #[.int .i64 3, .int .i64 7] 3)) fun e w' => e = .returned (.tuple #[.int .u64 136, .int .i64 0]) ∧ w.alloc (.cells #[.int .i64 3, .int .i64 7] 3) = w' := by
    have h := of_any _ _ 2 2 _ (row37 w) rfl (by decide)
    rw [of37.1, of37.2] at h
    exact h
  have c2 : ∀ W : World, Calls Tryd.prog 11 #[.slice (some ⟨W.heap.size, 0, none⟩) 1 1] (W.alloc (.cells #[.int .i64 7] 3)) fun e w' => e = .returned (.tuple #[.int .u64 128, .int .i64 0]) ∧ W.alloc (.cells #[.int .i64 7] 3) = w' := fun W => by
    have h := of_any _ _ 1 1 _ (row7 W) rfl (by decide)
    rw [of7.1, of7.2] at h
    exact h
  have c3 : ∀ W, Calls Tryd.prog 16 #[.int .u64 128, .int .u64 136] W fun e w' => e = .returned (.bool true) ∧ W = w' := fun W => by
    have h := below_any 128 136 W (by decide) (by decide)
    rw [show belowB 128 136 = true by decide +kernel] at h
    exact h
  have c4 : ∀ W, Calls Tryd.prog 16 #[.int .u64 136, .int .u64 128] W fun e w' => e = .returned (.bool false) ∧ W = w' := fun W => by
    have h := below_any 136 128 W (by decide) (by decide)
    rw [show belowB 136 128 = false by decide +kernel] at h
    exact h
  have c5 : ∀ W, BTab W → Calls Tryd.prog 24 #[.int .u64 136] W fun e w' => e = .returned (.string ⟨#[51, 43, 55]⟩) ∧ Below W.heap.size W w' := fun W hW => by
    have h := text_any 136 W (by decide) hW
    rw [text136] at h
    exact h
  have c6 : ∀ W, Calls Tryd.prog 15 #[.int .u64 136] W fun e w' => e = .returned (.int .i64 2) ∧ W = w' := fun W => by
    have h := count_any 136 W (by decide)
    rw [show cnt 136 = 2 by decide +kernel] at h
    exact h
  have c2' := c2 (w.alloc (.cells #[.int .i64 3, .int .i64 7] 3))
  rw [World.size_alloc] at c2'
  have HB2 := Lib.hid hb2
  clear c2
  clear hb1 hb2 hT
  go_enter Tryd.func27, Tryd.ntmps27
  go_wp2_with fail
  refine c1.mono ?_
  rintro e w' ⟨rfl, rfl⟩
  go_wp2_with fail
  refine c2'.mono ?_
  rintro e w' ⟨rfl, rfl⟩
  go_wp2_with fail
  refine (c3 _).mono ?_
  rintro e w' ⟨rfl, rfl⟩
  go_wp2_with fail
  refine (c4 _).mono ?_
  rintro e w' ⟨rfl, rfl⟩
  go_wp2_with fail
  refine (c5 _ hT2).mono ?_
  rintro e w3 ⟨rfl, hb3⟩
  have hend := HB2.out.trans (hb3.mono HB2.out.size)
  clear c1 c2' c3 c4 c5 hb3 hT2 HB2
  go_wp2_with (go_at_call 15; refine (c6 _).mono ?_; rintro e w' ⟨rfl, rfl⟩)
  go_ret
  exact ⟨rfl, hend⟩
end Go.Proofs.YtglpkadpohbfmaaDoor
