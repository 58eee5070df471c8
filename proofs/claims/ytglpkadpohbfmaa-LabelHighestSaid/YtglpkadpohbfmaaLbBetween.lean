/- label's Between, by its contract: an error, or an iterator over three boxes of its own. -/
import Derived.Test.YtglpkadpohbfmaaLbCount
namespace Go.Proofs.Ytglpkadpohbfmaa
open Go.RowKit

/-- Three boxes, one behind the other. -/
structure Boxes (B a b f : Nat) (W : World) : Prop where
  fst : W.cell? ⟨B, 0, none⟩ = some (.int .u64 a)
  snd : W.cell? ⟨B + 1, 0, none⟩ = some (.int .u64 b)
  thd : W.cell? ⟨B + 2, 0, none⟩ = some (.int .u64 f)
  lt : B + 2 < W.heap.size
theorem Boxes.later {B a b f : Nat} {W W' : World} (h : Boxes B a b f W) (hb : Below W.heap.size W W') : Boxes B a b f W' :=
  ⟨(hb.cell (p := ⟨B, 0, none⟩) (by have := h.lt; show B < _; omega)).trans h.fst, (hb.cell (p := ⟨B + 1, 0, none⟩) (by have := h.lt; show B + 1 < _; omega)).trans h.snd, (hb.cell (p := ⟨B + 2, 0, none⟩) h.lt).trans h.thd, Nat.lt_of_lt_of_le h.lt hb.size⟩

theorem boxes_new (w : World) (a b f : Nat) (T : TypeId) : Boxes w.heap.size a b f (((w.alloc (.cells #[.int .u64 a] T)).alloc (.cells #[.int .u64 b] T)).alloc (.cells #[.int .u64 f] T)) := by
  refine ⟨?_, ?_, ?_, by simp⟩
  · rw [World.cell?_alloc_lt _ _ _ (by simp; omega), World.cell?_alloc_lt _ _ _ (by simp), World.cell?_alloc_mark]; rfl
  · rw [World.cell?_alloc_lt _ _ _ (by simp)]
    have := World.cell?_alloc_mark (w.alloc (.cells #[.int .u64 a] T)) #[.int .u64 b] T (0, 0) 0
    rw [World.size_alloc] at this
    exact this
  · have := World.cell?_alloc_mark ((w.alloc (.cells #[.int .u64 a] T)).alloc (.cells #[.int .u64 b] T)) #[.int .u64 f] T (0, 0) 0
    rw [World.size_alloc, World.size_alloc] at this
    exact this

set_option maxRecDepth 100000 in
set_option maxHeartbeats 2000000 in
theorem between_big (a b : Nat) (w : World) (ha : a < 18446744073709551616) (hb : b < 18446744073709551616) (h : 16 < cnt (lessN b a)) :
    Calls Try.prog 11 #[.int .u64 a, .int .u64 b] w fun e w' => e = .returned (.tuple #[.nilFunc, .int .i64 1]) ∧ Below w.heap.size w w' := by
  have cL := fun W => less_any b a W hb ha
  have cC := fun W => count_any (lessN b a) W (less_lt b a hb)
  generalize lessN b a = f at *
  generalize cnt f = n at *
  have hn : (16 : Int) < (n : Int) := by omega
  go_enter Try.func11, Try.ntmps11
  go_wp2_with (first
    | (go_at_call 22; refine (cL _).mono ?_; rintro e w' ⟨rfl, rfl⟩)
    | (go_at_call 8; refine (cC _).mono ?_; rintro e w' ⟨rfl, rfl⟩))
  go_ret2
  exact ⟨rfl, ((((Below.refl _ _).alloc (Nat.le_refl _) _).alloc (by simp) _).alloc (by simp; omega) _)⟩

set_option maxRecDepth 100000 in
set_option maxHeartbeats 2000000 in
theorem between_ok (a b : Nat) (w : World) (ha : a < 18446744073709551616) (hb : b < 18446744073709551616) (h : cnt (lessN b a) ≤ 16) :
    Calls Try.prog 11 #[.int .u64 a, .int .u64 b] w fun e w' => e = .returned (.tuple #[.func (.func 23) #[] #[.pointer (some ⟨w.heap.size, 0, none⟩), .pointer (some ⟨w.heap.size + 1, 0, none⟩), .pointer (some ⟨w.heap.size + 2, 0, none⟩)], .int .i64 0]) ∧ Boxes w.heap.size a b (lessN b a) w' ∧ Below w.heap.size w w' := by
  have cL := fun W => less_any b a W hb ha
  have cC := fun W => count_any (lessN b a) W (less_lt b a hb)
  generalize lessN b a = f at *
  generalize cnt f = n at *
  have hn : ¬ (16 : Int) < (n : Int) := by omega
  go_enter Try.func11, Try.ntmps11
  go_wp2_with (first
    | (go_at_call 22; refine (cL _).mono ?_; rintro e w' ⟨rfl, rfl⟩)
    | (go_at_call 8; refine (cC _).mono ?_; rintro e w' ⟨rfl, rfl⟩))
  go_ret2
  exact ⟨rfl, boxes_new w a b f _, ((((Below.refl _ _).alloc (Nat.le_refl _) _).alloc (by simp) _).alloc (by simp; omega) _)⟩
end Go.Proofs.Ytglpkadpohbfmaa
