/- scrimlaw06.awake, by a walk: it is true. -/
import Derived.Test.YtdpikdkhemhmdaaViLines
namespace Go.Proofs.Ytdpikdkhemhmdaa
open Go Go.RowKit

set_option maxRecDepth 100000 in
theorem eqlLine {x : Li} (hx : LiOk x) (w : World) : (binOp .eql 26 x.agg x.agg).run Try.prog w = .ok (.bool true) w := by
  obtain ⟨l, hl⟩ := li_key hx
  obtain ⟨r, h1, h2⟩ := run_equal_deep w (m := 2) (by omega) lineKeyAt lineWide hl hl
  have hr : r = true := h2.2 rfl
  subst hr
  unfold Li.agg at h1 ⊢
  simp only [binOp]
  simp [h1, Result.andThen]
def aw0 : Li := ⟨2, 1, 0, ⟨#[]⟩⟩
def aw1 : Li := ⟨4, 1, 0, ⟨#[]⟩⟩
def aw2 : Li := ⟨0, 1, 0, ⟨#[]⟩⟩
theorem aw_seen : [aw0, aw1, aw2].filter (seenB 2) = [aw0, aw2] := by
  have h0 : seenB 2 aw0 = true := by decide +kernel
  have h1 : seenB 2 aw1 = false := by decide +kernel
  have h2 : seenB 2 aw2 = true := by decide +kernel
  simp [h0, h1, h2]
theorem aw_ok (u : Nat) (hu : u < 18446744073709551616) : LiOk ⟨u, 1, 0, ⟨#[]⟩⟩ := ⟨hu, by show (Lit.int .i64 1).wf = true; decide, by show (Lit.int .i64 0).wf = true; decide, Nat.zero_le _⟩
set_option maxRecDepth 100000 in
set_option maxHeartbeats 4000000 in
theorem awake_any (w : World) : Calls Try.prog 33 #[] w fun e w' => e = .returned (.bool true) ∧ Below w.heap.size w w' := by
  have e0 := fun W => eqlLine (aw_ok 2 (by decide)) W
  have e2 := fun W => eqlLine (aw_ok 0 (by decide)) W
  unfold Li.agg at e0 e2
  have hg := lineGuard
  go_enter Try.func33, Try.ntmps33
  have hb0 := (Below.refl w.heap.size w).alloc (Nat.le_refl _) (.cells #[.int .u64 2, .int .i64 1, .int .i64 0, .string ⟨#[]⟩, .int .u64 4, .int .i64 1, .int .i64 0, .string ⟨#[]⟩, .int .u64 0, .int .i64 1, .int .i64 0, .string ⟨#[]⟩] 26)
  have hrow : LiRow (w.alloc (.cells #[.int .u64 2, .int .i64 1, .int .i64 0, .string ⟨#[]⟩, .int .u64 4, .int .i64 1, .int .i64 0, .string ⟨#[]⟩, .int .u64 0, .int .i64 1, .int .i64 0, .string ⟨#[]⟩] 26)) (some ⟨w.heap.size, 0, none⟩) [aw0, aw1, aw2] := fun i hi => by
    refine ⟨w.heap.size, 0, rfl, by simp, ?_⟩
    match i, hi with
    | 0, _ => exact ⟨by simp [aw0], by simp [aw0], by simp [aw0], by simp [aw0]⟩
    | 1, _ => exact ⟨by simp [aw1], by simp [aw1], by simp [aw1], by simp [aw1]⟩
    | 2, _ => exact ⟨by simp [aw2], by simp [aw2], by simp [aw2], by simp [aw2]⟩
  have cO := of_any _ (some ⟨w.heap.size, 0, none⟩) 3 3 [aw0, aw1, aw2] rfl (by decide) hrow (fun x hx => by
    simp only [List.mem_cons, List.not_mem_nil, or_false] at hx
    rcases hx with rfl | rfl | rfl <;> decide) 2 (by decide)
  rw [aw_seen] at cO
  have HB := Lib.hid hb0
  clear hrow hb0
  go_wp2_with (go_at_call 12; refine cO.mono ?_; rintro e w2 ⟨hb2, p, c, rfl, hr, _⟩)
  obtain ⟨b0, o0, rfl, _, h0⟩ := hr 0 (by decide)
  obtain ⟨b1, o1, e1, _, h1⟩ := hr 1 (by decide)
  injection e1 with e1
  injection e1 with e1 e3 _
  subst e1 e3
  obtain ⟨x0, x1, x2, x3⟩ := h0
  obtain ⟨y0, y1, y2, y3⟩ := h1
  simp only [aw0, aw2, List.getElem_cons_zero, List.getElem_cons_succ, Nat.zero_mul, Nat.add_zero, Nat.one_mul] at x0 x1 x2 x3 y0 y1 y2 y3
  have HB2 := Lib.hid (HB.out.trans (hb2.mono (by simp)))
  clear hr hb2 cO

  go_wp2_with fail
  go_ret
  exact ⟨rfl, HB2.out⟩
end Go.Proofs.Ytdpikdkhemhmdaa
