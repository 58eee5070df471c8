/- ViewOne, by a walk over the contracts. -/
import Derived.Test.YtdpikdkhemhmdaaViThose
import Derived.Test.YtdpikdkhemhmdaaRegFull
import Derived.OwnWalkIn
import Derived.TacticsInMore
import Derived.Sort.CutIn
namespace Go.Proofs.Ytdpikdkhemhmdaa
open Go Go.RowKit

set_option maxRecDepth 100000 in
set_option maxHeartbeats 4000000 in
theorem viewOne_go (w : World) (x : Li) (c : Nat) (s : Bool)
    (cS : ∀ V, Calls Try.prog 23 #[.int .u64 c, .agg #[.int .u64 x.u, .int .i64 x.n, .int .i64 x.r, .string x.s]] V fun e w' => e = .returned (.bool s) ∧ Below V.heap.size V w')
    (cR : ∀ V, Calls Try.prog 24 #[.int .u64 c, .agg #[.int .u64 x.u, .int .i64 x.n, .int .i64 x.r, .string x.s]] V fun e w' => e = .returned (.bool s) ∧ Below V.heap.size V w')
    (cO : ∀ V, Calls Try.prog 25 #[.int .u64 c, .agg #[.int .u64 x.u, .int .i64 x.n, .int .i64 x.r, .string x.s]] V fun e w' => e = .returned (.bool ((x.u : Int) == (c : Int))) ∧ Below V.heap.size V w') :
    Calls Try.prog 4 #[.agg #[.int .u64 x.u, .int .i64 x.n, .int .i64 x.r, .string x.s], .int .u64 c] w fun e w' => e = .returned (.bool true) ∧ Below w.heap.size w w' := by
  refine (callsIn_wide (n := 3)).1 ?_
  refine callsIn_of_wp Try.func4 rfl trivial ?_ rfl
  simp only [Try.ntmps4, List.size_toArray, List.length_cons, List.length_nil, Nat.reduceAdd, Nat.reduceSub, Array.replicate_succ, Array.replicate_zero, List.push_toArray, List.append_toArray, List.nil_append, List.cons_append]
  gi_upto_region 2 with fail
  have hB0 : Below w.heap.size w (w.alloc (.cells #[.int .u64 x.u, .int .i64 x.n, .int .i64 x.r, .string x.s] 26)) := (Below.refl _ w).alloc (Nat.le_refl _) _
  refine region_full (fun V : World => LiAt V w.heap.size 0 x ∧ Hid (Below (w.heap.size + 1) (w.alloc (.cells #[.int .u64 x.u, .int .i64 x.n, .int .i64 x.r, .string x.s] 26)) V)) (((.agg #[.int .u64 x.u, .int .i64 x.n, .int .i64 x.r, .string x.s]) :: (.int .u64 c) :: (.pointer (some ⟨w.heap.size, 0, none⟩)) :: (undef) :: (.bool true) :: (.int .u64 c) :: (.int .u64 c) :: (.int .u64 c) :: (.agg #[.int .u64 x.u, .int .i64 x.n, .int .i64 x.r, .string x.s]) :: (.bool s) :: (.int .u64 c) :: (.agg #[.int .u64 x.u, .int .i64 x.n, .int .i64 x.r, .string x.s]) :: (.bool s) :: (.bool true) :: (.bool true) :: (.int .u64 c) :: (.agg #[.int .u64 x.u, .int .i64 x.n, .int .i64 x.r, .string x.s]) :: (.bool ((x.u : Int) == (c : Int))) :: (.pointer (some ⟨w.heap.size, 0, none⟩)) :: (.int .u64 x.u) :: (.int .u64 c) :: (.bool ((x.u : Int) == (c : Int))) :: (.bool true) :: (.bool true) :: [] : List Value).toArray) (by kernel_rfl) (by kernel_rfl) (by kernel_rfl) (by kernel_rfl) ?_ ?_ ?_
  · exact ⟨four_cells (by exact World.alloc_heap_new w _), Below.drew (Below.refl _ _)⟩
  · refine full_want_k (by kernel_rfl) (fun V hV K hK => ?_) ?_; focus (obtain ⟨⟨d0, d1, d2, d3⟩, hbV⟩ := hV; unfold Oper.wpIn; refine ⟨fun _ _ => trivial, ?_⟩; rw [Oper.semAt_eq _ _ _ (by intro c h; cases h)]; go_simp; exact hK.out _ _ (by first | with_reducible rfl | (simp; done) | (simp; omega)) ⟨⟨d0, d1, d2, d3⟩, hbV⟩)
    refine full_want_k (by kernel_rfl) (fun V hV K hK => ?_) ?_; focus (obtain ⟨⟨d0, d1, d2, d3⟩, hbV⟩ := hV; unfold Oper.wpIn; refine ⟨fun _ _ => trivial, ?_⟩; rw [Oper.semAt_eq _ _ _ (by intro c h; cases h)]; go_simp; exact hK.out _ _ (by first | with_reducible rfl | (simp; done) | (simp; omega)) ⟨⟨d0, d1, d2, d3⟩, hbV⟩)
    refine full_want_k (by kernel_rfl) (fun V hV K hK => ?_) ?_; focus (unfold Oper.wpIn; refine ⟨fun _ _ => trivial, ?_⟩; rw [Oper.semAt_eq _ _ _ (by intro c h; cases h)]; go_simp; refine (callsIn_wide.2 (cS V)).mono ?_; rintro e V' ⟨rfl, hbV'⟩; dsimp only; obtain ⟨d, hbV⟩ := hV; have hsV := hbV.out.size; simp only [World.size_alloc] at hsV; refine hK.out _ _ (by first | with_reducible rfl | (simp; done) | (simp; omega)) ⟨d.below hbV' (by omega), hbV.out.trans (hbV'.mono hsV)⟩)
    refine full_want_k (by kernel_rfl) (fun V hV K hK => ?_) ?_; focus (obtain ⟨⟨d0, d1, d2, d3⟩, hbV⟩ := hV; unfold Oper.wpIn; refine ⟨fun _ _ => trivial, ?_⟩; rw [Oper.semAt_eq _ _ _ (by intro c h; cases h)]; go_simp; exact hK.out _ _ (by first | with_reducible rfl | (simp; done) | (simp; omega)) ⟨⟨d0, d1, d2, d3⟩, hbV⟩)
    refine full_want_k (by kernel_rfl) (fun V hV K hK => ?_) ?_; focus (obtain ⟨⟨d0, d1, d2, d3⟩, hbV⟩ := hV; unfold Oper.wpIn; refine ⟨fun _ _ => trivial, ?_⟩; rw [Oper.semAt_eq _ _ _ (by intro c h; cases h)]; go_simp; exact hK.out _ _ (by first | with_reducible rfl | (simp; done) | (simp; omega)) ⟨⟨d0, d1, d2, d3⟩, hbV⟩)
    refine full_want_k (by kernel_rfl) (fun V hV K hK => ?_) ?_; focus (unfold Oper.wpIn; refine ⟨fun _ _ => trivial, ?_⟩; rw [Oper.semAt_eq _ _ _ (by intro c h; cases h)]; go_simp; refine (callsIn_wide.2 (cR V)).mono ?_; rintro e V' ⟨rfl, hbV'⟩; dsimp only; obtain ⟨d, hbV⟩ := hV; have hsV := hbV.out.size; simp only [World.size_alloc] at hsV; refine hK.out _ _ (by first | with_reducible rfl | (simp; done) | (simp; omega)) ⟨d.below hbV' (by omega), hbV.out.trans (hbV'.mono hsV)⟩)
    refine full_want_k (by kernel_rfl) (fun V hV K hK => ?_) ?_; focus (obtain ⟨⟨d0, d1, d2, d3⟩, hbV⟩ := hV; unfold Oper.wpIn; refine ⟨fun _ _ => trivial, ?_⟩; rw [Oper.semAt_eq _ _ _ (by intro c h; cases h)]; go_simp; exact hK.out _ _ (by first | with_reducible rfl | (simp; done) | (simp; omega)) ⟨⟨d0, d1, d2, d3⟩, hbV⟩)
    refine full_want_k (by kernel_rfl) (fun V hV K hK => ?_) ?_; focus (obtain ⟨⟨d0, d1, d2, d3⟩, hbV⟩ := hV; unfold Oper.wpIn; refine ⟨fun _ _ => trivial, ?_⟩; rw [Oper.semAt_eq _ _ _ (by intro c h; cases h)]; go_simp; exact hK.out _ _ (by first | with_reducible rfl | (simp; done) | (simp; omega)) ⟨⟨d0, d1, d2, d3⟩, hbV⟩)
    refine full_want_k (by kernel_rfl) (fun V hV K hK => ?_) ?_; focus (obtain ⟨⟨d0, d1, d2, d3⟩, hbV⟩ := hV; unfold Oper.wpIn; refine ⟨fun _ _ => trivial, ?_⟩; rw [Oper.semAt_eq _ _ _ (by intro c h; cases h)]; go_simp; exact hK.out _ _ (by first | with_reducible rfl | (simp; done) | (simp; omega)) ⟨⟨d0, d1, d2, d3⟩, hbV⟩)
    refine full_want_k (by kernel_rfl) (fun V hV K hK => ?_) ?_; focus (obtain ⟨⟨d0, d1, d2, d3⟩, hbV⟩ := hV; unfold Oper.wpIn; refine ⟨fun _ _ => trivial, ?_⟩; rw [Oper.semAt_eq _ _ _ (by intro c h; cases h)]; go_simp; exact hK.out _ _ (by first | with_reducible rfl | (simp; done) | (simp; omega)) ⟨⟨d0, d1, d2, d3⟩, hbV⟩)
    refine full_want_k (by kernel_rfl) (fun V hV K hK => ?_) ?_; focus (unfold Oper.wpIn; refine ⟨fun _ _ => trivial, ?_⟩; rw [Oper.semAt_eq _ _ _ (by intro c h; cases h)]; go_simp; refine (callsIn_wide.2 (cO V)).mono ?_; rintro e V' ⟨rfl, hbV'⟩; dsimp only; obtain ⟨d, hbV⟩ := hV; have hsV := hbV.out.size; simp only [World.size_alloc] at hsV; refine hK.out _ _ (by first | with_reducible rfl | (simp; done) | (simp; omega)) ⟨d.below hbV' (by omega), hbV.out.trans (hbV'.mono hsV)⟩)
    refine full_want_k (by kernel_rfl) (fun V hV K hK => ?_) ?_; focus (obtain ⟨⟨d0, d1, d2, d3⟩, hbV⟩ := hV; unfold Oper.wpIn; refine ⟨fun _ _ => trivial, ?_⟩; rw [Oper.semAt_eq _ _ _ (by intro c h; cases h)]; go_simp; exact hK.out _ _ (by first | with_reducible rfl | (simp; done) | (simp; omega)) ⟨⟨d0, d1, d2, d3⟩, hbV⟩)
    refine full_want_k (by kernel_rfl) (fun V hV K hK => ?_) ?_; focus (obtain ⟨⟨d0, d1, d2, d3⟩, hbV⟩ := hV; unfold Oper.wpIn; refine ⟨fun _ _ => trivial, ?_⟩; rw [Oper.semAt_eq _ _ _ (by intro c h; cases h)]; go_simp; exact hK.out _ _ (by first | with_reducible rfl | (simp; done) | (simp; omega)) ⟨⟨d0, d1, d2, d3⟩, hbV⟩)
    refine full_want_k (by kernel_rfl) (fun V hV K hK => ?_) ?_; focus (obtain ⟨⟨d0, d1, d2, d3⟩, hbV⟩ := hV; unfold Oper.wpIn; refine ⟨fun _ _ => trivial, ?_⟩; rw [Oper.semAt_eq _ _ _ (by intro c h; cases h)]; go_simp; exact hK.out _ _ (by first | with_reducible rfl | (simp; done) | (simp; omega)) ⟨⟨d0, d1, d2, d3⟩, hbV⟩)
    refine full_want_k (by kernel_rfl) (fun V hV K hK => ?_) ?_; focus (obtain ⟨⟨d0, d1, d2, d3⟩, hbV⟩ := hV; unfold Oper.wpIn; refine ⟨fun _ _ => trivial, ?_⟩; rw [Oper.semAt_eq _ _ _ (by intro c h; cases h)]; go_simp; exact hK.out _ _ (by first | with_reducible rfl | (simp; done) | (simp; omega)) ⟨⟨d0, d1, d2, d3⟩, hbV⟩)
    refine full_want_k (by kernel_rfl) (fun V hV K hK => ?_) ?_; focus (obtain ⟨⟨d0, d1, d2, d3⟩, hbV⟩ := hV; unfold Oper.wpIn; refine ⟨fun _ _ => trivial, ?_⟩; rw [Oper.semAt_eq _ _ _ (by intro c h; cases h)]; go_simp; exact hK.out _ _ (by first | with_reducible rfl | (simp; done) | (simp; omega)) ⟨⟨d0, d1, d2, d3⟩, hbV⟩)
    refine full_want_k (by kernel_rfl) (fun V hV K hK => ?_) ?_; focus (obtain ⟨⟨d0, d1, d2, d3⟩, hbV⟩ := hV; unfold Oper.wpIn; refine ⟨fun _ _ => trivial, ?_⟩; rw [Oper.semAt_eq _ _ _ (by intro c h; cases h)]; go_simp; exact hK.out _ _ (by first | with_reducible rfl | (simp; done) | (simp; omega)) ⟨⟨d0, d1, d2, d3⟩, hbV⟩)
    refine full_want_k (by kernel_rfl) (fun V hV K hK => ?_) ?_; focus (obtain ⟨⟨d0, d1, d2, d3⟩, hbV⟩ := hV; unfold Oper.wpIn; refine ⟨fun _ _ => trivial, ?_⟩; rw [Oper.semAt_eq _ _ _ (by intro c h; cases h)]; go_simp; exact hK.out _ _ (by first | with_reducible rfl | (simp; done) | (simp; omega)) ⟨⟨d0, d1, d2, d3⟩, hbV⟩)
    exact trivial
  · intro V hV
    have hV2 := Lib.hid hV.2
    clear hV
    gi_wp2
    go_ret
    exact ⟨rfl, hB0.trans (hV2.out.out.mono (by omega))⟩
theorem viewOne_any (w : World) (x : Li) (c : Nat) (hx : x.u < 18446744073709551616) (hc : c < 18446744073709551616) :
    Calls Try.prog 4 #[.agg #[.int .u64 x.u, .int .i64 x.n, .int .i64 x.r, .string x.s], .int .u64 c] w fun e w' => e = .returned (.bool true) ∧ Below w.heap.size w w' :=
  viewOne_go w x c (seenB c x) (fun V => seen_any c x V hc hx) (fun V => refSeen_any c x V hc hx) (fun V => (own_any c x V).mono fun e w' ⟨he, hb⟩ => ⟨by rw [he]; congr 2; rw [Bool.eq_iff_iff, decide_eq_true_eq, beq_iff_eq]; omega, hb⟩)
end Go.Proofs.Ytdpikdkhemhmdaa
