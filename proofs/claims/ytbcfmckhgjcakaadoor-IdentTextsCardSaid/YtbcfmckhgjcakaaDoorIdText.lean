/- ident.Text, by its contract, whatever Itoa answers. -/
import Derived.Test.YtbcfmckhgjcakaaDoorLbText
import Derived.Test.YtbcfmckhgjcakaaDoorIdTwice
import Derived.Test.YtbcfmckhgjcakaaDoorRegOrd
namespace Go.Proofs.YtbcfmckhgjcakaaDoor
open Go Go.RowKit

theorem BTab.of {w W : World} (h : BTab w) (hb : Below w.heap.size w W) : BTab W := h.below hb
set_option maxRecDepth 100000 in
set_option maxHeartbeats 2000000 in
theorem idText_any (w : World) (x : Li) (d : ByteArray) (hu : x.u < 18446744073709551616) (hT : BTab w)
    (hI : ∀ W, Below w.heap.size w W → Calls Tryd.prog 25 #[.int .i64 x.n] W fun e w' => e = .returned (.string d) ∧ Below W.heap.size W w') (hlen : (textN x.u).length + 1 + d.size ≤ maxLen) :
    Calls Tryd.prog 8 #[x.agg] w fun e w' => e = .returned (.string (⟨(textN x.u).toArray⟩ ++ ⟨#[35]⟩ ++ d)) ∧ Below w.heap.size w w' := by
  have cL := fun W (hb : Below w.heap.size w W) => text_any_lb x.u W hu (hT.below hb)
  unfold Li.agg
  obtain ⟨tx, htx⟩ : ∃ tx, textN x.u = tx := ⟨_, rfl⟩
  rw [htx] at hlen ⊢
  simp only [htx] at cL
  clear htx hT
  obtain ⟨ta, hta⟩ : ∃ ta : ByteArray, ⟨tx.toArray⟩ = ta := ⟨_, rfl⟩
  have hsz : ta.size = tx.length := by rw [← hta]; simp [ByteArray.size]
  rw [hta]
  simp only [hta] at cL
  clear hta
  have had1 : ∀ W : World, (Op.stringOp .add ta ⟨#[35]⟩).run Tryd.prog W = .ok (.string (ta ++ ⟨#[35]⟩)) W := fun W => run_string_add_sum W _ _ (by
    unfold maxLen at hlen
    rw [hsz, show (⟨#[35]⟩ : ByteArray).size = 1 from rfl]; omega)
  have hsz2 : (ta ++ ⟨#[35]⟩).size = tx.length + 1 := by rw [ByteArray.size_append, hsz]; rfl
  obtain ⟨tb, htb⟩ : ∃ tb : ByteArray, ta ++ ⟨#[35]⟩ = tb := ⟨_, rfl⟩
  rw [htb] at hsz2 ⊢
  simp only [htb] at had1
  clear htb hsz
  have had2 : ∀ W : World, (Op.stringOp .add tb d).run Tryd.prog W = .ok (.string (tb ++ d)) W := fun W => run_string_add_sum W _ _ (by
    unfold maxLen at hlen
    rw [hsz2]; omega)
  obtain ⟨tc, htc⟩ : ∃ tc : ByteArray, tb ++ d = tc := ⟨_, rfl⟩
  rw [htc]
  simp only [htc] at had2
  clear htc hsz2 hlen
  have CL := Lib.hid cL
  have CI := Lib.hid hI
  clear cL hI
  go_enter Tryd.func8, Tryd.ntmps8
  go_wp2_with fail
  have hS : (fun W : World => W.cell? ⟨w.heap.size, 0, none⟩ = some (.int .u64 x.u) ∧ W.cell? ⟨w.heap.size, 1, none⟩ = some (.int .i64 x.n) ∧ Hid (Below w.heap.size w W)) (w.alloc (.cells #[.int .u64 x.u, .int .i64 x.n, .int .i64 x.r, .string x.s] 25)).drew := by
    refine ⟨?_, ?_, Below.drew ((Below.refl w.heap.size w).alloc (Nat.le_refl _) _)⟩
    · show (w.alloc _).cell? _ = _
      rw [World.cell?_alloc_mark]; rfl
    · show (w.alloc _).cell? _ = _
      rw [World.cell?_alloc_mark]; rfl
  refine region_ord (fun W : World => W.cell? ⟨w.heap.size, 0, none⟩ = some (.int .u64 x.u) ∧ W.cell? ⟨w.heap.size, 1, none⟩ = some (.int .i64 x.n) ∧ Hid (Below w.heap.size w W)) [(0, true), (1, true), (4, true), (5, true), (2, false), (3, true), (6, false), (7, true), (8, true)] (by kernel_rfl) (by kernel_rfl) (by kernel_rfl) (by kernel_rfl) hS ?_
  have HS := Lib.hid hS
  clear hS
  iterate 4 (refine ord_take (v := ?_) rfl (by rfl) ?_ ?_; rotate_left; (focus (intro w hSw; (try dsimp only at hSw); go_simp; (try with_reducible rfl); done)); (try simp (maxSteps := 10000000) only [Act.put, List.setIfInBounds_toArray, List.set_cons_zero, List.set_cons_succ]))
  refine ord_call rfl (by rfl) (fun K hK => ?_)
  go_simp
  refine (CL.out _ HS.out.2.2.out).mono ?_
  rintro e u1 ⟨rfl, hb1⟩
  have SK : ∀ {W W' : World}, (W.cell? ⟨w.heap.size, 0, none⟩ = some (.int .u64 x.u) ∧ W.cell? ⟨w.heap.size, 1, none⟩ = some (.int .i64 x.n) ∧ Hid (Below w.heap.size w W)) → Below W.heap.size W W' → (W'.cell? ⟨w.heap.size, 0, none⟩ = some (.int .u64 x.u) ∧ W'.cell? ⟨w.heap.size, 1, none⟩ = some (.int .i64 x.n) ∧ Hid (Below w.heap.size w W')) := fun {W W'} h hb => by
    have hl := World.block_lt_of_cell? W _ h.1
    exact ⟨(hb.cell (p := ⟨w.heap.size, 0, none⟩) hl).trans h.1, (hb.cell (p := ⟨w.heap.size, 1, none⟩) hl).trans h.2.1, h.2.2.out.trans (hb.mono h.2.2.out.size)⟩
  have S1 := Lib.hid (SK HS.out hb1)
  have SKH := Lib.hid (fun W W' => @SK W W')
  clear hb1 HS SK
  go_wp2_with fail
  refine hK.out _ _ S1.out (fun _ => ?_)
  clear hK
  (try simp (maxSteps := 10000000) only [Act.put, List.setIfInBounds_toArray, List.set_cons_zero, List.set_cons_succ])
  (refine ord_take (v := ?_) rfl (by rfl) ?_ ?_; rotate_left; (focus (intro w hSw; (try dsimp only at hSw); go_simp; (try with_reducible rfl); done)); (try simp (maxSteps := 10000000) only [Act.put, List.setIfInBounds_toArray, List.set_cons_zero, List.set_cons_succ]))
  refine ord_call rfl (by rfl) (fun K hK => ?_)
  go_simp
  refine (CI.out _ S1.out.2.2.out).mono ?_
  rintro e u2 ⟨rfl, hb2⟩
  have S2 := Lib.hid (SKH.out _ _ S1.out hb2)
  clear hb2 S1
  go_wp2_with fail
  refine hK.out _ _ S2.out (fun _ => ?_)
  clear hK
  (try simp (maxSteps := 10000000) only [Act.put, List.setIfInBounds_toArray, List.set_cons_zero, List.set_cons_succ])
  iterate 2 (refine ord_take (v := ?_) rfl (by rfl) ?_ ?_; rotate_left; (focus (intro w hSw; (try dsimp only at hSw); go_simp; (try with_reducible rfl); done)); (try simp (maxSteps := 10000000) only [Act.put, List.setIfInBounds_toArray, List.set_cons_zero, List.set_cons_succ]))
  refine ord_end ?_
  have HB := Lib.hid S2.out.2.2.out
  go_wp2_with fail
  go_ret
  exact ⟨rfl, HB.out⟩
end Go.Proofs.YtbcfmckhgjcakaaDoor
