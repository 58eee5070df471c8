/- What a document asks of each line that is put in, by its contract. -/
import Derived.Test.YtfkkodcppaakjaaDcOf
import Derived.Test.YtfkkodcppaakjaaRegOrd
namespace Go.Proofs.Ytfkkodcppaakjaa
open Go Go.RowKit Go.Maps

/-- May the line not be put to these? -/
def notFit (xs : List Li) (x : Li) : Bool := decide (x.id ∈ idsOf xs) || !okLine x
theorem Places.has {w : World} {B a : Nat} {v : Value} {m k : Nat} {xs : List Li} (h : DocAt w B a v m k xs) : ∃ D : DataW Unit, w.ownsMap Try.prog 65 (plainElem Try.prog 3) m k D ∧ ∀ u n, u < 18446744073709551616 → (Lit.int .i64 n).wf = true → Maps.has D (idLit u n) = decide ((u, n) ∈ idsOf xs) := by
  obtain ⟨f, ⟨D, ho, hp⟩, hq⟩ := h.map
  refine ⟨D, ho, fun u n hu hn => ?_⟩
  rw [hp.has u n hu hn]
  by_cases hm : (u, n) ∈ idsOf xs
  · obtain ⟨x, hx, e⟩ := List.mem_map.1 hm
    obtain ⟨i, hi, rfl⟩ := List.getElem_of_mem hx
    rw [← e, hq.at' i hi hi]
    simp [idsOf]
    exact ⟨_, List.getElem_mem hi, rfl⟩
  · rw [hq.none _ hm]; simp [hm]
theorem check_two (n r : Int) (l : List UInt8) : checkE n r l = 0 ∨ checkE n r l = 10 := by unfold checkE; split <;> simp
theorem DocAt.cell1 {w : World} {B a : Nat} {v : Value} {m k : Nat} {xs : List Li} (h : DocAt w B a v m k xs) : w.cell? ⟨a, 1, none⟩ = some (.map (some m)) := by
  unfold World.cell?; rw [h.blk]; rfl
theorem DocAt.cell0 {w : World} {B a : Nat} {v : Value} {m k : Nat} {xs : List Li} (h : DocAt w B a v m k xs) : w.cell? ⟨a, 0, none⟩ = some v := by
  unfold World.cell?; rw [h.blk]; rfl
set_option maxRecDepth 100000 in
set_option maxHeartbeats 4000000 in
theorem takes1_any (w : World) (B a bx : Nat) (v : Value) (m k : Nat) (xs : List Li) (h : DocAt w B a v m k xs) (hbx : w.cell? ⟨bx, 0, none⟩ = some (.pointer (some ⟨a, 0, none⟩))) (x : Li) (hx : LiOk x) :
    Calls Try.prog 40 (#[x.agg] ++ #[.pointer (some ⟨bx, 0, none⟩)]) w fun e w' => e = .returned (.bool (notFit xs x)) ∧ Below w.heap.size w w' := by
  obtain ⟨D, hown, hhas0⟩ := Places.has h
  have hhas := hhas0 x.u x.n hx.u hx.n
  have hc1 := h.cell1
  have hla := h.lta
  have hlb := World.block_lt_of_cell? w _ hbx
  have hkey := dId_key hx.u hx.n
  have cO := fun W => dOf_any x W
  have cC := fun W => check_any x.u x.n x.r x.s W hx.s
  have hE := check_two x.n x.r x.s.data.toList
  have hres : notFit xs x = (Maps.has D (idLit x.u x.n) || !(checkE x.n x.r x.s.data.toList == 0)) := by unfold notFit okLine; rw [hhas]; rfl
  rw [hres]
  have a1 : (w.alloc (.cells #[.int .u64 x.u, .int .i64 x.n, .int .i64 x.r, .string x.s] 26)).cell? ⟨bx, 0, none⟩ = some (.pointer (some ⟨a, 0, none⟩)) := (World.cell?_alloc_some w _ _ (by rw [hbx]; rfl)).trans hbx
  have a2 : (w.alloc (.cells #[.int .u64 x.u, .int .i64 x.n, .int .i64 x.r, .string x.s] 26)).cell? ⟨a, 1, none⟩ = some (.map (some m)) := (World.cell?_alloc_some w _ _ (by rw [hc1]; rfl)).trans hc1
  generalize checkE x.n x.r x.s.data.toList = E at *
  obtain ⟨hs, hhs⟩ : ∃ hs, Maps.has D (idLit x.u x.n) = hs := ⟨_, rfl⟩
  rw [hhs]
  have HHS := Lib.hid hhs
  have HOWN := Lib.hid hown
  have HX := Lib.hid hx
  unfold Li.agg at cO ⊢
  clear hhas0 hhas hres h hhs hown hbx hc1
  generalize hA0 : w.alloc (.cells #[.int .u64 x.u, .int .i64 x.n, .int .i64 x.r, .string x.s] 26) = W0 at *
  have HA0 := Lib.hid hA0
  have hs0 : W0.heap.size = w.heap.size + 1 := by rw [← hA0]; simp
  have m0 : W0.cell? ⟨w.heap.size, 0, none⟩ = some (.int .u64 x.u) := by rw [← hA0, World.cell?_alloc_mark]; rfl
  have m1 : W0.cell? ⟨w.heap.size, 1, none⟩ = some (.int .i64 x.n) := by rw [← hA0, World.cell?_alloc_mark]; rfl
  have m2 : W0.cell? ⟨w.heap.size, 2, none⟩ = some (.int .i64 x.r) := by rw [← hA0, World.cell?_alloc_mark]; rfl
  have m3 : W0.cell? ⟨w.heap.size, 3, none⟩ = some (.string x.s) := by rw [← hA0, World.cell?_alloc_mark]; rfl
  have hB0 : Below w.heap.size w W0 := by rw [← hA0]; exact (Below.refl _ _).alloc (Nat.le_refl _) _
  subst hA0
  go_enter Try.func40, Try.ntmps40
  go_wp2_with fail
  have HS0 := Lib.hid hs0
  have HBB := Lib.hid hB0
  clear HA0 hs0 hB0
  generalize w.alloc (.cells #[.int .u64 x.u, .int .i64 x.n, .int .i64 x.r, .string x.s] 26) = W0 at *
  have hS : (fun W : World => W.cell? ⟨bx, 0, none⟩ = some (.pointer (some ⟨a, 0, none⟩)) ∧ W.cell? ⟨a, 1, none⟩ = some (.map (some m)) ∧ W.cell? ⟨w.heap.size, 0, none⟩ = some (.int .u64 x.u) ∧ W.cell? ⟨w.heap.size, 1, none⟩ = some (.int .i64 x.n) ∧ W.cell? ⟨w.heap.size, 2, none⟩ = some (.int .i64 x.r) ∧ W.cell? ⟨w.heap.size, 3, none⟩ = some (.string x.s)) W0.drew := ⟨a1, a2, m0, m1, m2, m3⟩
  refine region_ord (fun W : World => W.cell? ⟨bx, 0, none⟩ = some (.pointer (some ⟨a, 0, none⟩)) ∧ W.cell? ⟨a, 1, none⟩ = some (.map (some m)) ∧ W.cell? ⟨w.heap.size, 0, none⟩ = some (.int .u64 x.u) ∧ W.cell? ⟨w.heap.size, 1, none⟩ = some (.int .i64 x.n) ∧ W.cell? ⟨w.heap.size, 2, none⟩ = some (.int .i64 x.r) ∧ W.cell? ⟨w.heap.size, 3, none⟩ = some (.string x.s)) [(0, true), (1, true), (2, true), (3, true), (4, true), (5, false), (6, false), (7, true), (8, true), (9, true), (10, true), (11, true)] (by kernel_rfl) (by kernel_rfl) (by kernel_rfl) (by kernel_rfl) hS ?_
  have HS := Lib.hid hS
  clear hS a1 a2 m0 m1 m2 m3
  iterate 5 (refine ord_take (v := ?_) rfl (by rfl) ?_ ?_; rotate_left; (focus (intro w hSw; (try dsimp only at hSw); go_simp; (try with_reducible rfl); done)); (try simp (maxSteps := 10000000) only [Act.put, List.setIfInBounds_toArray, List.set_cons_zero, List.set_cons_succ]))
  refine ord_call rfl (by rfl) (fun K hK => ?_)
  go_simp
  refine (cO _).mono ?_
  rintro e u1 ⟨rfl, hbu⟩
  have hlt : w.heap.size < W0.heap.size := by rw [HS0.out]; exact Nat.lt_succ_self _
  have hS1 : u1.cell? ⟨bx, 0, none⟩ = some (.pointer (some ⟨a, 0, none⟩)) ∧ u1.cell? ⟨a, 1, none⟩ = some (.map (some m)) ∧ u1.cell? ⟨w.heap.size, 0, none⟩ = some (.int .u64 x.u) ∧ u1.cell? ⟨w.heap.size, 1, none⟩ = some (.int .i64 x.n) ∧ u1.cell? ⟨w.heap.size, 2, none⟩ = some (.int .i64 x.r) ∧ u1.cell? ⟨w.heap.size, 3, none⟩ = some (.string x.s) := by
    obtain ⟨q1, q2, q3, q4, q5, q6⟩ := HS.out
    have hw0 : w.heap.size ≤ W0.heap.size := Nat.le_of_lt hlt
    exact ⟨(hbu.cell (p := ⟨bx, 0, none⟩) (Nat.lt_of_lt_of_le hlb hw0)).trans q1, (hbu.cell (p := ⟨a, 1, none⟩) (Nat.lt_of_lt_of_le hla hw0)).trans q2, (hbu.cell (p := ⟨w.heap.size, 0, none⟩) hlt).trans q3, (hbu.cell (p := ⟨w.heap.size, 1, none⟩) hlt).trans q4, (hbu.cell (p := ⟨w.heap.size, 2, none⟩) hlt).trans q5, (hbu.cell (p := ⟨w.heap.size, 3, none⟩) hlt).trans q6⟩
  have HS1 := Lib.hid hS1
  have HBU : Hid (Below w.heap.size w u1) := (Below.drew HBB.out).trans (hbu.mono (by show w.heap.size ≤ W0.heap.size; exact Nat.le_of_lt hlt))
  clear hS1 hbu cO HS
  go_wp2_with fail
  refine hK.out _ _ HS1.out (fun _ => ?_)
  clear hK
  (try simp (maxSteps := 10000000) only [Act.put, List.setIfInBounds_toArray, List.set_cons_zero, List.set_cons_succ])
  have hown1 := map_later HOWN.out HBU.out
  obtain ⟨lv, ps, hrun, hRv⟩ := hown1.look_ok dIdLaw Try.underlying53 (dZeroInt _) (plainElem_int (a := 0) Try.underlying3 (by decide)) hkey
  obtain ⟨cv, rfl, _, _⟩ := plainElem_int_inv Try.underlying3 hRv
  rw [HHS.out] at hrun
  clear hown1 hRv
  refine ord_call rfl (by rfl) (fun K hK => ?_)
  unfold Oper.wp
  simp only [execOp, Act.eval]
  go_simp
  refine hK.out _ _ HS1.out (fun _ => ?_)
  clear hK hrun
  iterate 5 (refine ord_take (v := ?_) rfl (by rfl) ?_ ?_; rotate_left; (focus (intro w hSw; (try dsimp only at hSw); go_simp; (try with_reducible rfl); done)); (try simp (maxSteps := 10000000) only [Act.put, List.setIfInBounds_toArray, List.set_cons_zero, List.set_cons_succ]))
  refine ord_end ?_
  obtain ⟨_, _, q3, q4, q5, q6⟩ := HS1.out
  cases hs with
  | true =>
    go_wp2_with fail
    go_ret
    exact ⟨rfl, HBU.out⟩
  | false =>
    rcases hE with rfl | rfl
    all_goals
      go_wp2_with (first | (go_at_call 41; refine (cC _).mono ?_; rintro e u2 ⟨rfl, hb2⟩))
      go_ret
      exact ⟨rfl, HBU.out.trans (hb2.mono HBU.out.size)⟩
end Go.Proofs.Ytfkkodcppaakjaa
