/- doc.place, by its contract. -/
import Derived.Test.YtfkkodcppaakjaaDcTake1
namespace Go.Proofs.Ytfkkodcppaakjaa
open Go Go.RowKit Go.Maps

/-- The row of lines, as a slice of Go's. -/
theorem row_shape {w : World} {B : Nat} {v : Value} {xs : List Li} {n : Nat} (hn : xs.length = n) (h : w.ownsRow B 26 4 v n (liCells xs)) : (v = .slice none 0 0 ∧ xs = []) ∨
    ∃ g cap, v = .slice (some ⟨g, 0, none⟩) n cap ∧ B ≤ g ∧ g < w.heap.size ∧ n ≤ cap ∧ cap ≤ maxLen ∧ v.ownBlock = some g ∧ ∀ i (hi : i < xs.length), LiAt w g (i * 4) xs[i] := by
  subst hn
  rcases h.2 with ⟨hv, h0⟩ | ⟨g, cap, cur, hv, hB, hg, hle, hmx, _⟩
  · exact .inl ⟨hv, List.eq_nil_of_length_eq_zero h0⟩
  · have hlt : g < w.heap.size := (Array.getElem?_eq_some_iff.1 hg).1
    refine .inr ⟨g, cap, hv, hB, hlt, hle, hmx, by rw [hv]; rfl, fun i hi => ?_⟩
    subst hv
    have h0 := (h.cellAt (i * 4 + 0) (by omega)).trans (liCells_at xs i 0 hi (by omega))
    have h1 := (h.cellAt (i * 4 + 1) (by omega)).trans (liCells_at xs i 1 hi (by omega))
    have h2 := (h.cellAt (i * 4 + 2) (by omega)).trans (liCells_at xs i 2 hi (by omega))
    have h3 := (h.cellAt (i * 4 + 3) (by omega)).trans (liCells_at xs i 3 hi (by omega))
    exact ⟨h0, h1, h2, h3⟩
theorem LiAt.same {w W : World} {b o : Nat} {x : Li} (h : LiAt w b o x) (hb : W.heap[b]? = w.heap[b]?) : LiAt W b o x :=
  ⟨(World.cell?_of_block (a := ⟨b, o, none⟩) hb).trans h.1, (World.cell?_of_block (a := ⟨b, o + 1, none⟩) hb).trans h.2.1, (World.cell?_of_block (a := ⟨b, o + 2, none⟩) hb).trans h.2.2.1, (World.cell?_of_block (a := ⟨b, o + 3, none⟩) hb).trans h.2.2.2⟩
/-- What place is called with: lines that stand in a row, a map that has the first ones right. -/
structure PlaceIn (w : World) (a g m k frm cap : Nat) (xs : List Li) (f : Nat × Int → Option Nat) : Prop where
  c0 : w.cell? ⟨a, 0, none⟩ = some (.slice (some ⟨g, 0, none⟩) xs.length cap)
  c1 : w.cell? ⟨a, 1, none⟩ = some (.map (some m))
  at' : ∀ i (hi : i < xs.length), LiAt w g (i * 4) xs[i]
  ok : ∀ x ∈ xs, LiOk x
  mp : PlMap w m k f
  part : Part f xs frm
  nd : (idsOf xs).Nodup
  ga : a ≠ m
  gg : g ≠ m
  lg : g < w.heap.size
  la : a < w.heap.size
set_option maxRecDepth 100000 in
set_option maxHeartbeats 8000000 in
theorem place_some (w : World) (a g m k frm cap : Nat) (xs : List Li) (f : Nat × Int → Option Nat) (h : PlaceIn w a g m k frm cap xs f) (hlt0 : frm < xs.length) (hcap : xs.length ≤ cap) (hcm : cap ≤ maxLen) (hk : k + xs.length < maxLen) :
    Calls Try.prog 29 #[.pointer (some ⟨a, 0, none⟩), .int .i64 frm] w fun e w' => e = .returned (.tuple #[]) ∧ KeptBut (fun j => j = m) w w' ∧ ∃ f', PlMap w' m (k + xs.length) f' ∧ Part f' xs xs.length := by
  have hc0 := h.c0
  have hc1 := h.c1
  have hq := dEqlMap m
  have H := Lib.hid h
  obtain ⟨n, hn⟩ : ∃ n, xs.length = n := ⟨_, rfl⟩
  rw [hn] at hc0 hlt0 hcap hk ⊢
  have HN := Lib.hid hn
  have hcf : frm < cap := by omega
  have hcf2 : ¬ (cap = frm) := by omega
  have hf0 : (0 : Int) ≤ (frm : Int) := by omega
  have hfn : (frm : Int) ≤ (n : Int) := by omega
  unfold maxLen at hcm hk
  clear h hn
  go_enter Try.func29, Try.ntmps29
  go_wp2_with fail
  clear hq
  go_loopg [22] (n - frm) (fun g' vi wr => ∃ j : Nat, j + g' = n - frm ∧ vi = .int .i64 j ∧ Hid (KeptBut (fun j => j = m) w wr) ∧ Hid (∃ f', PlMap wr m (k + j) f' ∧ Part f' xs (frm + j)))
  case atStart => exact ⟨0, by omega, rfl, KeptBut.refl _ _, f, H.out.mp, H.out.part⟩
  case round =>
    obtain ⟨j, hj, rfl, HK, HM⟩ := hrel
    have hj0 : (0 : Int) ≤ (j : Int) := by omega
    by_cases hlt : j < n - frm
    · have hlt' : frm + j < xs.length := by rw [HN.out]; omega
      have hjI : (j : Int) < (n : Int) - (frm : Int) := by omega
      have hx := H.out.ok _ (List.getElem_mem hlt')
      have hb := HK.out.block g H.out.lg H.out.gg
      obtain ⟨g0, g1, g2, g3⟩ := (H.out.at' _ hlt').same hb
      have e4 : (frm + j) * 4 = frm * 4 + j * 4 := by omega
      rw [e4] at g0 g1 g2 g3
      have hba := HK.out.block a H.out.la H.out.ga
      have c1 : wr.cell? ⟨a, 1, none⟩ = some (.map (some m)) := (World.cell?_of_block (a := ⟨a, 1, none⟩) hba).trans H.out.c1
      obtain ⟨f', ⟨D, hown, hpl⟩, hpart⟩ := HM.out
      have HST := Lib.hid (hpart.step H.out.nd hlt')
      have hkey := dId_key hx.u hx.n
      have hsumE : ((frm + j : Nat) : Int) = (frm : Int) + (j : Int) := by omega
      have hput0 := hpl.put xs[frm + j].u xs[frm + j].n (frm + j) hx.u hx.n
      rw [hsumE] at hput0
      have hput := Lib.hid hput0
      clear hput0
      have hid : xs[frm + j].id = (xs[frm + j].u, xs[frm + j].n) := rfl
      rw [hid] at HST
      generalize xs[frm + j] = x at *
      have HOWN := Lib.hid hown
      have hsz := HK.out.size
      have hla : a < wr.heap.size := Nat.lt_of_lt_of_le H.out.la hsz
      have hlm : m < wr.heap.size := hown.lt
      have cO := fun W => dOf_any x W
      unfold Li.agg at cO
      have hwf : (Lit.int .i64 ((frm : Int) + (j : Int))).wf = true := WalkArith.wf_i64 (by omega)
      have hwr : IntKind.i64.wrap ((frm : Int) + (j : Int)) = (frm : Int) + (j : Int) := by rw [IntKind.wrap_i64]; omega
      have HWR := Lib.hid hwr
      clear hwr
      have b1 : (wr.alloc (.cells #[.int .u64 x.u, .int .i64 x.n, .int .i64 x.r, .string x.s] 26)).cell? ⟨a, 1, none⟩ = some (.map (some m)) := (World.cell?_alloc_some wr _ _ (by rw [c1]; rfl)).trans c1
      clear hb hba HM hown hpl hpart hid e4 hlt' hsumE
      go_wp2_with fail
      generalize hA0 : wr.alloc (.cells #[.int .u64 x.u, .int .i64 x.n, .int .i64 x.r, .string x.s] 26) = W0 at *
      have m0 : W0.cell? ⟨wr.heap.size, 0, none⟩ = some (.int .u64 x.u) := by rw [← hA0, World.cell?_alloc_mark]; rfl
      have m1 : W0.cell? ⟨wr.heap.size, 1, none⟩ = some (.int .i64 x.n) := by rw [← hA0, World.cell?_alloc_mark]; rfl
      have m2 : W0.cell? ⟨wr.heap.size, 2, none⟩ = some (.int .i64 x.r) := by rw [← hA0, World.cell?_alloc_mark]; rfl
      have m3 : W0.cell? ⟨wr.heap.size, 3, none⟩ = some (.string x.s) := by rw [← hA0, World.cell?_alloc_mark]; rfl
      have HB0 : Hid (Below wr.heap.size wr W0) := by rw [← hA0]; exact (Below.refl _ _).alloc (Nat.le_refl _) _
      have HS0 : Hid (W0.heap.size = wr.heap.size + 1) := by show _ = _; rw [← hA0]; simp
      have hS : (fun W : World => W.cell? ⟨a, 1, none⟩ = some (.map (some m)) ∧ W.cell? ⟨wr.heap.size, 0, none⟩ = some (.int .u64 x.u) ∧ W.cell? ⟨wr.heap.size, 1, none⟩ = some (.int .i64 x.n) ∧ W.cell? ⟨wr.heap.size, 2, none⟩ = some (.int .i64 x.r) ∧ W.cell? ⟨wr.heap.size, 3, none⟩ = some (.string x.s)) W0.drew := ⟨b1, m0, m1, m2, m3⟩
      clear hA0
      refine region_ord (fun W : World => W.cell? ⟨a, 1, none⟩ = some (.map (some m)) ∧ W.cell? ⟨wr.heap.size, 0, none⟩ = some (.int .u64 x.u) ∧ W.cell? ⟨wr.heap.size, 1, none⟩ = some (.int .i64 x.n) ∧ W.cell? ⟨wr.heap.size, 2, none⟩ = some (.int .i64 x.r) ∧ W.cell? ⟨wr.heap.size, 3, none⟩ = some (.string x.s)) [(0, true), (1, true), (2, true), (3, true), (4, true), (6, true), (7, true), (8, true), (5, false), (9, false)] (by kernel_rfl) (by kernel_rfl) (by kernel_rfl) (by kernel_rfl) hS ?_
      have HS := Lib.hid hS
      have hwr := HWR.out
      clear hS b1 m0 m1 m2 m3 c1 g0 g1 g2 g3 HWR
      iterate 8 (refine ord_take (v := ?_) rfl (by rfl) ?_ ?_; rotate_left; (focus (intro w hSw; (try dsimp only at hSw); go_simp; (try with_reducible rfl); done)); (try simp (maxSteps := 10000000) only [Act.put, List.setIfInBounds_toArray, List.set_cons_zero, List.set_cons_succ]))
      refine ord_call rfl (by rfl) (fun K hK => ?_)
      go_simp
      refine (cO _).mono ?_
      rintro e u1 ⟨rfl, hbu⟩
      have hlt0' : wr.heap.size < W0.heap.size := by rw [HS0.out]; exact Nat.lt_succ_self _
      have hS1 : (fun W : World => W.cell? ⟨a, 1, none⟩ = some (.map (some m)) ∧ W.cell? ⟨wr.heap.size, 0, none⟩ = some (.int .u64 x.u) ∧ W.cell? ⟨wr.heap.size, 1, none⟩ = some (.int .i64 x.n) ∧ W.cell? ⟨wr.heap.size, 2, none⟩ = some (.int .i64 x.r) ∧ W.cell? ⟨wr.heap.size, 3, none⟩ = some (.string x.s)) u1 := by
        obtain ⟨q1, q2, q3, q4, q5⟩ := HS.out
        have hw0 : wr.heap.size ≤ W0.heap.size := Nat.le_of_lt hlt0'
        exact ⟨(hbu.cell (p := ⟨a, 1, none⟩) (Nat.lt_of_lt_of_le hla hw0)).trans q1, (hbu.cell (p := ⟨wr.heap.size, 0, none⟩) hlt0').trans q2, (hbu.cell (p := ⟨wr.heap.size, 1, none⟩) hlt0').trans q3, (hbu.cell (p := ⟨wr.heap.size, 2, none⟩) hlt0').trans q4, (hbu.cell (p := ⟨wr.heap.size, 3, none⟩) hlt0').trans q5⟩
      have HS1 := Lib.hid hS1
      have HBU : Hid (Below wr.heap.size wr u1) := (Below.drew HB0.out).trans (hbu.mono (by show wr.heap.size ≤ W0.heap.size; exact Nat.le_of_lt hlt0'))
      clear hS1 hbu cO HS hlt0'
      go_wp2_with fail
      refine hK.out _ _ HS1.out (fun _ => ?_)
      clear hK
      (try simp (maxSteps := 10000000) only [Act.put, List.setIfInBounds_toArray, List.set_cons_zero, List.set_cons_succ])
      have hown1 := map_later HOWN.out HBU.out
      obtain ⟨w5, hrun5, hown5, hgr5⟩ := hown1.update dIdLaw Try.underlying53 (by unfold maxLen; omega) hkey (plainElem_int Try.underlying3 hwf)
      have hSz := HBU.out.size
      have HS5 : Hid ((fun W : World => W.cell? ⟨a, 1, none⟩ = some (.map (some m)) ∧ W.cell? ⟨wr.heap.size, 0, none⟩ = some (.int .u64 x.u) ∧ W.cell? ⟨wr.heap.size, 1, none⟩ = some (.int .i64 x.n) ∧ W.cell? ⟨wr.heap.size, 2, none⟩ = some (.int .i64 x.r) ∧ W.cell? ⟨wr.heap.size, 3, none⟩ = some (.string x.s)) w5) := by
        obtain ⟨q1, q2, q3, q4, q5⟩ := HS1.out
        have ne1 : some a ≠ some m := fun e => H.out.ga (by injection e)
        have ne2 : some wr.heap.size ≠ some m := fun e => by injection e with e; omega
        exact ⟨hgr5.cell q1 ne1, hgr5.cell q2 ne2, hgr5.cell q3 ne2, hgr5.cell q4 ne2, hgr5.cell q5 ne2⟩
      have HK5 : Hid (KeptBut (fun j => j = m) w w5) := (HK.out.trans (KeptBut.of_below HBU.out) (fun _ h => .inl h)).grown hgr5 (fun g' e => by injection e with e; exact .inl e.symm)
      have HM5 : Hid (∃ f', PlMap w5 m (k + (j + 1)) f' ∧ Part f' xs (frm + (j + 1))) := ⟨_, ⟨_, hown5, hput.out⟩, HST.out⟩
      clear hown1 hown5 hgr5 hput HST HK HOWN
      refine ord_call rfl (by rfl) (fun K hK => ?_)
      unfold Oper.wp
      simp only [execOp, Act.eval]
      go_simp
      refine hK.out _ _ HS5.out (fun _ => ?_)
      clear hK hrun5
      refine ord_end ?_
      go_wp2_with fail
      go_roundg (gk - 1)
      case rel => exact ⟨j + 1, by omega, by go_num, HK5, HM5⟩
      case measure => omega
    · obtain rfl : j = n - frm := by omega
      have hjI : ¬ ((((n - frm : Nat) : Int)) < (n : Int) - (frm : Int)) := by omega
      obtain ⟨f', ⟨D, hown, hpl⟩, hpart⟩ := HM.out
      have hfin : Hid (KeptBut (fun j => j = m) w wr ∧ ∃ f', PlMap wr m (k + n) f' ∧ Part f' xs n) := ⟨HK.out, f', ⟨D, hown.mono (by omega), hpl⟩, by rw [← HN.out]; exact hpart.all (by rw [HN.out]; omega)⟩
      clear HK HM hown hpl hpart
      go_wp2_with fail
      go_end0
      exact ⟨rfl, hfin.out.1, hfin.out.2⟩
end Go.Proofs.Ytfkkodcppaakjaa
