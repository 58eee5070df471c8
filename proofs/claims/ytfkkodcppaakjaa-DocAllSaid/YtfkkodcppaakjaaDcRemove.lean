/- doc.Remove, by its contract. -/
import Derived.Test.YtfkkodcppaakjaaDcDel
namespace Go.Proofs.Ytfkkodcppaakjaa
open Go Go.RowKit Go.Maps

theorem liCells_take : ∀ (xs : List Li) (k : Nat), (liCells xs).take (k * 4) = liCells (xs.take k)
  | [], k => by simp [liCells]
  | x :: xs, 0 => by simp [liCells]
  | x :: xs, k + 1 => by
    rw [List.take_succ_cons, liCells_cons, liCells_cons, ← liCells_take xs k, List.take_append]
    have h : x.vals.length = 4 := rfl
    rw [h, List.take_of_length_le (by rw [h]; omega), show (k + 1) * 4 - 4 = k * 4 by omega]
theorem liCells_drop : ∀ (xs : List Li) (k : Nat), (liCells xs).drop (k * 4) = liCells (xs.drop k)
  | [], k => by simp [liCells]
  | x :: xs, 0 => by simp
  | x :: xs, k + 1 => by
    rw [List.drop_succ_cons, liCells_cons, ← liCells_drop xs k, List.drop_append]
    have h : x.vals.length = 4 := rfl
    rw [h, List.drop_eq_nil_of_le (by rw [h]; omega), List.nil_append, show (k + 1) * 4 - 4 = k * 4 by omega]
theorem below_drew {w : World} : Below w.heap.size w w.drew := Below.drew (Below.refl _ _)
theorem del_cells {xs : List Li} {n i : Nat} {cur c1 c2 r1 r2 : List Value} (hn : xs.length = n) (hi : i < n) (hl : n * 4 ≤ cur.length) (htk : cur.take (n * 4) = liCells xs)
    (l1 : c1 = cur.take (i * 4) ++ liCells (xs.drop (i + 1)) ++ r1) (l2 : c2 = c1.take ((n - 1) * 4) ++ zeroL ++ r2) : c2.take ((n - 1) * 4) = liCells (xs.eraseIdx i) := by
  have ht : cur.take (i * 4) = liCells (xs.take i) := by
    rw [← liCells_take, ← htk, List.take_take]
    congr 1; omega
  have hp : (cur.take (i * 4) ++ liCells (xs.drop (i + 1))).length = (n - 1) * 4 := by
    rw [List.length_append, List.length_take, liCells_len, List.length_drop, hn]; omega
  have e1 : c1.take ((n - 1) * 4) = cur.take (i * 4) ++ liCells (xs.drop (i + 1)) := by rw [l1, List.take_left' hp]
  rw [l2, e1, List.append_assoc, List.take_left' hp, ht, ← liCells_app, List.eraseIdx_eq_take_drop_succ]
theorem grown_trans {w w1 w2 : World} {g : Nat} (h : w.grownBy w1 (some g)) (h' : w1.grownBy w2 (some g)) : w.grownBy w2 (some g) :=
  ⟨h'.os.trans h.os, h'.tape.trans h.tape, h'.output.trans h.output, Nat.le_trans h.size h'.size, fun k hk hne => (h'.block k (Nat.lt_of_lt_of_le hk h.size) hne).trans (h.block k hk hne)⟩
set_option maxHeartbeats 1000000 in
/-- What Delete leaves of an own row. -/
theorem delete_any (w : World) (B : Nat) (v : Value) (xs : List Li) (i : Nat) (hi : i < xs.length) (hown : w.ownsRow B 26 4 v xs.length (liCells xs)) :
    Calls Try.prog 28 #[v, .int .i64 i, .int .i64 ((i : Int) + 1)] w fun e w' => ∃ p c, e = .returned (.slice p (xs.length - 1) c) ∧ w'.ownsRow B 26 4 (.slice p (xs.length - 1) c) (xs.length - 1) (liCells (xs.eraseIdx i)) ∧ w.grownBy w' v.ownBlock ∧ (Value.slice p (xs.length - 1) c).ownBlock = v.ownBlock := by
  rcases hown.2 with ⟨_, h0⟩ | ⟨g, cap, cur, rfl, hB, hg, hcap, hcm, hsz, htk⟩
  · omega
  · obtain ⟨n, hn⟩ : ∃ n, xs.length = n := ⟨_, rfl⟩
    rw [hn] at hcap htk hi hown ⊢
    have hlen := liCells_len xs
    rw [hn] at hlen
    have hcell : ∀ j, j < cap * 4 → (w.cell? ⟨g, j, none⟩).isSome = true := fun j hj => by
      unfold World.cell?; rw [hg]; simp; omega
    have hfz : ∀ j, w.frozen? ⟨g, j, none⟩ = false := fun j => by unfold World.frozen?; rw [hg]; simp
    have hsrc : ∀ t u, (liCells (xs.drop (i + 1)))[t]? = some u → w.cell? ⟨g, (i + 1) * 4 + t, none⟩ = some u := fun t u hu => by
      rw [← liCells_drop, List.getElem?_drop] at hu
      have hlt : (i + 1) * 4 + t < n * 4 := by
        have := (List.getElem?_eq_some_iff.1 hu).1
        omega
      rw [hown.cellAt _ hlt]; exact hu
    have hnl : (liCells (xs.drop (i + 1))).length = (n - (i + 1)) * 4 := by rw [liCells_len, List.length_drop, hn]
    refine (delete_run w g n cap i (liCells (xs.drop (i + 1))) hi hcap hcm hnl (li_one _) hsrc hcell hfz).mono ?_
    rintro e w' ⟨rfl, rfl⟩
    have hg1 : w.drew.heap[g]? = some (.cells cur 26 (0, 0)) := hg
    obtain ⟨c1, h1, l1⟩ := setCells_blk (liCells (xs.drop (i + 1))) (i * 4) w.drew cur hg1 (by rw [hnl, hsz]; omega)
    have s1 : c1.size = cap * 4 := by
      have := congrArg List.length l1
      simp only [List.length_append, List.length_take, List.length_drop, Array.length_toList] at this
      rw [hnl, hsz] at this
      omega
    obtain ⟨c2, h2, l2⟩ := setCells_blk zeroL ((n - 1) * 4) (w.drew.setCells g (i * 4) (liCells (xs.drop (i + 1)))) c1 h1 (by rw [s1]; show _ + 4 ≤ _; omega)
    have s2 : c2.size = cap * 4 := by
      have := congrArg List.length l2
      simp only [List.length_append, List.length_take, List.length_drop, Array.length_toList] at this
      rw [s1, show zeroL.length = 4 from rfl] at this
      omega
    have he : (xs.eraseIdx i).length = n - 1 := by rw [List.length_eraseIdx, hn, if_pos hi]
    have hfin := del_cells hn hi (by rw [Array.length_toList, hsz]; omega) htk l1 l2
    have a1 : w.grownBy w.drew (some g) := ⟨rfl, rfl, rfl, Nat.le_refl _, fun _ _ _ => rfl⟩
    have a2 := setCells_grown g (liCells (xs.drop (i + 1))) (i * 4) w.drew
    have a3 := setCells_grown g zeroL ((n - 1) * 4) (w.drew.setCells g (i * 4) (liCells (xs.drop (i + 1))))
    exact ⟨some ⟨g, 0, none⟩, cap, rfl, ⟨by rw [liCells_len, he], .inr ⟨g, cap, c2, rfl, hB, h2, by omega, hcm, s2, hfin⟩⟩, grown_trans (grown_trans a1 a2) a3, rfl⟩
theorem row_ne {w : World} {B : Nat} {v : Value} {n : Nat} {cs : List Value} (h : w.ownsRow B 26 4 v n cs) {a : Nat} {xs : Array Value} {T : TypeId} (ha : w.heap[a]? = some (.cells xs T (0, 0))) (hT : T ≠ 26) : v.ownBlock ≠ some a := fun e => by
  rcases h.2 with ⟨hv, _⟩ | ⟨g, cap, cur, hv, _, hg, _⟩
  · rw [hv] at e; cases e
  · rw [hv] at e
    injection e with e
    rw [← e, hg] at ha
    injection ha with ha
    injection ha with _ h2 _
    exact hT h2.symm
theorem row_nem {w : World} {B : Nat} {v : Value} {n : Nat} {cs : List Value} (h : w.ownsRow B 26 4 v n cs) {m k : Nat} {f : Nat × Int → Option Nat} (hm : PlMap w m k f) : v.ownBlock ≠ some m := fun e => by
  rcases h.2 with ⟨hv, _⟩ | ⟨g, cap, cur, hv, _, hg, _⟩
  · rw [hv] at e; cases e
  · rw [hv] at e
    injection e with e
    exact cells_ne_map hg hm e
theorem grown_set (w : World) (g i : Nat) (u : Value) : w.grownBy (w.setCell ⟨g, i, none⟩ u) (some g) := ⟨rfl, rfl, rfl, by simp, fun k _ hk => heap_setCell_other w ⟨g, i, none⟩ k u (fun e => hk (by simp [e]))⟩
/-- What Remove answers. -/
def RemSays (w : World) (B a : Nat) (v : Value) (m k : Nat) (xs : List Li) (u : Nat) (n : Int) (e : Ending) (w' : World) : Prop := KeptBut (docS a v m) w w' ∧
  ((∃ i, posOf xs u n = some i ∧ e = .returned (.int .i64 0) ∧ ∃ v', DocAt w' B a v' m (k + xs.length) (xs.eraseIdx i) ∧ v'.ownBlock = v.ownBlock) ∨
   (posOf xs u n = none ∧ e = .returned (.int .i64 5) ∧ w = w'))
set_option maxRecDepth 100000 in
set_option maxHeartbeats 4000000 in
theorem remove_any (w : World) (B a : Nat) (v : Value) (m k : Nat) (xs : List Li) (h : DocAt w B a v m k xs) (hk : k + xs.length < maxLen) (u : Nat) (n : Int) (hu : u < 18446744073709551616) (hn : (Lit.int .i64 n).wf = true) :
    Calls Try.prog 17 #[.pointer (some ⟨a, 0, none⟩), .int .u64 u, .int .i64 n] w (RemSays w B a v m k xs u n) := by
  have cF := find_any w B a v m k xs h u n hu hn
  unfold findV at cF
  cases hq : posOf xs u n with
  | none =>
    rw [hq] at cF
    dsimp only at cF
    have HQ := Lib.hid hq
    clear hq h
    go_enter Try.func17, Try.ntmps17
    go_wp2_with (first | (go_at_call 27; refine cF.mono ?_; rintro e w1 ⟨rfl, rfl⟩))
    go_ret
    exact ⟨KeptBut.refl _ _, .inr ⟨HQ.out, rfl, rfl⟩⟩
  | some i =>
    rw [hq] at cF
    dsimp only at cF
    obtain ⟨hi, hid⟩ := pos_some hq
    have hid' : xs[i].id = (u, n) := hid
    obtain ⟨hc0, hc1, hf0⟩ := blk_cells h.blk
    have cD := delete_any w B v xs i hi h.row
    have hkey := dId_key hu hn
    obtain ⟨f, ⟨D, hown, hpl⟩, hpart⟩ := h.map
    have hmp : PlMap w m k f := ⟨D, hown, hpl⟩
    have ham := cells_ne_map h.blk hmp
    have hrm := row_nem h.row hmp
    have hra := row_ne h.row h.blk (by decide)
    have hla := h.lta
    have hlm := h.ltm
    obtain ⟨pv, cv, hv⟩ : ∃ pv cv, v = .slice pv xs.length cv := by
      rcases row_shape rfl h.row with ⟨h1, h2⟩ | ⟨g, cap, h1, _⟩
      · exact ⟨none, 0, by rw [h1, h2]; rfl⟩
      · exact ⟨_, _, h1⟩
    have H := Lib.hid h
    have HQ := Lib.hid hq
    have HPL := Lib.hid hpl
    have HPT := Lib.hid hpart
    have HID := Lib.hid hid'
    have HOW := Lib.hid hown
    have HRA := Lib.hid hra
    have HRM := Lib.hid hrm
    have HBLK := Lib.hid h.blk
    have hel : (xs.eraseIdx i).length = xs.length - 1 := by rw [List.length_eraseIdx, if_pos hi]
    have HEL := Lib.hid hel
    have HI := Lib.hid hi
    have hlen0 : (i : Int) < (xs.length : Int) := by omega
    have hi0 : (0 : Int) ≤ (i : Int) := by omega
    have hkk := hk
    unfold maxLen at hkk
    obtain ⟨N, hN⟩ : ∃ N, xs.length = N := ⟨_, rfl⟩
    have HN := Lib.hid hN
    rw [hN] at cD hv hlen0 hkk
    subst hv
    clear hq hpl hpart hid hid' hown h hmp hra hrm hel hN
    go_enter Try.func17, Try.ntmps17
    go_wp2_with (first | (go_at_call 27; refine cF.mono ?_; rintro e w1 ⟨rfl, rfl⟩))
    refine cD.mono ?_
    rintro e w2 ⟨p2, c2, rfl, hrow2, hg2, hob2⟩
    have hblk2 := (hg2.block a hla (fun e => HRA.out e.symm)).trans HBLK.out
    obtain ⟨e0, e1, f2⟩ := blk_cells hblk2
    have hs2 := hg2.size
    have hla2 : a < w2.heap.size := by omega
    have hown2 := HOW.out.kept hg2 (fun e => HRM.out e.symm)
    have hblk3 := heap_setCell_same w2 a 0 _ _ (.slice p2 (N - 1) c2) hblk2
    have hblk3' : (w2.setCell ⟨a, 0, none⟩ (.slice p2 (N - 1) c2)).heap[a]? = some (.cells #[.slice p2 (N - 1) c2, .map (some m)] 55 (0, 0)) := hblk3
    have hown3 := hown2.kept (grown_set w2 a 0 (.slice p2 (N - 1) c2)) (fun e => ham (by injection e with e; exact e.symm))
    have hrow3 := hrow2.kept (grown_set w2 a 0 (.slice p2 (N - 1) c2)) (.inr (by rw [hob2]; exact HRA.out))
    have hg3 := grown_set w2 a 0 (.slice p2 (N - 1) c2)
    obtain ⟨k3a, k3b, _⟩ := blk_cells hblk3'
    have HG2 := Lib.hid hg2
    have HB3 := Lib.hid hblk3'
    have HR3 := Lib.hid hrow3
    have HOB := Lib.hid hob2
    have HG3 := Lib.hid hg3
    clear cF cD hrow2 hg2 hblk2 hblk3 hblk3' hown2 hrow3 hob2 hg3 hc0 hc1 hf0 e1
    go_wp2_with (first
      | (at_delete; refine wpList_delete_own _ rfl _ _ 53 65 rfl 3 dIdLaw Try.underlying53 _ m k D rfl hown3 _ _ rfl hkey ?_; intro w4 hown4 hturn4))
    have hg4 := hturn4.grown
    have hrow4 := HR3.out.kept hg4 (.inr (by rw [HOB.out]; exact HRM.out))
    have hlt3 : a < (w2.setCell ⟨a, 0, none⟩ (.slice p2 (N - 1) c2)).heap.size := by simp; exact hla2
    have hblk4 := (hg4.block a hlt3 (fun e => ham (by injection e))).trans HB3.out
    have hmp4 : PlMap w4 m k (updP f (u, n) none) := ⟨_, hown4, HPL.out.del u n hu hn⟩
    have hpt4 : Part (updP f (u, n) none) (xs.eraseIdx i) i := by
      have := HPT.out.erase i hi
      rw [HID.out] at this
      exact this
    have hnd4 := erase_nodup HPT.out.nodup i
    have hN1 : (xs.eraseIdx i).length = N - 1 := by rw [HEL.out, HN.out]
    have cP := place_any w4 B a (.slice p2 (N - 1) c2) m k i (xs.eraseIdx i) _ hblk4 H.out.ha (by rw [hN1]; exact hrow4) H.out.hm hmp4 hpt4 hnd4 (fun x hx => H.out.ok x (List.mem_of_mem_eraseIdx hx)) (by rw [hN1]; omega) (by rw [hN1]; unfold maxLen; omega)
    have HN1 := Lib.hid hN1
    have HG4 := Lib.hid hg4
    have hHA := H.out.ha
    clear hg4 hrow4 hblk4 hmp4 hpt4 hnd4 hN1 hown4 hturn4 hown3 e0 f2 k3a k3b
    refine cP.mono ?_
    rintro e w5 ⟨rfl, hkb5, hD5⟩
    have HK5 := Lib.hid hkb5
    have HD5 := Lib.hid hD5
    clear cP hkb5 hD5
    go_wp2_with fail
    go_ret
    refine ⟨?_, .inl ⟨i, HQ.out, rfl, .slice p2 (N - 1) c2, ?_, HOB.out⟩⟩
    · refine KeptBut.trans ?_ HK5.out (fun j hj => .inl (.inr (.inr hj)))
      refine KeptBut.grown ?_ HG4.out (fun g hg => .inl (.inr (.inr (by injection hg with hg; exact hg.symm))))
      refine KeptBut.grown ?_ HG3.out (fun g hg => .inl (.inl (by injection hg with hg; exact hg.symm)))
      exact (KeptBut.refl _ _).grown HG2.out (fun g hg => .inl (.inr (.inl hg)))
    · have := HD5.out
      rw [HN1.out] at this
      exact this.mono (by rw [HN.out]; omega)
end Go.Proofs.Ytfkkodcppaakjaa
