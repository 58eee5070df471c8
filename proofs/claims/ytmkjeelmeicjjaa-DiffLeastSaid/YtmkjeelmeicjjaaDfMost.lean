/- diff.greatest: the table of greatest numbers, looked into by a closure. -/
import Derived.Test.YtmkjeelmeicjjaaDfLike
import Derived.StillTailTactics
import Derived.Shelf.Abstract
namespace Go.Proofs.Ytmkjeelmeicjjaa
open Go Go.RowKit

/-- How many can stay from two places on. -/
def Lc (x y : List Tx) (i j : Nat) : Nat := lcs (x.drop i) (y.drop j)
theorem Lc_step (x y : List Tx) (i j : Nat) (hi : i < x.length) (hj : j < y.length) : Lc x y i j = if x[i]? = y[j]? then Lc x y (i + 1) (j + 1) + 1 else max (Lc x y (i + 1) j) (Lc x y i (j + 1)) := by
  unfold Lc
  rw [List.drop_eq_getElem_cons hi, List.drop_eq_getElem_cons hj, lcs_cons, List.getElem?_eq_getElem hi, List.getElem?_eq_getElem hj]
  simp only [Option.some.injEq]
theorem Lc_right (x y : List Tx) (i : Nat) : Lc x y i y.length = 0 := by unfold Lc; rw [List.drop_length, lcs_nil]
theorem Lc_down (x y : List Tx) (j : Nat) : Lc x y x.length j = 0 := by unfold Lc; rw [List.drop_length, lcs_nil']
theorem Lc_le (x y : List Tx) (i j : Nat) : Lc x y i j ≤ x.length := by
  obtain ⟨l, h1, _, h3⟩ := lcs_sub (x.drop i) (y.drop j)
  have := h1.length_le
  unfold Lc
  rw [List.length_drop] at this
  omega
/-- The table, done from place q on. -/
def tab (x y : List Tx) (q : Nat) : List Value := (List.range ((x.length + 1) * (y.length + 1))).map fun k => .int .i64 ((if q ≤ k then Lc x y (k / (y.length + 1)) (k % (y.length + 1)) else 0 : Nat) : Int)
theorem tab_len (x y : List Tx) (q : Nat) : (tab x y q).length = (x.length + 1) * (y.length + 1) := by simp [tab]
theorem tab_at (x y : List Tx) (q i j : Nat) (hi : i ≤ x.length) (hj : j ≤ y.length) (hq : q ≤ i * (y.length + 1) + j) : i * (y.length + 1) + j < (x.length + 1) * (y.length + 1) ∧ (tab x y q)[i * (y.length + 1) + j]? = some (.int .i64 (Lc x y i j : Nat)) := by
  have hlt : i * (y.length + 1) + j < (x.length + 1) * (y.length + 1) := by
    have : (i + 1) * (y.length + 1) ≤ (x.length + 1) * (y.length + 1) := Nat.mul_le_mul_right _ (by omega)
    rw [Nat.add_mul] at this
    omega
  refine ⟨hlt, ?_⟩
  unfold tab
  rw [List.getElem?_map, List.getElem?_range hlt, Option.map_some, if_pos hq]
  have h1 : (i * (y.length + 1) + j) / (y.length + 1) = i := by
    rw [Nat.mul_comm, Nat.mul_add_div (by omega), Nat.div_eq_of_lt (by omega), Nat.add_zero]
  have h2 : (i * (y.length + 1) + j) % (y.length + 1) = j := by
    rw [Nat.mul_comm, Nat.mul_add_mod, Nat.mod_eq_of_lt (by omega)]
  rw [h1, h2]
theorem tab_set (x y : List Tx) (i j : Nat) (hi : i ≤ x.length) (hj : j ≤ y.length) : (tab x y (i * (y.length + 1) + j + 1)).set (i * (y.length + 1) + j) (.int .i64 (Lc x y i j : Nat)) = tab x y (i * (y.length + 1) + j) := by
  have h := (tab_at x y (i * (y.length + 1) + j) i j hi hj (Nat.le_refl _))
  generalize i * (y.length + 1) + j = q at *
  apply List.ext_getElem?
  intro k
  by_cases e : q = k
  · subst e
    rw [List.getElem?_set_self (by rw [tab_len]; exact h.1), h.2]
  · rw [List.getElem?_set_ne e]
    unfold tab
    rw [List.getElem?_map, List.getElem?_map]
    by_cases hk : k < (x.length + 1) * (y.length + 1)
    · rw [List.getElem?_range hk]
      simp only [Option.map_some]
      by_cases h1 : q + 1 ≤ k
      · rw [if_pos h1, if_pos (by omega : q ≤ k)]
      · rw [if_neg h1, if_neg (by omega : ¬ q ≤ k)]
    · rw [List.getElem?_eq_none (by simpa using hk)]; rfl
theorem tab_row (x y : List Tx) (i : Nat) (hi : i < x.length) : tab x y (i * (y.length + 1) + y.length) = tab x y ((i + 1) * (y.length + 1)) := by
  have h := tab_set x y i y.length (by omega) (Nat.le_refl _)
  have e : i * (y.length + 1) + y.length + 1 = (i + 1) * (y.length + 1) := by rw [Nat.add_mul, Nat.one_mul]; omega
  rw [e, Lc_right] at h
  have hz : (tab x y ((i + 1) * (y.length + 1)))[i * (y.length + 1) + y.length]? = some (.int .i64 0) := by
    have hlt := (tab_at x y 0 i y.length (by omega) (Nat.le_refl _) (Nat.zero_le _)).1
    unfold tab
    rw [List.getElem?_map, List.getElem?_range hlt, Option.map_some, if_neg (by omega)]; rfl
  rw [← h]
  obtain ⟨hl, hg⟩ := List.getElem?_eq_some_iff.1 hz
  apply List.ext_getElem?
  intro k
  by_cases e' : i * (y.length + 1) + y.length = k
  · subst e'
    rw [List.getElem?_set_self hl, hz]; rfl
  · rw [List.getElem?_set_ne e']
theorem tab_none (x y : List Tx) : tab x y (x.length * (y.length + 1)) = List.replicate ((x.length + 1) * (y.length + 1)) (.int .i64 0) := by
  unfold tab
  apply List.ext_getElem?
  intro k
  rw [List.getElem?_map, List.getElem?_replicate]
  by_cases hk : k < (x.length + 1) * (y.length + 1)
  · rw [List.getElem?_range hk, if_pos hk, Option.map_some]
    by_cases h : x.length * (y.length + 1) ≤ k
    · have hd : k / (y.length + 1) = x.length := by
        refine Nat.div_eq_of_lt_le h (by rw [Nat.mul_comm]; simpa [Nat.mul_comm] using hk)
      rw [if_pos h, hd, Lc_down]; rfl
    · rw [if_neg h]; rfl
  · rw [List.getElem?_eq_none (by simpa using hk), if_neg hk]; rfl
/-- What a function value answers of two places: a number; nothing is written. -/
def SaysN (w : World) (g : Nat) (cb : Array Value) (f : Nat → Nat → Nat) (m n : Nat) : Prop := ∀ (W : World) (i j : Nat), Below w.heap.size w W → i ≤ m → j ≤ n → Calls Try.prog g (#[.int .i64 (i : Nat), .int .i64 (j : Nat)] ++ cb) W fun e w' => e = .returned (.int .i64 (f i j : Nat)) ∧ w' = W
set_option maxRecDepth 100000 in
set_option maxHeartbeats 4000000 in
theorem most_at (W : World) (g8 g7 gt N i j n : Nat) (v : Nat) (hN : N ≤ 140737488355328) (hlt : i * (n + 1) + j < N) (c8 : W.cell? ⟨g8, 0, none⟩ = some (.slice (some ⟨gt, 0, none⟩) N N)) (c7 : W.cell? ⟨g7, 0, none⟩ = some (.int .i64 ((n : Int) + 1))) (ct : W.cell? ⟨gt, i * (n + 1) + j, none⟩ = some (.int .i64 (v : Nat))) :
    Calls Try.prog 51 #[.int .i64 (i : Nat), .int .i64 (j : Nat), .pointer (some ⟨g8, 0, none⟩), .pointer (some ⟨g7, 0, none⟩)] W fun e w' => e = .returned (.int .i64 (v : Nat)) ∧ w' = W := by
  have hm : (i : Int) * ((n : Int) + 1) = ((i * (n + 1) : Nat) : Int) := by rw [Int.natCast_mul]; rfl
  have hw1 : wrap64 ((i : Int) * ((n : Int) + 1)) = ((i * (n + 1) : Nat) : Int) := by rw [hm]; exact Go.IntWalk.wrap64_in _ ⟨by omega, by omega⟩
  have hw2 : wrap64 (((i * (n + 1) : Nat) : Int) + (j : Int)) = ((i * (n + 1) + j : Nat) : Int) := by
    rw [Int.natCast_add (i * (n + 1)) j]; exact Go.IntWalk.wrap64_in _ ⟨by omega, by omega⟩
  have hb0 : (0 : Int) ≤ ((i * (n + 1) + j : Nat) : Int) := by omega
  have hb1 : ((i * (n + 1) + j : Nat) : Int) < (N : Int) := by omega
  clear hm hlt
  generalize i * (n + 1) + j = u at *
  generalize ((i * (n + 1) : Nat) : Int) = z at *
  go_enter Try.func51, Try.ntmps51
  go_wp2_with fail
  go_ret
  exact ⟨rfl, rfl⟩
theorem idxW (i j n N : Nat) (h : i * (n + 1) + j < N) (hN : N ≤ 4194304) : ∃ z : Int, IntKind.i64.wrap ((i : Int) * ((n : Int) + 1)) = z ∧ IntKind.i64.wrap (z + (j : Int)) = ((i * (n + 1) + j : Nat) : Int) ∧ (0 : Int) ≤ ((i * (n + 1) + j : Nat) : Int) ∧ ((i * (n + 1) + j : Nat) : Int) < (N : Int) := by
  have hm : (i : Int) * ((n : Int) + 1) = ((i * (n + 1) : Nat) : Int) := by rw [Int.natCast_mul]; rfl
  refine ⟨((i * (n + 1) : Nat) : Int), ?_, ?_, by omega, by omega⟩
  · rw [Go.IntWalk.i64_left, hm]; exact Go.IntWalk.wrap64_in _ ⟨by omega, by omega⟩
  · rw [Go.IntWalk.i64_left, Int.natCast_add (i * (n + 1)) j]; exact Go.IntWalk.wrap64_in _ ⟨by omega, by omega⟩
theorem wrapS (k : Int) (h0 : 0 ≤ k) (h1 : k ≤ 8796093022208) : IntKind.i64.wrap (k + 1) = k + 1 := by
  rw [Go.IntWalk.i64_left]; exact Go.IntWalk.wrap64_in _ ⟨by omega, by omega⟩
/-- The memory while the table is filled. -/
structure GtSt (s N : Nat) (W0 : World) (x y : List Tx) (q : Nat) (wr : World) : Prop where
  kept : KeptBut (fun b => b = s + 1) W0 wr
  row : wr.ownsRow (s + 1) 3 1 (.slice (some ⟨s + 1, 0, none⟩) N N) N (tab x y q)
theorem GtSt.drewN {s N : Nat} {W0 : World} {x y : List Tx} {q : Nat} {wr : World} (h : GtSt s N W0 x y q wr) (k : Nat) : GtSt s N W0 x y q (wr.drewN k) :=
  ⟨⟨h.kept.os, h.kept.tape, h.kept.output, h.kept.size, h.kept.block⟩, row_later h.row (belowDN (Below.refl _ _) k)⟩
theorem GtSt.drew {s N : Nat} {W0 : World} {x y : List Tx} {q : Nat} {wr : World} (h : GtSt s N W0 x y q wr) : GtSt s N W0 x y q wr.drew :=
  ⟨⟨h.kept.os, h.kept.tape, h.kept.output, h.kept.size, h.kept.block⟩, row_later h.row (Below.drew (Below.refl _ _))⟩
theorem GtSt.set {s N : Nat} {W0 : World} {x y : List Tx} {i j : Nat} {wr : World} (h : GtSt s N W0 x y (i * (y.length + 1) + j + 1) wr) (hi : i ≤ x.length) (hj : j ≤ y.length) :
    GtSt s N W0 x y (i * (y.length + 1) + j) (wr.setCell ⟨s + 1, i * (y.length + 1) + j, none⟩ (.int .i64 (Lc x y i j : Nat))) := by
  refine ⟨h.kept.set (s + 1) _ _ (.inl rfl), ?_⟩
  have := (h.row.stored (i * (y.length + 1) + j) (.int .i64 (Lc x y i j : Nat))).1
  rw [tab_set x y i j hi hj] at this
  exact this
theorem GtSt.look {s N : Nat} {W0 : World} {x y : List Tx} {q : Nat} {wr : World} (h : GtSt s N W0 x y q wr) (hN : N = (x.length + 1) * (y.length + 1)) (i j : Nat) (hi : i ≤ x.length) (hj : j ≤ y.length) (hq : q ≤ i * (y.length + 1) + j) :
    i * (y.length + 1) + j < N ∧ wr.cell? ⟨s + 1, i * (y.length + 1) + j, none⟩ = some (.int .i64 (Lc x y i j : Nat)) := by
  obtain ⟨h1, h2⟩ := tab_at x y q i j hi hj hq
  exact ⟨by omega, (h.row.cellAt _ (by omega)).trans h2⟩
theorem GtSt.box {s N : Nat} {W0 : World} {x y : List Tx} {q : Nat} {wr : World} (h : GtSt s N W0 x y q wr) {g : Nat} {u : Value} (hg : g < W0.heap.size) (hne : g ≠ s + 1) (hc : W0.cell? ⟨g, 0, none⟩ = some u) : wr.cell? ⟨g, 0, none⟩ = some u :=
  (World.cell?_of_block (a := ⟨g, 0, none⟩) (h.kept.block g hg hne)).trans hc
set_option maxRecDepth 100000 in
set_option maxHeartbeats 4000000 in
theorem greatest_any (w : World) (m n g : Nat) (cb : Array Value) (x y : List Tx) (hm : x.length = m) (hn : y.length = n) (hb : (m + 1) * (n + 1) ≤ 4194304) (eg : ∀ args W, (callFunc g args).run Try.prog W = .ok (.enter g args) W) (hs : SaysB w g cb (fun i j => decide (x[i]? = y[j]?)) m n) :
    Calls Try.prog 45 #[.int .i64 m, .int .i64 n, .func (.func g) #[] cb] w fun e w' => Below w.heap.size w w' ∧ ∃ cb', e = .returned (.func (.func 51) #[] cb') ∧ SaysN w' 51 cb' (Lc x y) m n := by
  obtain ⟨i0, hi, hz0, hz1, hz2⟩ := info_parts intInfo
  have hm4 : m ≤ 4194304 := by
    have : (m + 1) * 1 ≤ (m + 1) * (n + 1) := Nat.mul_le_mul_left _ (by omega)
    omega
  have hn4 : n ≤ 4194304 := by
    have : 1 * (n + 1) ≤ (m + 1) * (n + 1) := Nat.mul_le_mul_right _ (by omega)
    omega
  obtain ⟨N, hN⟩ : ∃ N, N = (m + 1) * (n + 1) := ⟨_, rfl⟩
  rw [← hN] at hb
  have hNI : ((m : Int) + 1) * ((n : Int) + 1) = (N : Int) := by rw [hN, Int.natCast_mul]; rfl
  have hNw : wrap64 (((m : Int) + 1) * ((n : Int) + 1)) = (N : Int) := by rw [hNI]; exact Go.IntWalk.wrap64_in _ ⟨by omega, by omega⟩
  have hmk := run_make (P := Try.prog) (w.alloc (.cells #[.int .i64 ((n : Int) + 1)] 3)) 55 3 i0 (.int .i64 0) Try.underlying55 hi hz0 .i64 .i64 (N : Int) (N : Int) (by omega) (Int.le_refl _) (by rw [hz2]; omega) (by omega)
  have ho1 := World.ownsRow_lit (e := 3) (size := 1) (base := w.heap.size + 1) (w.alloc (.cells #[.int .i64 ((n : Int) + 1)] 3)) (madeCells (Value.int .i64 0).cells (N * i0.size)) N (by simp) (by unfold maxLen; omega) (by rw [hz1]; simp [madeCells])
  simp only [Int.toNat_natCast] at hmk
  have e1 : (w.alloc (.cells #[.int .i64 ((n : Int) + 1)] 3)).heap.size = w.heap.size + 1 := by simp
  rw [e1] at hmk ho1
  rw [hz1, Nat.mul_one, show (Value.int .i64 0).cells = #[Value.int .i64 0] from rfl] at hmk ho1
  rw [toList_madeCells_one] at ho1
  obtain ⟨w2, hw2⟩ : ∃ w2, w2 = ((w.alloc (.cells #[.int .i64 ((n : Int) + 1)] 3)).alloc (.cells (madeCells #[.int .i64 0] N) 3)).alloc (.cells #[.slice (some ⟨w.heap.size + 1, 0, none⟩) N N] 55) := ⟨_, rfl⟩
  have hs2 : w2.heap.size = w.heap.size + 3 := by rw [hw2]; simp
  have hB2 : Below w.heap.size w w2 := by
    rw [hw2]
    exact (((Below.refl _ w).alloc (Nat.le_refl _) _).alloc (by simp) _).alloc (by simp; omega) _
  have hst : GtSt w.heap.size N w2 x y (x.length * (y.length + 1)) w2 := by
    refine ⟨KeptBut.refl _ _, ?_⟩
    rw [tab_none, hm, hn, ← hN, hw2]
    exact ho1.alloc _
  have c7 : w2.cell? ⟨w.heap.size, 0, none⟩ = some (.int .i64 ((n : Int) + 1)) := by
    rw [hw2]
    have h0 : (w.alloc (.cells #[.int .i64 ((n : Int) + 1)] 3)).cell? ⟨w.heap.size, 0, none⟩ = some (.int .i64 ((n : Int) + 1)) := by rw [World.cell?_alloc_mark]; rfl
    have h1 := (World.cell?_alloc_some _ _ (.cells (madeCells #[.int .i64 0] N) 3) (by rw [h0]; rfl)).trans h0
    exact (World.cell?_alloc_some _ _ _ (by rw [h1]; rfl)).trans h1
  have c8 : w2.cell? ⟨w.heap.size + 2, 0, none⟩ = some (.slice (some ⟨w.heap.size + 1, 0, none⟩) N N) := by
    rw [hw2]
    have : ((w.alloc (.cells #[.int .i64 ((n : Int) + 1)] 3)).alloc (.cells (madeCells #[.int .i64 0] N) 3)).heap.size = w.heap.size + 2 := by simp
    rw [← this, World.cell?_alloc_mark]; rfl
  have HST := Lib.hid hst
  have HB2 := Lib.hid hB2
  have HC7 := Lib.hid c7
  have HC8 := Lib.hid c8
  have HS := Lib.hid hs
  have HN := Lib.hid hN
  have HM := Lib.hid hm
  have HNN := Lib.hid hn
  clear hst hB2 c7 c8 hs hN ho1 hNI hm hn
  go_enter Try.func45, Try.ntmps45
  go_upto_region 3 with fail
  rw [← hw2]
  clear hmk hw2 e1 hNw
  go_wp2_with fail
  go_loopw [10] (fun v wr => ∃ k : Nat, k ≤ m ∧ v = .int .i64 ((k : Int) - 1) ∧ Hid (GtSt w.heap.size N w2 x y (k * (y.length + 1)) wr)) (fun v _ => (intOf v + 1).toNat)
  case atStart => exact ⟨m, Nat.le_refl _, rfl, by rw [← HM.out]; exact HST.out⟩
  case round =>
    obtain ⟨k, hk, rfl, HG⟩ := hrel
    cases k with
    | zero =>
      have hfin : SaysN wr 51 #[.pointer (some ⟨w.heap.size + 2, 0, none⟩), .pointer (some ⟨w.heap.size, 0, none⟩)] (Lc x y) m n := fun V i j hV hi hj => by
        have hst : GtSt w.heap.size N w2 x y 0 V := by
          have h0 := HG.out
          rw [Nat.zero_mul] at h0
          refine ⟨⟨hV.os.trans h0.kept.os, hV.tape.trans h0.kept.tape, hV.output.trans h0.kept.output, Nat.le_trans h0.kept.size hV.size, fun b hb hne => (hV.block b (Nat.lt_of_lt_of_le hb h0.kept.size)).trans (h0.kept.block b hb hne)⟩, row_later h0.row hV⟩
        obtain ⟨h1, h2⟩ := hst.look (by rw [HM.out, HNN.out]; exact HN.out) i j (by rw [HM.out]; exact hi) (by rw [HNN.out]; exact hj) (Nat.zero_le _)
        rw [HNN.out] at h1 h2
        exact most_at V (w.heap.size + 2) w.heap.size (w.heap.size + 1) N i j n (Lc x y i j) (by omega) h1 (hst.box (by omega) (by omega) HC8.out) (hst.box (by omega) (by omega) HC7.out) h2
      have hbe : Below w.heap.size w wr := HG.out.kept.below HB2.out (by omega) (fun b hb => by omega)
      have HF := Lib.hid hfin
      have HB := Lib.hid hbe
      clear hfin hbe HG
      go_wp2_with fail
      go_ret
      exact ⟨HB.out, _, rfl, HF.out⟩
    | succ i =>
      have e0 : ((i + 1 : Nat) : Int) - 1 = (i : Int) := by omega
      rw [e0]
      have hi0 : (0 : Int) ≤ (i : Int) := by omega
      have hst0 : GtSt w.heap.size N w2 x y (i * (y.length + 1) + n) wr := ⟨HG.out.kept, by rw [← HNN.out, tab_row x y i (by rw [HM.out]; omega)]; exact HG.out.row⟩
      have him : i < m := by omega
      have HST0 := Lib.hid hst0
      clear HG hst0 e0
      go_wp2_with fail
      go_loopw [11] (fun v wr => ∃ h : Nat, h ≤ n ∧ v = .int .i64 ((h : Int) - 1) ∧ Hid (GtSt w.heap.size N w2 x y (i * (y.length + 1) + h) wr)) (fun v _ => (intOf v + 1).toNat)
      case atStart => exact ⟨n, Nat.le_refl _, rfl, HST0.out⟩
      case round =>
        obtain ⟨h, hh, rfl, HG⟩ := hrel
        cases h with
        | zero =>
          go_wp2_with fail
          go_roundw
          case rel => exact ⟨i, by omega, rfl, by exact HG.out⟩
          case measure => simp [intOf]
        | succ j =>
          have e0 : ((j + 1 : Nat) : Int) - 1 = (j : Int) := by omega
          rw [e0]
          have hj0 : (0 : Int) ≤ (j : Int) := by omega
          have hbe : Below w.heap.size w wr := HG.out.kept.below HB2.out (by omega) (fun b hb => by omega)
          have cS := HS.out wr i j hbe him (by omega)
          simp only at cS
          have hix : i < x.length := by rw [HM.out]; exact him
          have hjy : j < y.length := by rw [HNN.out]; omega
          have hL := Lc_step x y i j hix hjy
          by_cases hd : x[i]? = y[j]?
          · rw [decide_eq_true hd] at cS
            rw [if_pos hd] at hL
            have HL := Lib.hid hL
            clear hd hL e0 hbe
            have hlook := Lib.hid (fun V (h : GtSt w.heap.size N w2 x y (i * (y.length + 1) + (j + 1)) V) a b (ha : a ≤ m) (hb : b ≤ n) (hq : i * (y.length + 1) + (j + 1) ≤ a * (y.length + 1) + b) => (show a * (n + 1) + b < N ∧ V.cell? ⟨w.heap.size + 1, a * (n + 1) + b, none⟩ = some (.int .i64 (Lc x y a b : Nat)) from by
              have := h.look (by rw [HM.out, HNN.out]; exact HN.out) a b (by rw [HM.out]; exact ha) (by rw [HNN.out]; exact hb) hq
              rwa [HNN.out] at this))
            have hq1 : i * (y.length + 1) + (j + 1) ≤ (i + 1) * (y.length + 1) + (j + 1) := by rw [Nat.add_mul, Nat.one_mul]; omega
            have hq0 : i * (n + 1) + j < N := by
              rw [HN.out]
              have : (i + 1) * (n + 1) ≤ (m + 1) * (n + 1) := Nat.mul_le_mul_right _ (by omega)
              rw [Nat.add_mul, Nat.one_mul] at this
              omega
            go_wp2_with (go_at_fn g; refine cS.mono ?_; rintro e wv ⟨rfl, qv, rfl⟩)
            have hV := HG.out.drewN qv
            generalize wr.drewN qv = V at *
            have hVd := hV.drew
            have c8 : V.drew.cell? ⟨w.heap.size + 1 + 1, 0, none⟩ = some (.slice (some ⟨w.heap.size + 1, 0, none⟩) N N) := hVd.box (by omega) (by omega) HC8.out
            have c7 : V.drew.cell? ⟨w.heap.size, 0, none⟩ = some (.int .i64 ((n : Int) + 1)) := hVd.box (by omega) (by omega) HC7.out
            obtain ⟨k1, ct⟩ := hlook.out V.drew hVd (i + 1) (j + 1) (by omega) (by omega) hq1
            have cM := most_at V.drew (w.heap.size + 1 + 1) w.heap.size (w.heap.size + 1) N (i + 1) (j + 1) n (Lc x y (i + 1) (j + 1)) (by omega) k1 c8 c7 ct
            push_cast at cM
            have hfr := hVd.row.frozenAt (i * (n + 1) + j)
            obtain ⟨uu, hcc⟩ : ∃ uu, V.drew.cell? ⟨w.heap.size + 1, i * (n + 1) + j, none⟩ = some uu := by
              have := hVd.row.cellAt (i * (n + 1) + j) (by omega)
              rw [List.getElem?_eq_getElem (by rw [tab_len, HM.out, HNN.out, ← HN.out]; exact hq0)] at this
              exact ⟨_, this⟩
            have hLb : Lc x y (i + 1) (j + 1) ≤ 4194304 := Nat.le_trans (Lc_le _ _ _ _) (by rw [HM.out]; exact hm4)
            have hset := Lib.hid (GtSt.set (i := i) (j := j) hVd (by omega) (by omega))
            have hu : Hid (i * (y.length + 1) + j = i * (n + 1) + j) := by show _ = _; rw [HNN.out]
            have hL1 : (0 : Int) ≤ ((Lc x y (i + 1) (j + 1) : Nat) : Int) := by omega
            have hL2 : ((Lc x y (i + 1) (j + 1) : Nat) : Int) ≤ 4194304 := by omega
            rw [HL.out] at hset
            rw [hu.out] at hset
            push_cast at hset
            clear hq1 k1 ct hVd hV HG hlook HL hix hjy hLb
            generalize (Lc x y (i + 1) (j + 1) : Int) = L at *
            obtain ⟨z, hw1, hw2, hb0, hb1⟩ := idxW i j n N hq0 (by omega)
            have hvi := wrapS i hi0 (by omega)
            have hvj := wrapS j hj0 (by omega)
            have hvL := wrapS L hL1 (by omega)
            clear hq0
            generalize i * (n + 1) + j = u at *
            refine wp_region_still_tail 13 (by kernel_rfl) (by kernel_rfl) ?_
            simp only [List.take_succ_cons, List.take_zero, List.drop_succ_cons, List.drop_zero]
            repeat (first | still_step | still_call cM)
            try refine wpStill_nil ?_
            change wpList _ _ _ _ _ V.drew
            generalize V.drew = V2 at *
            clear hw1 hw2 hvi hvj hvL cM
            go_wp2_with fail
            go_roundw
            case rel => exact ⟨j, by omega, rfl, by show GtSt _ _ _ _ _ _ _; rw [hu.out]; exact hset.out⟩
            case measure => simp [intOf]
          · rw [decide_eq_false hd] at cS
            rw [if_neg hd] at hL
            have HL := Lib.hid hL
            clear hd hL e0 hbe
            have hlook := Lib.hid (fun V (h : GtSt w.heap.size N w2 x y (i * (y.length + 1) + (j + 1)) V) a b (ha : a ≤ m) (hb : b ≤ n) (hq : i * (y.length + 1) + (j + 1) ≤ a * (y.length + 1) + b) => (show a * (n + 1) + b < N ∧ V.cell? ⟨w.heap.size + 1, a * (n + 1) + b, none⟩ = some (.int .i64 (Lc x y a b : Nat)) from by
              have := h.look (by rw [HM.out, HNN.out]; exact HN.out) a b (by rw [HM.out]; exact ha) (by rw [HNN.out]; exact hb) hq
              rwa [HNN.out] at this))
            have hq1 : i * (y.length + 1) + (j + 1) ≤ (i + 1) * (y.length + 1) + (j + 1) := by rw [Nat.add_mul, Nat.one_mul]; omega
            have hq0 : i * (n + 1) + j < N := by
              rw [HN.out]
              have : (i + 1) * (n + 1) ≤ (m + 1) * (n + 1) := Nat.mul_le_mul_right _ (by omega)
              rw [Nat.add_mul, Nat.one_mul] at this
              omega
            go_wp2_with (go_at_fn g; refine cS.mono ?_; rintro e wv ⟨rfl, qv, rfl⟩)
            have hV := HG.out.drewN qv
            generalize wr.drewN qv = V at *
            have hVd := hV.drew
            have c8 : V.drew.cell? ⟨w.heap.size + 1 + 1, 0, none⟩ = some (.slice (some ⟨w.heap.size + 1, 0, none⟩) N N) := hVd.box (by omega) (by omega) HC8.out
            have c7 : V.drew.cell? ⟨w.heap.size, 0, none⟩ = some (.int .i64 ((n : Int) + 1)) := hVd.box (by omega) (by omega) HC7.out
            have hq2 : i * (y.length + 1) + (j + 1) ≤ (i + 1) * (y.length + 1) + j := by rw [Nat.add_mul, Nat.one_mul]; omega
            obtain ⟨k1, ct1⟩ := hlook.out V.drew hVd (i + 1) j (by omega) (by omega) hq2
            obtain ⟨k2, ct2⟩ := hlook.out V.drew hVd i (j + 1) (by omega) (by omega) (Nat.le_refl _)
            have cM1 := most_at V.drew (w.heap.size + 1 + 1) w.heap.size (w.heap.size + 1) N (i + 1) j n (Lc x y (i + 1) j) (by omega) k1 c8 c7 ct1
            have cM2 := most_at V.drew (w.heap.size + 1 + 1) w.heap.size (w.heap.size + 1) N i (j + 1) n (Lc x y i (j + 1)) (by omega) k2 c8 c7 ct2
            push_cast at cM1 cM2
            have hfr := hVd.row.frozenAt (i * (n + 1) + j)
            obtain ⟨uu, hcc⟩ : ∃ uu, V.drew.cell? ⟨w.heap.size + 1, i * (n + 1) + j, none⟩ = some uu := by
              have := hVd.row.cellAt (i * (n + 1) + j) (by omega)
              rw [List.getElem?_eq_getElem (by rw [tab_len, HM.out, HNN.out, ← HN.out]; exact hq0)] at this
              exact ⟨_, this⟩
            have hset := Lib.hid (GtSt.set (i := i) (j := j) hVd (by omega) (by omega))
            have hu : Hid (i * (y.length + 1) + j = i * (n + 1) + j) := by show _ = _; rw [HNN.out]
            have hmx : Hid (max ((Lc x y (i + 1) j : Nat) : Int) ((Lc x y i (j + 1) : Nat) : Int) = ((max (Lc x y (i + 1) j) (Lc x y i (j + 1)) : Nat) : Int)) := by show _ = _; omega
            rw [HL.out] at hset
            rw [hu.out] at hset
            clear hq1 hq2 k1 k2 ct1 ct2 hVd hV HG hlook HL hix hjy
            generalize ((max (Lc x y (i + 1) j) (Lc x y i (j + 1)) : Nat) : Int) = L at *
            generalize (Lc x y (i + 1) j : Int) = L1 at *
            generalize (Lc x y i (j + 1) : Int) = L2 at *
            obtain ⟨z, hw1, hw2, hb0, hb1⟩ := idxW i j n N hq0 (by omega)
            have hvi := wrapS i hi0 (by omega)
            have hvj := wrapS j hj0 (by omega)
            clear hq0
            generalize i * (n + 1) + j = u at *
            refine wp_region_still_tail 17 (by kernel_rfl) (by kernel_rfl) ?_
            simp only [List.take_succ_cons, List.take_zero, List.drop_succ_cons, List.drop_zero]
            iterate 10 still_step
            still_call cM1
            iterate 4 still_step
            still_call cM2
            still_step
            refine wpStill_nil ?_
            change wpList _ _ _ _ _ V.drew
            generalize V.drew = V2 at *
            clear hw1 hw2 hvi hvj cM1 cM2
            go_wp2_with fail
            go_roundw
            case rel => exact ⟨j, by omega, rfl, by show GtSt _ _ _ _ _ _ _; rw [hu.out, hmx.out]; exact hset.out⟩
            case measure => simp [intOf]
end Go.Proofs.Ytmkjeelmeicjjaa
