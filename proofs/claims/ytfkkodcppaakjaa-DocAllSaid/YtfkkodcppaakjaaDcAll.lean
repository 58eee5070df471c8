/- doc.Lines, doc.All, and the iterator over the lines: by contracts. -/
import Derived.Test.YtfkkodcppaakjaaDcRemove
import Derived.Test.YtfkkodcppaakjaaIdCopyL
import Derived.RangeFuncNested
import Derived.RangeFuncBound
import Derived.RangeFuncCalls
import Derived.RangeFuncLeaves
import Derived.Shelf.Abstract
import Derived.OwnWalkIn
import Derived.TacticsInMore
import Derived.LoopNIn
import Derived.LoopIn
namespace Go.Proofs.Ytfkkodcppaakjaa
open Go Go.RowKit Go.Maps Go.Shelf

attribute [local go_sem] Oper.semAt_some

set_option maxRecDepth 100000 in
set_option maxHeartbeats 2000000 in
theorem clone_any (w : World) (B : Nat) (v : Value) (n : Nat) (xs : List Li) (hn : xs.length = n) (hown : w.ownsRow B 26 4 v n (liCells xs)) (hnm : n ≤ 3518437208883) :
    Calls Try.prog 19 #[v] w fun e w' => ∃ v', e = .returned v' ∧ Below w.heap.size w w' ∧ w'.ownsRow w.heap.size 26 4 v' n (liCells xs) := by
  obtain ⟨i0, hi, hz0, hz1, hz2⟩ := info_parts lineInfo
  rcases row_shape hn hown with ⟨rfl, rfl⟩ | ⟨g, cap, rfl, _, hlt, hcap, hcm, _, hat⟩
  · have e0 : n = 0 := hn.symm
    subst e0
    have hq := fun w => Lib.run_eql_slice_nil (P := Try.prog) w 22 26 none 0 0 0 0 Try.underlying22
    clear hown
    go_enter Try.func19, Try.ntmps19
    go_wp2
    go_ret
    exact ⟨_, rfl, Below.refl _ _, World.ownsRow_nil _ _ _ _⟩
  · have hown0 := World.ownsRow_made (e := 26) (size := 4) (base := w.heap.size) w #[] 0 (Nat.le_refl _) (by unfold maxLen; omega) rfl
    have hbb0 : Below w.heap.size w (w.alloc (.cells #[] 26)) := (Below.refl _ w).alloc (Nat.le_refl _) _
    have hr : LiRow w (some ⟨g, 0, none⟩) xs := fun i hi => ⟨g, 0, rfl, hlt, by rw [Nat.zero_add]; exact hat i hi⟩
    have HN := Lib.hid hn
    have hq := fun w => Lib.run_eql_slice_nil (P := Try.prog) w 22 26 (some ⟨g, 0, none⟩) n cap 0 0 Try.underlying22
    clear hn hown hat
    go_enter Try.func19, Try.ntmps19
    go_wp2_with (first
      | (at_builtin; refine copy_li rfl _ _ 22 rfl w.heap.size 26 i0 (.agg #[.int .u64 0, .int .i64 0, .int .i64 0, .string ⟨#[]⟩]) Try.underlying22 hi hz0 hz1 hz2 rfl _ rfl hown0 (some ⟨g, 0, none⟩) n cap xs rfl HN.out (hr.later hbb0) (fun e => by cases e) (by omega) (by simp) ?_; intro v1 w1 own1 hb1; have HO := Lib.hid own1; have HB := Lib.hid hb1; clear hown0 own1 hb1))
    go_ret
    exact ⟨v1, rfl, hbb0.trans HB.out, HO.out⟩
theorem all_any (w : World) (B a : Nat) (v : Value) (m k : Nat) (xs : List Li) (h : DocAt w B a v m k xs) : Calls Try.prog 35 #[.pointer (some ⟨a, 0, none⟩)] w fun e w' => e = .returned v ∧ w = w' := by
  obtain ⟨hc0, _, _⟩ := blk_cells h.blk
  clear h
  go_enter Try.func35, Try.ntmps35
  go_wp2
  go_ret
  exact ⟨rfl, rfl⟩
/-- Lines: a row of its own. -/
theorem lines_any (w : World) (B a : Nat) (v : Value) (m k : Nat) (xs : List Li) (h : DocAt w B a v m k xs) (hnm : xs.length ≤ 3518437208883) :
    Calls Try.prog 26 #[.pointer (some ⟨a, 0, none⟩)] w fun e w' => ∃ v', e = .returned v' ∧ Below w.heap.size w w' ∧ w'.ownsRow w.heap.size 26 4 v' xs.length (liCells xs) := by
  have c1 := all_any w B a v m k xs h
  have c2 := clone_any w B v xs.length xs rfl h.row hnm
  clear h
  go_enter Try.func26, Try.ntmps26
  go_wp2_with (first
    | (go_at_call 35; refine c1.mono ?_; rintro e w1 ⟨rfl, rfl⟩)
    | (go_at_call 19; refine c2.mono ?_; rintro e w2 ⟨v', rfl, hb2, ho2⟩))
  go_ret
  exact ⟨v', rfl, hb2, ho2⟩
/-- All: a function over a row of its own. -/
def AllSays (w : World) (xs : List Li) (e : Ending) (w' : World) : Prop := Below w.heap.size w w' ∧ ∃ bx v', e = .returned (.func (.func 34) #[] #[.pointer (some ⟨bx, 0, none⟩)]) ∧ w.heap.size ≤ bx ∧ Boxed w' bx 22 v' ∧ w'.ownsRow w.heap.size 26 4 v' xs.length (liCells xs)
theorem allOf_any (w : World) (B a : Nat) (v : Value) (m k : Nat) (xs : List Li) (h : DocAt w B a v m k xs) (hnm : xs.length ≤ 3518437208883) :
    Calls Try.prog 16 #[.pointer (some ⟨a, 0, none⟩)] w (AllSays w xs) := by
  have c1 := lines_any w B a v m k xs h hnm
  have c2 : ∀ p1 n1 k1 (w1 : World), Calls Try.prog 25 #[.slice p1 n1 k1] w1 fun e w' => e = .returned (.func (.func 34) #[] #[.pointer (some ⟨w1.heap.size, 0, none⟩)]) ∧ w' = w1.alloc (.cells #[.slice p1 n1 k1] 22) := fun p1 n1 k1 w1 => by
    go_enter Try.func25, Try.ntmps25
    go_wp2
    go_ret
    exact ⟨rfl, rfl⟩
  clear h
  go_enter Try.func16, Try.ntmps16
  go_wp2_with fail
  refine c1.mono ?_
  rintro e w1 ⟨v1, rfl, hb1, ho1⟩
  obtain ⟨p1, k1, rfl⟩ : ∃ p1 k1, v1 = .slice p1 xs.length k1 := by
    rcases ho1.2 with ⟨hv, h0⟩ | ⟨g, cap, cur, hv, _⟩
    · exact ⟨none, 0, by rw [hv, h0]⟩
    · exact ⟨_, _, hv⟩
  have cA := c2 p1 xs.length k1 w1
  have HB1 := Lib.hid hb1
  have HO1 := Lib.hid ho1
  have hs1 := hb1.size
  clear c1 c2 hb1 ho1
  go_wp2_with fail
  refine cA.mono ?_
  rintro e w2 ⟨rfl, rfl⟩
  clear cA
  go_wp2_with fail
  go_ret
  exact ⟨HB1.out.alloc hs1 _, _, _, rfl, hs1, Boxed.new _ _ _, HO1.out.alloc _⟩

/-- What the iterator yields: places and lines. -/
structure Ent where
  i : Int
  x : Li
def entsOf (xs : List Li) : List Ent := (List.range xs.length).map fun i : Nat => (⟨(i : Int), xs[i]!⟩ : Ent)
theorem ents_len (xs : List Li) : (entsOf xs).length = xs.length := by simp [entsOf]
theorem ents_at {xs : List Li} {k : Nat} (h : k < xs.length) : (entsOf xs)[k]'(by rw [ents_len]; exact h) = ⟨(k : Int), xs[k]⟩ := by
  simp [entsOf, List.getElem?_eq_getElem h]
def encE (y : Ent) : Array Value := #[.int .i64 y.i, y.x.agg]
set_option maxRecDepth 100000 in
set_option maxHeartbeats 4000000 in
theorem all1_in (fu : Nat) (hfu : 1 ≤ fu) (l bx n₀ : Nat) (p : Option Addr) (n c : Nat) (xs : List Li) (hn : xs.length = n) (hnm : n ≤ 3518437208883) (J Jx : List Ent → World → Prop)
    (hY : ∀ pre y W, J pre W → pre.length < n → YieldAt Fence.wide (fu - 1) Try.prog l (encE y) W fun e W' => (e = .returned (.bool true) ∧ J (pre ++ [y]) W' ∧ Below n₀ W W') ∨ (e = .returned (.bool false) ∧ Jx (pre ++ [y]) W'))
    (W : World) (hJ : AbidesFrom W.heap.size J) (hbx : W.cell? ⟨bx, 0, none⟩ = some (.slice p n c)) (hn₀ : n₀ ≤ W.heap.size) (hat : ∀ i (h : i < xs.length), ∃ b off, p = some ⟨b, off, none⟩ ∧ b < n₀ ∧ LiAt W b (off + i * 4) xs[i]) (h0 : J [] W) :
    CallsIn Fence.wide fu Try.prog 34 #[.func (.yield l) #[] #[], .pointer (some ⟨bx, 0, none⟩)] W fun e W' => (∃ v, e = .returned v) ∧
      ((∃ ys, ys = entsOf xs ∧ J ys W') ∨ (∃ pre, pre <+: entsOf xs ∧ Jx pre W')) := by
  refine callsIn_of_wp Try.func34 rfl trivial ?_ rfl
  simp only [Try.ntmps34, List.size_toArray, List.length_cons, List.length_nil, Nat.reduceAdd, Nat.reduceSub, Array.replicate_succ, Array.replicate_zero, List.push_toArray, List.append_toArray, List.nil_append, List.cons_append]
  have HN := Lib.hid hn
  have HL := Lib.hid (ents_len xs)
  have HEA := Lib.hid (fun k h => ents_at (xs := xs) (k := k) h)
  have HY := Lib.hid hY
  have HJ := Lib.hid hJ
  have HAT := Lib.hid hat
  have H0 := Lib.hid h0
  clear hn hY hJ hat h0
  gi_wp2
  gi_loopw [7] (fun t wr => ∃ k : Nat, k ≤ n ∧ t = .int .i64 k ∧ Hid (J ((entsOf xs).take k) wr) ∧ Hid (Below n₀ W wr) ∧ W.heap.size ≤ wr.heap.size)
    (fun t _ => n - (intOf t).toNat)
  case atStart => exact ⟨0, by omega, rfl, by rw [List.take_zero]; exact H0.out, Below.refl _ _, Nat.le_refl _⟩
  case round =>
    obtain ⟨k, hk, rfl, HJk, HB, hsz⟩ := hrel
    have hk0 : (0 : Int) ≤ (k : Int) := by omega
    by_cases hlt : k < n
    · have hlt' : k < xs.length := by rw [HN.out]; exact hlt
      have hkI : (k : Int) < (n : Int) := by omega
      obtain ⟨b1, o1, rfl, hb1, hc⟩ := HAT.out k hlt'
      obtain ⟨g0, g1, g2, g3⟩ := hc.below HB.out hb1
      have HE := Lib.hid (HEA.out k hlt')
      have HTK : Hid ((entsOf xs).take (k + 1) = (entsOf xs).take k ++ [⟨(k : Int), xs[k]⟩]) := by
        show _ = _
        rw [List.take_succ_eq_append_getElem (by rw [HL.out]; exact hlt'), HE.out]
      have hpl : ((entsOf xs).take k).length = k := by rw [List.length_take, HL.out, HN.out]; omega
      generalize xs[k] = x at *
      have HJ2 := Lib.hid (HJ.out _ _ (wr.alloc (.cells #[.int .u64 x.u, .int .i64 x.n, .int .i64 x.r, .string x.s] 26)) none HJk.out (World.grownBy_alloc wr _ none) (fun r e => by cases e))
      obtain ⟨fn, tmps, assign, body, hy, hR⟩ := HY.out _ ⟨(k : Int), x⟩ _ HJ2.out (by rw [hpl]; exact hlt)
      unfold encE Li.agg at hy
      dsimp only at hy
      have HB2 := Lib.hid (HB.out.alloc (by omega) (.cells #[.int .u64 x.u, .int .i64 x.n, .int .i64 x.r, .string x.s] 26))
      clear hpl HE hc HJk
      gi_wp2
      refine hR.mono ?_
      rintro e W3 (⟨rfl, hJ3, hk3⟩ | ⟨rfl, hJx3⟩)
      · have HJ3 := Lib.hid hJ3
        have HB3 := Lib.hid (HB2.out.trans hk3)
        have hs3 : W.heap.size ≤ W3.heap.size := by have := hk3.size; simp at this; omega
        clear hJ3 hk3 hR hy g0 g1 g2 g3 HB HB2
        gi_wp2
        go_roundw
        case rel => exact ⟨k + 1, by omega, by go_num, by show J _ _; rw [HTK.out]; exact HJ3.out, HB3, hs3⟩
        case measure => simp [intOf]; omega
      · have HJx := Lib.hid hJx3
        clear hJx3 hR hy g0 g1 g2 g3
        gi_wp2
        refine bodyPost_ret (results_none rfl _ _ _) rfl ?_
        exact ⟨⟨_, rfl⟩, .inr ⟨_, by rw [← HTK.out]; exact List.take_prefix _ _, HJx.out⟩⟩
    · obtain rfl : k = n := by omega
      gi_wp2
      refine bodyPost_end (results_none rfl _ _ _) rfl ?_
      exact ⟨⟨_, rfl⟩, .inl ⟨_, rfl, by have := HJk.out; rw [List.take_of_length_le (by rw [HL.out, HN.out]; exact Nat.le_refl _)] at this; exact this⟩⟩
theorem all_stops (fu : Nat) (hfu : 1 ≤ fu) (bx n₀ : Nat) (p : Option Addr) (n c : Nat) (xs : List Li) (hn : xs.length = n) (hnm : n ≤ 3518437208883) (w : World) (hbx : w.cell? ⟨bx, 0, none⟩ = some (.slice p n c)) (hbn : bx < n₀) (hn₀ : n₀ ≤ w.heap.size) (hat : ∀ i (h : i < xs.length), ∃ b off, p = some ⟨b, off, none⟩ ∧ b < n₀ ∧ LiAt w b (off + i * 4) xs[i]) :
    SeqStopsK Fence.wide fu Try.prog 34 #[.pointer (some ⟨bx, 0, none⟩)] encE (Below n₀) (fun ys => ys = entsOf xs) (fun pre => pre <+: entsOf xs) n w :=
  fun l J Jx W hW hJ _ hY h0 => all1_in fu hfu l bx n₀ p n c xs hn hnm J Jx hY W hJ ((hW.cell (p := ⟨bx, 0, none⟩) (Nat.lt_of_lt_of_le hbn hn₀)).trans hbx) (Nat.le_trans hn₀ hW.size) (fun i hi => by
    obtain ⟨b, off, e, hb, hc⟩ := hat i hi
    exact ⟨b, off, e, hb, hc.below hW (Nat.lt_of_lt_of_le hb hn₀)⟩) h0
end Go.Proofs.Ytfkkodcppaakjaa
