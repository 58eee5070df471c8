/- Texts of the proof, merged: LbSplit, LbAtoi, LbList. -/
import Derived.Test.YtfkkodcppaakjaaGreatDoorRd4
import Derived.Test.YtfkkodcppaakjaaGreatDoorRd5
import Derived.Test.YtfkkodcppaakjaaGreatDoorRd6
import Derived.Test.YtfkkodcppaakjaaGreatDoorRd8
import Derived.Test.YtfkkodcppaakjaaGreatDoorRd21
import Derived.RangeFuncBound
import Derived.RangeFuncCalls
import Derived.RangeFuncLeaves
import Derived.RangeFuncBox
import Derived.Shelf.Abstract
import Derived.Shelf.RegionOpen
import Derived.WalkKit
import Derived.OwnWalkIn
import Derived.TacticsInMore
import Derived.LoopNIn
import Derived.LoopIn
import Derived.Lib.SmallJoins
import Derived.Deep.WholeRow
import Derived.Deep.Onto
/- The library's SplitSeq at a plus, by contract: its iterator keeps the rest of the text in a box of its own. -/
namespace Go.Proofs.YtfkkodcppaakjaaGreatDoor
open Go.RowKit Go.Shelf

attribute [local go_sem] Oper.semAt_some

theorem splitSeq_any (s : ByteArray) (w : World) :
    Calls Tryz.prog 126 #[.string s, .string ⟨#[43]⟩] w fun e w' => e = .returned (.func (.func 186) #[] #[.pointer (some ⟨w.heap.size + 1, 0, none⟩), .pointer (some ⟨w.heap.size, 0, none⟩), .pointer (some ⟨w.heap.size + 2, 0, none⟩)]) ∧
      ((w.alloc (.cells #[.string s] 9)).alloc (.cells #[.string ⟨#[43]⟩] 9)).alloc (.cells #[.int .i64 0] 3) = w' := by
  have c : Calls Tryz.prog 159 #[.string s, .string ⟨#[43]⟩, .int .i64 0] w fun e w' => e = .returned (.func (.func 186) #[] #[.pointer (some ⟨w.heap.size + 1, 0, none⟩), .pointer (some ⟨w.heap.size, 0, none⟩), .pointer (some ⟨w.heap.size + 2, 0, none⟩)]) ∧
      ((w.alloc (.cells #[.string s] 9)).alloc (.cells #[.string ⟨#[43]⟩] 9)).alloc (.cells #[.int .i64 0] 3) = w' := by
    go_enter Tryz.func159, Tryz.ntmps159
    go_wp2
    go_ret
    exact ⟨rfl, rfl⟩
  go_enter Tryz.func126, Tryz.ntmps126
  go_wp2_with (go_at_call 159; refine c.mono ?_; rintro e w' ⟨rfl, rfl⟩)
  go_ret
  exact ⟨rfl, rfl⟩

/-- Three boxes, one behind the other, stay as they are. -/
def Keep3 (B : Nat) (W W' : World) : Prop := ∀ k, B ≤ k → k ≤ B + 2 → W'.heap[k]? = W.heap[k]?
theorem keep3_t {B : Nat} {X Y Z : World} (h : Keep3 B X Y) (k : Keep3 B Y Z) : Keep3 B X Z := fun i h1 h2 => (k i h1 h2).trans (h i h1 h2)
theorem keep3_b {B : Nat} {w : World} (hn : B + 2 < w.heap.size) (W : World) (l : Nat) (o o' : Obj) (hl : w.heap.size ≤ l) (_ : W.heap[l]? = some o) (_ : o.isCells = false) (_ : o.isWalk = false) : Keep3 B W (W.putObj l o') :=
  fun i _ h2 => World.putObj_heap_other (by omega)
/-- A piece of a text that has M bytes. -/
structure Pc (M : Nat) where
  val : ByteArray
  le : val.size ≤ M
def lsOf {M : Nat} (l : List (Pc M)) : List (List UInt8) := l.map fun b => b.val.data.toList
theorem ls_snoc {M : Nat} (l : List (Pc M)) (x : Pc M) : lsOf (l ++ [x]) = lsOf l ++ [x.val.data.toList] := by unfold lsOf; rw [List.map_append]; rfl

set_option maxRecDepth 100000 in
set_option maxHeartbeats 4000000 in
theorem split1_in (n : Nat) (hn : 1 ≤ n) (l B : Nat) (s : ByteArray) (J Jx : List (Pc s.size) → World → Prop) (hs : s.size ≤ 9223372036854775807) (hJs : Stores B J)
    (hY : ∀ pre x W, J pre W → pre.length < (spl s.data.toList).length → YieldAt Fence.wide (n - 1) Tryz.prog l #[.string x.val] W fun e W' =>
      (e = .returned (.bool true) ∧ J (pre ++ [x]) W' ∧ Keep3 B W W') ∨ (e = .returned (.bool false) ∧ Jx (pre ++ [x]) W'))
    (W : World) (h1 : Boxed W B 9 (.string s)) (h2 : Boxed W (B + 1) 9 (.string ⟨#[43]⟩)) (h3 : Boxed W (B + 2) 3 (.int .i64 0)) (h0 : J [] W) :
    CallsIn Fence.wide n Tryz.prog 186 #[.func (.yield l) #[] #[], .pointer (some ⟨B + 1, 0, none⟩), .pointer (some ⟨B, 0, none⟩), .pointer (some ⟨B + 2, 0, none⟩)] W fun e W' => (∃ v, e = .returned v) ∧
      ((∃ ys, lsOf ys = spl s.data.toList ∧ J ys W') ∨ (∃ pre, lsOf pre <+: spl s.data.toList ∧ Jx pre W')) := by
  have k2 := h2.cell
  have HS := Lib.hid h1
  refine callsIn_of_wp Tryz.func186 rfl trivial ?_ rfl
  simp only [Tryz.ntmps186, List.size_toArray, List.length_cons, List.length_nil, Nat.reduceAdd, Nat.reduceSub, Array.replicate_succ, Array.replicate_zero, List.push_toArray, List.append_toArray, List.nil_append, List.cons_append]
  have H2 := Lib.hid h2; have H3 := Lib.hid h3
  clear h1 h2 h3
  gi_wp2
  clear k2
  gi_loopw [7] (fun _ wr => ∃ (pre : List (Pc s.size)) (r : ByteArray), lsOf pre ++ spl r.data.toList = spl s.data.toList ∧ r.size ≤ s.size ∧ Hid (J pre wr) ∧ Hid (Boxed wr B 9 (.string r)) ∧ Hid (Boxed wr (B + 1) 9 (.string ⟨#[43]⟩)) ∧ Hid (Boxed wr (B + 2) 3 (.int .i64 0)))
    (fun _ wr => match wr.cell? ⟨B, 0, none⟩ with | some (.string r) => r.size | _ => 0)
  case atStart => exact ⟨[], s, rfl, Nat.le_refl _, h0, HS, H2, H3⟩
  case round =>
    clear HS H2 H3
    obtain ⟨pre, r, hpr, hrs, hJ, g1, g2, g3⟩ := hrel
    have k1 := g1.out.cell; have k2 := g2.out.cell; have k3 := g3.out.cell
    have f1 := g1.out.frozen
    have cI : ∀ W : World, Calls Tryz.prog 123 #[.string r, .string ⟨#[43]⟩] W fun e w' => e = .returned (.int .i64 (Lib.indexByte r.data.toList 43)) ∧ W = w' := fun W => (Tryz.strings_Index_one r 43 W).mono fun _ _ ⟨a, b⟩ => ⟨a, b.symm⟩
    rcases spl_cut r.data.toList with ⟨hi, hsp⟩ | ⟨i, hi, hil, hsp⟩
    · rw [hi] at cI
      have hpl : pre.length < (spl s.data.toList).length := by
        rw [← hpr, hsp]; unfold lsOf; simp
      obtain ⟨fn, tmps, assign, body, hy, hR⟩ := hY pre ⟨r, hrs⟩ wr hJ.out hpl
      have hfin : Hid (lsOf (pre ++ [⟨r, hrs⟩]) = spl s.data.toList) := by show _ = _; rw [ls_snoc, ← hpr, hsp]
      clear hi hsp hpr hJ
      gi_wp2_with (refine ⟨trivial, ?_⟩; gi_at_call 123; refine (callsIn_wide.2 (cI _)).mono ?_; rintro e w' ⟨rfl, rfl⟩)
      refine hR.mono ?_
      rintro e W3 (⟨rfl, hJ3, hk3⟩ | ⟨rfl, hJx3⟩)
      · have HJ3 := Lib.hid hJ3
        clear hJ3
        gi_wp2
        go_end0
        exact ⟨⟨_, rfl⟩, .inl ⟨_, hfin.out, HJ3.out⟩⟩
      · have HJ3 := Lib.hid hJx3
        clear hJx3
        gi_wp2
        go_end0
        exact ⟨⟨_, rfl⟩, .inr ⟨_, by rw [hfin.out]; exact List.prefix_refl _, HJ3.out⟩⟩
    · rw [hi] at cI
      have hilr : i < r.size := by have e : r.data.toList.length = r.size := by simp
                                   omega
      have hpl : pre.length < (spl s.data.toList).length := by
        rw [← hpr, hsp]; unfold lsOf; simp
      have hxs : (r.extract 0 i).size ≤ s.size := by simp; omega
      obtain ⟨fn, tmps, assign, body, hy, hR⟩ := hY pre ⟨r.extract 0 i, hxs⟩ wr hJ.out hpl
      have hx1 : (r.extract 0 i).data.toList = r.data.toList.take i := by simp
      have hx2 : (r.extract (i + 1) r.size).data.toList = r.data.toList.drop (i + 1) := Lib.extract_to_end r (i + 1)
      have hfin : Hid (lsOf (pre ++ [⟨r.extract 0 i, hxs⟩]) ++ spl (r.extract (i + 1) r.size).data.toList = spl s.data.toList) := by
        show _ = _
        rw [ls_snoc, hx1, hx2, ← hpr, hsp, List.append_assoc]; rfl
      have hsz2 : (r.extract (i + 1) r.size).size = r.size - (i + 1) := by simp
      have hii : (i : Int) < (r.size : Int) := by omega
      have hi0 : (0 : Int) ≤ (i : Int) := Int.natCast_nonneg _
      have HZ := Lib.hid hsz2
      have hss : r.size ≤ 9223372036854775807 := by omega
      clear hi hsp hpr hJ hil hx1 hx2 hsz2
      gi_wp2_with (refine ⟨trivial, ?_⟩; gi_at_call 123; refine (callsIn_wide.2 (cI _)).mono ?_; rintro e w' ⟨rfl, rfl⟩)
      refine hR.mono ?_
      rintro e W3 (⟨rfl, hJ3, hk3⟩ | ⟨rfl, hJx3⟩)
      · have b1 : Boxed W3 B 9 (.string r) := (hk3 B (by omega) (by omega)).trans g1.out
        have b2 : Boxed W3 (B + 1) 9 (.string ⟨#[43]⟩) := (hk3 (B + 1) (by omega) (by omega)).trans g2.out
        have b3 : Boxed W3 (B + 2) 3 (.int .i64 0) := (hk3 (B + 2) (by omega) (by omega)).trans g3.out
        clear k1 k2 k3 f1
        have k1 := b1.cell; have k2 := b2.cell; have f1 := b1.frozen
        have HJ4 := Lib.hid (hJs (pre ++ [⟨r.extract 0 i, hxs⟩]) W3 (.string (r.extract (i + 1) r.size)) hJ3)
        have q1 : Hid (Boxed (W3.setCell ⟨B, 0, none⟩ (.string (r.extract (i + 1) r.size))) B 9 (.string (r.extract (i + 1) r.size))) := b1.set _
        have q2 : Hid (Boxed (W3.setCell ⟨B, 0, none⟩ (.string (r.extract (i + 1) r.size))) (B + 1) 9 (.string ⟨#[43]⟩)) := b2.other (by omega) _
        have q3 : Hid (Boxed (W3.setCell ⟨B, 0, none⟩ (.string (r.extract (i + 1) r.size))) (B + 2) 3 (.int .i64 0)) := b3.other (by omega) _
        have HM : Hid ((match (W3.setCell ⟨B, 0, none⟩ (.string (r.extract (i + 1) r.size))).cell? ⟨B, 0, none⟩ with | some (.string r) => r.size | _ => 0) = (r.extract (i + 1) r.size).size) := by
          show _ = _
          rw [q1.out.cell]
        have HM0 : Hid ((match wr.cell? ⟨B, 0, none⟩ with | some (.string r) => r.size | _ => 0) = r.size) := by
          show _ = _
          rw [g1.out.cell]
        clear b1 b2 b3 hk3 hJ3 g1 g2 g3
        gi_wp2
        go_roundw
        case rel => exact ⟨pre ++ [⟨r.extract 0 i, hxs⟩], r.extract (i + 1) r.size, hfin.out, by rw [HZ.out]; omega, HJ4, q1, q2, q3⟩
        case measure =>
          rw [HM.out, HZ.out, HM0.out]
          omega
      · have HJ3 := Lib.hid hJx3
        clear hJx3
        gi_wp2
        refine bodyPost_ret (results_none rfl _ _ _) rfl ?_
        exact ⟨⟨_, rfl⟩, .inr ⟨_, ⟨_, hfin.out⟩, HJ3.out⟩⟩
/-- The iterator's value, at whatever world has its boxes. -/
theorem split_seq (n : Nat) (hn : 1 ≤ n) (B : Nat) (s : ByteArray) (hs : s.size ≤ 9223372036854775807) (w : World) (h1 : Boxed w B 9 (.string s)) (h2 : Boxed w (B + 1) 9 (.string ⟨#[43]⟩)) (h3 : Boxed w (B + 2) 3 (.int .i64 0)) :
    SeqStore Fence.wide n Tryz.prog 186 #[.pointer (some ⟨B + 1, 0, none⟩), .pointer (some ⟨B, 0, none⟩), .pointer (some ⟨B + 2, 0, none⟩)] (fun x : Pc s.size => #[.string x.val]) (Keep3 B) (fun ys => lsOf ys = spl s.data.toList) (fun pre => lsOf pre <+: spl s.data.toList) (spl s.data.toList).length B w :=
  fun l J Jx W hW hJs hY h0 => split1_in n hn l B s J Jx hs hJs hY W ((hW.block B h1.lt).trans h1) ((hW.block (B + 1) h2.lt).trans h2) ((hW.block (B + 2) h3.lt).trans h3) h0
end Go.Proofs.YtfkkodcppaakjaaGreatDoor
/- The library's Atoi by one contract: a value, or an error. -/
namespace Go.Proofs.YtfkkodcppaakjaaGreatDoor
open Go.RowKit

/-- An error's variable holds nothing or an error. -/
def EvAt (g : Nat) (w : World) : Prop := ∃ ev, w.cell? ⟨g, 0, none⟩ = some ev ∧ (ev = .nilIface ∨ ∃ te pe, ev = .iface te pe)
def EvW (w : World) : Prop := EvAt 2 w ∧ EvAt 3 w
theorem evAt_below {g : Nat} {w w' : World} (h : EvAt g w) (hb : Below w.heap.size w w') : EvAt g w' := by
  obtain ⟨ev, h1, h2⟩ := h
  exact ⟨ev, (hb.cell (p := ⟨g, 0, none⟩) (World.block_lt_of_cell? w _ h1)).trans h1, h2⟩
theorem EvW.below {w w' : World} (h : EvW w) (hb : Below w.heap.size w w') : EvW w' := ⟨evAt_below h.1 hb, evAt_below h.2 hb⟩
/-- How Atoi ends. -/
def AtoiEnds (x : List UInt8) (v : Int) (er : Value) : Prop := (er = .nilIface ∧ Lib.atoiAll x = .ok v) ∨ ((∃ t p, er = .iface t (.pointer p)) ∧ ∀ u, Lib.atoiAll x ≠ .ok u)
theorem atoi_any (x : ByteArray) (w : World) (hs : x.size ≤ 281474976710656) (hE : EvW w) :
    Calls Tryz.prog 127 #[.string x] w fun e w' => ∃ v er, e = .returned (.tuple #[.int .i64 v, er]) ∧ AtoiEnds x.data.toList v er ∧ Below w.heap.size w w' := by
  obtain ⟨⟨e1, a1, a2⟩, ⟨e2, b1, b2⟩⟩ := hE
  rcases h : Lib.atoiAll x.data.toList with v | _ | _
  · refine (Tryz.strconv_Atoi_ok x (by omega) v h w).mono ?_
    rintro e w' ⟨rfl, hw⟩
    refine ⟨v, _, rfl, .inl ⟨rfl, h⟩, ?_⟩
    rcases hw with rfl | ⟨t, rfl⟩
    · exact Below.refl _ _
    · exact Joins.below_bytesWorld _ w _ _ (Nat.le_refl _)
  · refine (Any.strconv_Atoi_syntax Tryz.laysC172 x hs h e1 w a1 a2).mono ?_
    rintro e w' ⟨N, rfl, _, _, hb⟩
    exact ⟨_, _, rfl, .inr ⟨⟨_, _, rfl⟩, fun u e => by rw [h] at e; cases e⟩, hb⟩
  · refine (Tryz.strconv_Atoi_range x hs h e2 w b1 b2).mono ?_
    rintro e w' ⟨N, rfl, _, _, hb⟩
    exact ⟨_, _, rfl, .inr ⟨⟨_, _, rfl⟩, fun u e => by rw [h] at e; cases e⟩, hb⟩
end Go.Proofs.YtfkkodcppaakjaaGreatDoor
/- The document's List, by its contract. -/
namespace Go.Proofs.YtfkkodcppaakjaaGreatDoor
open Go.RowKit

theorem intInfo : (Tryz.prog.info? 3).map (fun i => (i.zero, i.size, i.bytes)) = some (some (.int .i64 0), 1, 8) := by kernel_rfl
def ints (l : List Nat) : List Value := l.map fun i => .int .i64 (i : Nat)
/-- What List leaves: the compartments in a row of its own. -/
def IntRow (W : World) (l : List Nat) (e : Ending) (w' : World) : Prop := ∃ p c, e = .returned (.slice p l.length c) ∧ Below W.heap.size W w' ∧ w'.ownsRow W.heap.size 3 1 (.slice p l.length c) l.length (ints l)
theorem int_owned {W : World} {B : Nat} {v : Value} {l : List Nat} (h : W.ownsRow B 3 1 v l.length (ints l)) : ∃ p c, v = .slice p l.length c := by
  rcases h.2 with ⟨hv, h0⟩ | ⟨g, cap, cur, hv, _⟩
  · exact ⟨none, 0, by rw [hv, h0]⟩
  · exact ⟨some ⟨g, 0, none⟩, cap, hv⟩

end Go.Proofs.YtfkkodcppaakjaaGreatDoor
