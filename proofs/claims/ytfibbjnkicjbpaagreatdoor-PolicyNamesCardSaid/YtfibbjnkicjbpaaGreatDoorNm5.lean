/- Texts of the proof, merged: LbSplit, LbAtoi, LbList, LbTz, LbCount, LbMyList, NumCopy, LbSays, LbText, LbOne, LbParse. -/
import Derived.Test.YtfibbjnkicjbpaaGreatDoorNm1
import Derived.Test.YtfibbjnkicjbpaaGreatDoorNm2
import Derived.Test.YtfibbjnkicjbpaaGreatDoorNm3
import Derived.Test.YtfibbjnkicjbpaaGreatDoorNm4
import Derived.RangeFuncBound
import Derived.RangeFuncCalls
import Derived.RangeFuncLeaves
import Derived.RangeFuncBox
import Derived.Shelf.Abstract
import Derived.Shelf.RegionOpen
import Derived.WalkKit
import Derived.OwnWalkIn
import Derived.TacticsInMore
import Derived.LoopNIn
import Derived.LoopIn
import Derived.Lib.SmallJoins
import Derived.Deep.WholeRow
import Derived.Deep.Onto
import Derived.Lib.LaidTab
import Derived.Laws.Bits64b
import Derived.Laws.Bits128
import Derived.Laws.MakeOwn
import Derived.Laws.AppendOwnNone
import Derived.Laws.OwnMore
/- The library's SplitSeq at a plus, by contract: its iterator keeps the rest of the text in a box of its own. -/
namespace Go.Proofs.YtfibbjnkicjbpaaGreatDoor
open Go.RowKit Go.Shelf

attribute [local go_sem] Oper.semAt_some

theorem splitSeq_any (s : ByteArray) (w : World) :
    Calls Tryz.prog 93 #[.string s, .string ⟨#[43]⟩] w fun e w' => e = .returned (.func (.func 136) #[] #[.pointer (some ⟨w.heap.size + 1, 0, none⟩), .pointer (some ⟨w.heap.size, 0, none⟩), .pointer (some ⟨w.heap.size + 2, 0, none⟩)]) ∧
      ((w.alloc (.cells #[.string s] 9)).alloc (.cells #[.string ⟨#[43]⟩] 9)).alloc (.cells #[.int .i64 0] 3) = w' := by
  have c : Calls Tryz.prog 113 #[.string s, .string ⟨#[43]⟩, .int .i64 0] w fun e w' => e = .returned (.func (.func 136) #[] #[.pointer (some ⟨w.heap.size + 1, 0, none⟩), .pointer (some ⟨w.heap.size, 0, none⟩), .pointer (some ⟨w.heap.size + 2, 0, none⟩)]) ∧
      ((w.alloc (.cells #[.string s] 9)).alloc (.cells #[.string ⟨#[43]⟩] 9)).alloc (.cells #[.int .i64 0] 3) = w' := by
    go_enter Tryz.func113, Tryz.ntmps113
    go_wp2
    go_ret
    exact ⟨rfl, rfl⟩
  go_enter Tryz.func93, Tryz.ntmps93
  go_wp2_with (go_at_call 113; refine c.mono ?_; rintro e w' ⟨rfl, rfl⟩)
  go_ret
  exact ⟨rfl, rfl⟩

/-- Three boxes, one behind the other, stay as they are. -/
def Keep3 (B : Nat) (W W' : World) : Prop := ∀ k, B ≤ k → k ≤ B + 2 → W'.heap[k]? = W.heap[k]?
theorem keep3_t {B : Nat} {X Y Z : World} (h : Keep3 B X Y) (k : Keep3 B Y Z) : Keep3 B X Z := fun i h1 h2 => (k i h1 h2).trans (h i h1 h2)
theorem keep3_b {B : Nat} {w : World} (hn : B + 2 < w.heap.size) (W : World) (l : Nat) (o o' : Obj) (hl : w.heap.size ≤ l) (_ : W.heap[l]? = some o) (_ : o.isCells = false) (_ : o.isWalk = false) : Keep3 B W (W.putObj l o') :=
  fun i _ h2 => World.putObj_heap_other (by omega)
/-- A piece of a text that has M bytes. -/
structure Pc (M : Nat) where
  val : ByteArray
  le : val.size ≤ M
def lsOf {M : Nat} (l : List (Pc M)) : List (List UInt8) := l.map fun b => b.val.data.toList
theorem ls_snoc {M : Nat} (l : List (Pc M)) (x : Pc M) : lsOf (l ++ [x]) = lsOf l ++ [x.val.data.toList] := by unfold lsOf; rw [List.map_append]; rfl

set_option maxRecDepth 100000 in
set_option maxHeartbeats 4000000 in
theorem split1_in (n : Nat) (hn : 1 ≤ n) (l B : Nat) (s : ByteArray) (J Jx : List (Pc s.size) → World → Prop) (hs : s.size ≤ 9223372036854775807) (hJs : Stores B J)
    (hY : ∀ pre x W, J pre W → pre.length < (spl s.data.toList).length → YieldAt Fence.wide (n - 1) Tryz.prog l #[.string x.val] W fun e W' =>
      (e = .returned (.bool true) ∧ J (pre ++ [x]) W' ∧ Keep3 B W W') ∨ (e = .returned (.bool false) ∧ Jx (pre ++ [x]) W'))
    (W : World) (h1 : Boxed W B 9 (.string s)) (h2 : Boxed W (B + 1) 9 (.string ⟨#[43]⟩)) (h3 : Boxed W (B + 2) 3 (.int .i64 0)) (h0 : J [] W) :
    CallsIn Fence.wide n Tryz.prog 136 #[.func (.yield l) #[] #[], .pointer (some ⟨B + 1, 0, none⟩), .pointer (some ⟨B, 0, none⟩), .pointer (some ⟨B + 2, 0, none⟩)] W fun e W' => (∃ v, e = .returned v) ∧
      ((∃ ys, lsOf ys = spl s.data.toList ∧ J ys W') ∨ (∃ pre, lsOf pre <+: spl s.data.toList ∧ Jx pre W')) := by
  have k2 := h2.cell
  have HS := Lib.hid h1
  refine callsIn_of_wp Tryz.func136 rfl trivial ?_ rfl
  simp only [Tryz.ntmps136, List.size_toArray, List.length_cons, List.length_nil, Nat.reduceAdd, Nat.reduceSub, Array.replicate_succ, Array.replicate_zero, List.push_toArray, List.append_toArray, List.nil_append, List.cons_append]
  have H2 := Lib.hid h2; have H3 := Lib.hid h3
  clear h1 h2 h3
  gi_wp2
  clear k2
  gi_loopw [7] (fun _ wr => ∃ (pre : List (Pc s.size)) (r : ByteArray), lsOf pre ++ spl r.data.toList = spl s.data.toList ∧ r.size ≤ s.size ∧ Hid (J pre wr) ∧ Hid (Boxed wr B 9 (.string r)) ∧ Hid (Boxed wr (B + 1) 9 (.string ⟨#[43]⟩)) ∧ Hid (Boxed wr (B + 2) 3 (.int .i64 0)))
    (fun _ wr => match wr.cell? ⟨B, 0, none⟩ with | some (.string r) => r.size | _ => 0)
  case atStart => exact ⟨[], s, rfl, Nat.le_refl _, h0, HS, H2, H3⟩
  case round =>
    clear HS H2 H3
    obtain ⟨pre, r, hpr, hrs, hJ, g1, g2, g3⟩ := hrel
    have k1 := g1.out.cell; have k2 := g2.out.cell; have k3 := g3.out.cell
    have f1 := g1.out.frozen
    have cI : ∀ W : World, Calls Tryz.prog 89 #[.string r, .string ⟨#[43]⟩] W fun e w' => e = .returned (.int .i64 (Lib.indexByte r.data.toList 43)) ∧ W = w' := fun W => (Tryz.strings_Index_one r 43 W).mono fun _ _ ⟨a, b⟩ => ⟨a, b.symm⟩
    rcases spl_cut r.data.toList with ⟨hi, hsp⟩ | ⟨i, hi, hil, hsp⟩
    · rw [hi] at cI
      have hpl : pre.length < (spl s.data.toList).length := by
        rw [← hpr, hsp]; unfold lsOf; simp
      obtain ⟨fn, tmps, assign, body, hy, hR⟩ := hY pre ⟨r, hrs⟩ wr hJ.out hpl
      have hfin : Hid (lsOf (pre ++ [⟨r, hrs⟩]) = spl s.data.toList) := by show _ = _; rw [ls_snoc, ← hpr, hsp]
      clear hi hsp hpr hJ
      gi_wp2_with (refine ⟨trivial, ?_⟩; gi_at_call 89; refine (callsIn_wide.2 (cI _)).mono ?_; rintro e w' ⟨rfl, rfl⟩)
      refine hR.mono ?_
      rintro e W3 (⟨rfl, hJ3, hk3⟩ | ⟨rfl, hJx3⟩)
      · have HJ3 := Lib.hid hJ3
        clear hJ3
        gi_wp2
        go_end0
        exact ⟨⟨_, rfl⟩, .inl ⟨_, hfin.out, HJ3.out⟩⟩
      · have HJ3 := Lib.hid hJx3
        clear hJx3
        gi_wp2
        go_end0
        exact ⟨⟨_, rfl⟩, .inr ⟨_, by rw [hfin.out]; exact List.prefix_refl _, HJ3.out⟩⟩
    · rw [hi] at cI
      have hilr : i < r.size := by have e : r.data.toList.length = r.size := by simp
                                   omega
      have hpl : pre.length < (spl s.data.toList).length := by
        rw [← hpr, hsp]; unfold lsOf; simp
      have hxs : (r.extract 0 i).size ≤ s.size := by simp; omega
      obtain ⟨fn, tmps, assign, body, hy, hR⟩ := hY pre ⟨r.extract 0 i, hxs⟩ wr hJ.out hpl
      have hx1 : (r.extract 0 i).data.toList = r.data.toList.take i := by simp
      have hx2 : (r.extract (i + 1) r.size).data.toList = r.data.toList.drop (i + 1) := Lib.extract_to_end r (i + 1)
      have hfin : Hid (lsOf (pre ++ [⟨r.extract 0 i, hxs⟩]) ++ spl (r.extract (i + 1) r.size).data.toList = spl s.data.toList) := by
        show _ = _
        rw [ls_snoc, hx1, hx2, ← hpr, hsp, List.append_assoc]; rfl
      have hsz2 : (r.extract (i + 1) r.size).size = r.size - (i + 1) := by simp
      have hii : (i : Int) < (r.size : Int) := by omega
      have hi0 : (0 : Int) ≤ (i : Int) := Int.natCast_nonneg _
      have HZ := Lib.hid hsz2
      have hss : r.size ≤ 9223372036854775807 := by omega
      clear hi hsp hpr hJ hil hx1 hx2 hsz2
      gi_wp2_with (refine ⟨trivial, ?_⟩; gi_at_call 89; refine (callsIn_wide.2 (cI _)).mono ?_; rintro e w' ⟨rfl, rfl⟩)
      refine hR.mono ?_
      rintro e W3 (⟨rfl, hJ3, hk3⟩ | ⟨rfl, hJx3⟩)
      · have b1 : Boxed W3 B 9 (.string r) := (hk3 B (by omega) (by omega)).trans g1.out
        have b2 : Boxed W3 (B + 1) 9 (.string ⟨#[43]⟩) := (hk3 (B + 1) (by omega) (by omega)).trans g2.out
        have b3 : Boxed W3 (B + 2) 3 (.int .i64 0) := (hk3 (B + 2) (by omega) (by omega)).trans g3.out
        clear k1 k2 k3 f1
        have k1 := b1.cell; have k2 := b2.cell; have f1 := b1.frozen
        have HJ4 := Lib.hid (hJs (pre ++ [⟨r.extract 0 i, hxs⟩]) W3 (.string (r.extract (i + 1) r.size)) hJ3)
        have q1 : Hid (Boxed (W3.setCell ⟨B, 0, none⟩ (.string (r.extract (i + 1) r.size))) B 9 (.string (r.extract (i + 1) r.size))) := b1.set _
        have q2 : Hid (Boxed (W3.setCell ⟨B, 0, none⟩ (.string (r.extract (i + 1) r.size))) (B + 1) 9 (.string ⟨#[43]⟩)) := b2.other (by omega) _
        have q3 : Hid (Boxed (W3.setCell ⟨B, 0, none⟩ (.string (r.extract (i + 1) r.size))) (B + 2) 3 (.int .i64 0)) := b3.other (by omega) _
        have HM : Hid ((match (W3.setCell ⟨B, 0, none⟩ (.string (r.extract (i + 1) r.size))).cell? ⟨B, 0, none⟩ with | some (.string r) => r.size | _ => 0) = (r.extract (i + 1) r.size).size) := by
          show _ = _
          rw [q1.out.cell]
        have HM0 : Hid ((match wr.cell? ⟨B, 0, none⟩ with | some (.string r) => r.size | _ => 0) = r.size) := by
          show _ = _
          rw [g1.out.cell]
        clear b1 b2 b3 hk3 hJ3 g1 g2 g3
        gi_wp2
        go_roundw
        case rel => exact ⟨pre ++ [⟨r.extract 0 i, hxs⟩], r.extract (i + 1) r.size, hfin.out, by rw [HZ.out]; omega, HJ4, q1, q2, q3⟩
        case measure =>
          rw [HM.out, HZ.out, HM0.out]
          omega
      · have HJ3 := Lib.hid hJx3
        clear hJx3
        gi_wp2
        refine bodyPost_ret (results_none rfl _ _ _) rfl ?_
        exact ⟨⟨_, rfl⟩, .inr ⟨_, ⟨_, hfin.out⟩, HJ3.out⟩⟩
/-- The iterator's value, at whatever world has its boxes. -/
theorem split_seq (n : Nat) (hn : 1 ≤ n) (B : Nat) (s : ByteArray) (hs : s.size ≤ 9223372036854775807) (w : World) (h1 : Boxed w B 9 (.string s)) (h2 : Boxed w (B + 1) 9 (.string ⟨#[43]⟩)) (h3 : Boxed w (B + 2) 3 (.int .i64 0)) :
    SeqStore Fence.wide n Tryz.prog 136 #[.pointer (some ⟨B + 1, 0, none⟩), .pointer (some ⟨B, 0, none⟩), .pointer (some ⟨B + 2, 0, none⟩)] (fun x : Pc s.size => #[.string x.val]) (Keep3 B) (fun ys => lsOf ys = spl s.data.toList) (fun pre => lsOf pre <+: spl s.data.toList) (spl s.data.toList).length B w :=
  fun l J Jx W hW hJs hY h0 => split1_in n hn l B s J Jx hs hJs hY W ((hW.block B h1.lt).trans h1) ((hW.block (B + 1) h2.lt).trans h2) ((hW.block (B + 2) h3.lt).trans h3) h0
end Go.Proofs.YtfibbjnkicjbpaaGreatDoor
/- The library's Atoi by one contract: a value, or an error. -/
namespace Go.Proofs.YtfibbjnkicjbpaaGreatDoor
open Go.RowKit

/-- An error's variable holds nothing or an error. -/
def EvAt (g : Nat) (w : World) : Prop := ∃ ev, w.cell? ⟨g, 0, none⟩ = some ev ∧ (ev = .nilIface ∨ ∃ te pe, ev = .iface te pe)
def EvW (w : World) : Prop := EvAt 3 w ∧ EvAt 4 w
theorem evAt_below {g : Nat} {w w' : World} (h : EvAt g w) (hb : Below w.heap.size w w') : EvAt g w' := by
  obtain ⟨ev, h1, h2⟩ := h
  exact ⟨ev, (hb.cell (p := ⟨g, 0, none⟩) (World.block_lt_of_cell? w _ h1)).trans h1, h2⟩
theorem EvW.below {w w' : World} (h : EvW w) (hb : Below w.heap.size w w') : EvW w' := ⟨evAt_below h.1 hb, evAt_below h.2 hb⟩
/-- How Atoi ends. -/
def AtoiEnds (x : List UInt8) (v : Int) (er : Value) : Prop := (er = .nilIface ∧ Lib.atoiAll x = .ok v) ∨ ((∃ t p, er = .iface t (.pointer p)) ∧ ∀ u, Lib.atoiAll x ≠ .ok u)
theorem atoi_any (x : ByteArray) (w : World) (hs : x.size ≤ 281474976710656) (hE : EvW w) :
    Calls Tryz.prog 94 #[.string x] w fun e w' => ∃ v er, e = .returned (.tuple #[.int .i64 v, er]) ∧ AtoiEnds x.data.toList v er ∧ Below w.heap.size w w' := by
  obtain ⟨⟨e1, a1, a2⟩, ⟨e2, b1, b2⟩⟩ := hE
  rcases h : Lib.atoiAll x.data.toList with v | _ | _
  · refine (Tryz.strconv_Atoi_ok x (by omega) v h w).mono ?_
    rintro e w' ⟨rfl, hw⟩
    refine ⟨v, _, rfl, .inl ⟨rfl, h⟩, ?_⟩
    rcases hw with rfl | ⟨t, rfl⟩
    · exact Below.refl _ _
    · exact Joins.below_bytesWorld _ w _ _ (Nat.le_refl _)
  · refine (Any.strconv_Atoi_syntax Tryz.laysC172 x hs h e1 w a1 a2).mono ?_
    rintro e w' ⟨N, rfl, _, _, hb⟩
    exact ⟨_, _, rfl, .inr ⟨⟨_, _, rfl⟩, fun u e => by rw [h] at e; cases e⟩, hb⟩
  · refine (Tryz.strconv_Atoi_range x hs h e2 w b1 b2).mono ?_
    rintro e w' ⟨N, rfl, _, _, hb⟩
    exact ⟨_, _, rfl, .inr ⟨⟨_, _, rfl⟩, fun u e => by rw [h] at e; cases e⟩, hb⟩
end Go.Proofs.YtfibbjnkicjbpaaGreatDoor
/- The document's List, by its contract. -/
namespace Go.Proofs.YtfibbjnkicjbpaaGreatDoor
open Go.RowKit

theorem intInfo : (Tryz.prog.info? 3).map (fun i => (i.zero, i.size, i.bytes)) = some (some (.int .i64 0), 1, 8) := by kernel_rfl
def ints (l : List Nat) : List Value := l.map fun i => .int .i64 (i : Nat)
/-- What List leaves: the compartments in a row of its own. -/
def IntRow (W : World) (l : List Nat) (e : Ending) (w' : World) : Prop := ∃ p c, e = .returned (.slice p l.length c) ∧ Below W.heap.size W w' ∧ w'.ownsRow W.heap.size 3 1 (.slice p l.length c) l.length (ints l)
theorem int_owned {W : World} {B : Nat} {v : Value} {l : List Nat} (h : W.ownsRow B 3 1 v l.length (ints l)) : ∃ p c, v = .slice p l.length c := by
  rcases h.2 with ⟨hv, h0⟩ | ⟨g, cap, cur, hv, _⟩
  · exact ⟨none, 0, by rw [hv, h0]⟩
  · exact ⟨some ⟨g, 0, none⟩, cap, hv⟩

end Go.Proofs.YtfibbjnkicjbpaaGreatDoor
/- The library's count of trailing zeros, by contract, over its table. -/
namespace Go.Proofs.YtfibbjnkicjbpaaGreatDoor
open Go.RowKit

/-- The library's table, as the world holds it. -/
def BTab (w : World) : Prop := Lib.TabIs Tryz.prog w "math/bits.deBruijn64tab" .u8 (Lib.deBruijn64tab.map fun n : Nat => (n : Int))
theorem gBt : Tryz.prog.globalNamed "math/bits.deBruijn64tab" = some 0 := by kernel_rfl
theorem BTab.below {w w' : World} (h : BTab w) (hb : Below w.heap.size w w') : BTab w' := by
  unfold BTab Lib.TabIs World.var? at h ⊢
  rw [gBt] at h ⊢
  simp only [Option.bind_some] at h ⊢
  have hg : 0 < w.heap.size := by
    cases hh : w.heap[0]? with
    | none => rw [hh] at h; cases h
    | some o => exact (Array.getElem?_eq_some_iff.1 hh).1
  rw [hb.block _ hg]; exact h
theorem BTab.at {w : World} (h : BTab w) (j : Nat) (hj : j < 64) : w.cell? ⟨0, j, none⟩ = some (.int .u8 (Lib.deBruijn64tab.getD j 0 : Nat)) := by
  have h1 := Lib.TabIs.cell h gBt j (by rw [List.length_map]; exact hj)
  rw [h1]
  have hl : Lib.deBruijn64tab.length = 64 := rfl
  rw [List.getD_eq_getElem?_getD, List.getD_eq_getElem?_getD, List.getElem?_map, List.getElem?_eq_getElem (by omega)]
  rfl

theorem tz_key (x a : Nat) (hx : x < 18446744073709551616) (hx0 : x ≠ 0) (hlow : x &&& (18446744073709551616 - x) = a) :
    IntKind.u64.wrap (bits BinOp.and IntKind.u64 (x : Int) (IntKind.u64.wrap (-(x : Int))) * 285870213051353865) / 288230376151711744 = ((a * 285870213051353865 % 18446744073709551616 / 288230376151711744 : Nat) : Int) := by
  have e1 : IntKind.u64.wrap (-(x : Int)) = ((18446744073709551616 - x : Nat) : Int) := by rw [IntKind.wrap_u64]; omega
  rw [e1, bits_and_u64_nat x _ hx (by omega), hlow, IntKind.wrap_u64]
  omega
set_option maxHeartbeats 1000000 in
theorem tz_core (x k idx : Nat) (w : World) (hx0 : ((x : Int) == 0) = false)
    (key : IntKind.u64.wrap (bits BinOp.and IntKind.u64 (x : Int) (IntKind.u64.wrap (-(x : Int))) * 285870213051353865) / 288230376151711744 = (idx : Int))
    (hi : idx < 64) (hk : k < 64) (hcell : w.cell? ⟨0, idx, none⟩ = some (.int .u8 k)) :
    Calls Tryz.prog 82 #[.int .u64 x] w fun e w' => e = .returned (.int .i64 k) ∧ w = w' := by
  go_enter Tryz.func82, Tryz.ntmps82
  go_wp2_with (simp only [key])
  go_ret
  exact ⟨rfl, rfl⟩
theorem tz_any (x : Nat) (w : World) (hx : x < 18446744073709551616) (h0 : x ≠ 0) (hT : BTab w) :
    Calls Tryz.prog 82 #[.int .u64 x] w fun e w' => e = .returned (.int .i64 (Lib.ctz 64 x : Nat)) ∧ w = w' := by
  obtain ⟨hlow, hk⟩ := Lib.lowest_bit 64 x h0 hx
  obtain ⟨hi, htab⟩ := Lib.deBruijn64_at _ hk
  have hcell := hT.at _ hi
  rw [htab] at hcell
  exact tz_core x _ _ w (by simp; omega) (tz_key x _ hx h0 hlow) hi hk hcell
end Go.Proofs.YtfibbjnkicjbpaaGreatDoor
/- How many compartments: the library's count of ones, and label's. -/
namespace Go.Proofs.YtfibbjnkicjbpaaGreatDoor
open Go.RowKit

theorem and_num (x : Int) (a m : Nat) (h : x = (a : Int)) (ha : a < 18446744073709551616) (hm : m < 18446744073709551616) : bits .and .u64 x (m : Int) = ((a &&& m : Nat) : Int) := by
  rw [h]; exact u64_and_nat a m ha hm
theorem ones_cast (t c : Nat) (h : (t + t / 256 + (t + t / 256) / 65536 + (t + t / 256 + (t + t / 256) / 65536) / 4294967296) % 128 = c) :
    ((t : Int) + (t : Int) / 256 + ((t : Int) + (t : Int) / 256) / 65536 + ((t : Int) + (t : Int) / 256 + ((t : Int) + (t : Int) / 256) / 65536) / 4294967296) % 128 = (c : Int) := by
  have hx : (t : Int) + (t : Int) / 256 = ((t + t / 256 : Nat) : Int) := by omega
  rw [hx]
  generalize t + t / 256 = x at *
  have hy : (x : Int) + (x : Int) / 65536 = ((x + x / 65536 : Nat) : Int) := by omega
  rw [hy]
  generalize x + x / 65536 = y at *
  omega
set_option maxRecDepth 100000 in
set_option maxHeartbeats 1000000 in
theorem onesCount_any (a : Nat) (w : World) (ha : a < 18446744073709551616) :
    Calls Tryz.prog 105 #[.int .u64 a] w fun e w' => e = .returned (.int .i64 (cnt a : Nat)) ∧ w = w' := by
  have l1 := ones1_lt a
  have l2 := ones2_lt (ones1 a)
  have l3 := ones3_lt (ones2 (ones1 a))
  obtain ⟨lx, ly, lz, hz⟩ := ones_end a ha _ _ _ rfl rfl rfl
  obtain ⟨p, hp⟩ : ∃ p, p = (a / 2 &&& 6148914691236517205) := ⟨_, rfl⟩
  obtain ⟨q, hq⟩ : ∃ q, q = (a &&& 6148914691236517205) := ⟨_, rfl⟩
  have e1 : bits .and .u64 ((a : Int) / 2) 6148914691236517205 = (p : Int) := by rw [hp]; exact and_num _ _ 6148914691236517205 (by omega) (by omega) (by decide)
  have e2 : bits .and .u64 (a : Int) 6148914691236517205 = (q : Int) := by rw [hq]; exact and_num _ _ 6148914691236517205 (by omega) (by omega) (by decide)
  have o1 : ones1 a = p + q := by rw [hp, hq]; rfl
  have lp : p ≤ 6148914691236517205 := by rw [hp]; exact Nat.and_le_right
  have lq : q ≤ 6148914691236517205 := by rw [hq]; exact Nat.and_le_right
  rw [o1] at l2 l3 lx ly lz hz
  clear l1 o1 hp hq
  obtain ⟨r, hr⟩ : ∃ r, r = ((p + q) / 4 &&& 3689348814741910323) := ⟨_, rfl⟩
  obtain ⟨s, hs⟩ : ∃ s, s = (p + q &&& 3689348814741910323) := ⟨_, rfl⟩
  have e3 : bits .and .u64 (((p : Int) + (q : Int)) / 4) 3689348814741910323 = (r : Int) := by rw [hr]; exact and_num _ _ 3689348814741910323 (by omega) (by omega) (by decide)
  have e4 : bits .and .u64 ((p : Int) + (q : Int)) 3689348814741910323 = (s : Int) := by rw [hs]; exact and_num _ _ 3689348814741910323 (by omega) (by omega) (by decide)
  have o2 : ones2 (p + q) = r + s := by rw [hr, hs]; rfl
  have lr : r ≤ 3689348814741910323 := by rw [hr]; exact Nat.and_le_right
  have ls : s ≤ 3689348814741910323 := by rw [hs]; exact Nat.and_le_right
  rw [o2] at l3 lx ly lz hz
  clear l2 o2 hr hs
  obtain ⟨t, ht⟩ : ∃ t, t = ((r + s) / 16 + (r + s) &&& 1085102592571150095) := ⟨_, rfl⟩
  have e5 : bits .and .u64 (((r : Int) + (s : Int)) / 16 + ((r : Int) + (s : Int))) 1085102592571150095 = (t : Int) := by rw [ht]; exact and_num _ _ 1085102592571150095 (by omega) (by omega) (by decide)
  have o3 : ones3 (r + s) = t := by rw [ht]; rfl
  rw [o3] at l3 lx ly lz hz
  clear o3 ht
  have H := Lib.hid hz
  clear hz
  go_enter Tryz.func105, Tryz.ntmps105
  go_wp2
  go_ret
  refine ⟨ret_int ?_, rfl⟩
  rw [i64_and127]
  exact ones_cast t (cnt a) H.out
theorem count_any (a : Nat) (w : World) (ha : a < 18446744073709551616) :
    Calls Tryz.prog 81 #[.int .u64 a] w fun e w' => e = .returned (.int .i64 (cnt a : Nat)) ∧ w = w' := by
  have c := onesCount_any a w ha
  go_enter Tryz.func81, Tryz.ntmps81
  go_wp2_with (go_at_call 105; refine c.mono ?_; rintro e w' ⟨rfl, rfl⟩)
  go_ret
  exact ⟨rfl, rfl⟩
end Go.Proofs.YtfibbjnkicjbpaaGreatDoor
/- label's own List, by its contract. -/
namespace Go.Proofs.YtfibbjnkicjbpaaGreatDoor
open Go.RowKit

set_option maxRecDepth 100000 in
set_option maxHeartbeats 4000000 in
theorem list_any (a : Nat) (w : World) (ha : a < 18446744073709551616) (hT : BTab w) :
    Calls Tryz.prog 51 #[.int .u64 a] w (IntRow w (listTo a 64)) := by
  have cC := count_any a w ha
  obtain ⟨i0, hi, hz0, hz1, hz2⟩ := info_parts intInfo
  have hcl := cnt_le a
  obtain ⟨w1, hrun, hown, hgr⟩ := run_make_own (P := Tryz.prog) w w.heap.size 82 3 i0 (.int .i64 0) 1 Tryz.underlying82 hi hz0 hz1 .i64 .i64 (cnt a) (by rw [hz2]; omega) (by unfold maxLen; omega) (Nat.le_refl _)
  have hb1 : Below w.heap.size w w1 := (Below.refl _ _).grown hgr (Nat.le_refl _) (by simp)
  have hfin : Hid (∀ v w', Below w.heap.size w w' → w'.ownsRow w.heap.size 3 1 v (listTo a 64).length (ints (listTo a 64)) → IntRow w (listTo a 64) (.returned v) w') := by
    intro v w' hb ho
    obtain ⟨p, c, rfl⟩ := int_owned ho
    exact ⟨p, c, rfl, hb, ho⟩
  have HO := Lib.hid hown
  clear hown hgr
  go_enter Tryz.func51, Tryz.ntmps51
  go_wp2_with (go_at_call 81; refine cC.mono ?_; rintro e w' ⟨rfl, rfl⟩)
  have HR := Lib.hid hrun
  clear hrun cC
  go_loopg [0, 3] (cnt a) (fun g x v wr => ∃ (y : Nat) (l : List Nat), x = .int .u64 y ∧ y < 18446744073709551616 ∧ g = (listTo y 64).length ∧ Hid (listTo a 64 = l ++ listTo y 64) ∧ l.length ≤ 64 ∧ Below w.heap.size w wr ∧ Hid (wr.ownsRow w.heap.size 3 1 v l.length (ints l)))
  case atStart => exact ⟨a, [], rfl, ha, rfl, rfl, by simp, hb1, HO.out⟩
  case round =>
    obtain ⟨y, l, rfl, hy, hg, hl, hll, hbr, ho⟩ := hrel
    by_cases h0 : y = 0
    · subst h0
      have hF := hfin.out
      rw [hl.out, list_zero, List.append_nil] at hF
      have HF := Lib.hid (hF _ _ hbr ho.out)
      clear hF hfin ho hg
      go_wp2_with fail
      go_ret
      have e := hl.out
      rw [list_zero, List.append_nil] at e
      rw [e]
      exact HF.out
    · obtain ⟨hlow, hlt, hk⟩ := list_low y h0 hy
      have he : bits .and .u64 (y : Int) ((y : Int) - 1) = ((y &&& (y - 1) : Nat) : Int) := by
        have := u64_and_nat y (y - 1) hy (by omega)
        rw [← this]
        congr 1
        omega
      have cT := tz_any y wr hy h0 (hT.below hbr)
      generalize y &&& (y - 1) = y' at *
      generalize Lib.ctz 64 y = c at *
      have hne : ((y : Int) != 0) = true := by rw [bne, beq_false_of_ne (by omega)]; rfl
      have hy1 : (1 : Int) ≤ (y : Int) := by omega
      have hc0 : (0 : Int) ≤ (c : Int) := Int.natCast_nonneg _
      have HL : Hid (listTo a 64 = (l ++ [c]) ++ listTo y' 64) := by
        have := hl.out
        rw [hlow] at this
        show _ = _
        rw [this]; simp
      have hlen : (l ++ [c]).length ≤ 64 := by
        have h1 := listTo_len a 64
        rw [HL.out, List.length_append] at h1
        omega
      have hg' : gk = (listTo y' 64).length + 1 := by rw [hg, hlow]; rfl
      have HG := Lib.hid hg'
      have HLEN := Lib.hid hlen
      have ho' := ho.out
      have hbsz := hbr.size
      clear hg' hg hlow hl hlen ho hfin
      go_wp2_with (first
        | (go_at_call 82; refine cT.mono ?_; rintro e w' ⟨rfl, rfl⟩)
        | (at_builtin; refine wpList_append_own _ rfl _ _ 82 rfl w.heap.size 3 i0 (.int .i64 0) 1 8 Tryz.underlying82 hi hz0 hz1 hz2 rfl (by decide) _ _ _ rfl (ho'.alloc _) ⟨wr.heap.size, 0, none⟩ 1 1 [.int .i64 c] rfl rfl ?c1 ?c2 ?c3 ?c4 ?c5 ?_))
      case c1 =>
        intro j u hj
        match j, hj with
        | 0, hj => simp at hj; subst hj; simp [Addr.add]
      case c2 => intro u hu; simp at hu; subst hu; rfl
      case c3 => unfold maxLen; omega
      case c4 => omega
      case c5 => simp; omega
      intro v' w3 hown' hgrow _
      have hb2 : Below w.heap.size w w3 := (hbr.alloc (by omega) _).grown hgrow (by simp; omega) (fun g hg => (ho'.lt g hg).1)
      have HO2 : Hid (w3.ownsRow w.heap.size 3 1 v' (l ++ [c]).length (ints (l ++ [c]))) := by
        rw [List.length_append, List.length_singleton]
        unfold ints
        rw [List.map_append]
        exact hown'
      clear ho' hown' hgrow cT
      go_wp2_with fail
      go_roundg (listTo y' 64).length
      case rel => exact ⟨y', l ++ [c], rfl, hlt, rfl, HL, HLEN.out, hb2, HO2⟩
      case measure => have := HG.out; omega
end Go.Proofs.YtfibbjnkicjbpaaGreatDoor
/- Rows of numbers that the call owns; a row of numbers copied behind one of the call's own. -/
namespace Go.Proofs.YtfibbjnkicjbpaaGreatDoor
open Go.RowKit

def nums (k : IntKind) (xs : List Int) : List Value := xs.map (Value.int k)
theorem nums_len (k : IntKind) (xs : List Int) : (nums k xs).length = xs.length := by simp [nums]
/-- What is owned can be read. -/
theorem nums_row {k : IntKind} {W : World} {B : Nat} {e : TypeId} {p : Option Addr} {n c : Nat} {xs : List Int} {rest : List Value} (h : W.ownsRow B e 1 (.slice p n c) n (nums k xs ++ rest)) : NumRow k W p xs := by
  intro i hi
  have hn := h.1
  rw [List.length_append, nums_len] at hn
  rcases h.2 with ⟨hv, h0⟩ | ⟨g, cap, cur, hv, _⟩
  · omega
  · injection hv with e1 e2 e3
    subst e1
    have hc := h.cellAt i (by omega)
    rw [List.getElem?_append_left (by rw [nums_len]; exact hi)] at hc
    unfold nums at hc
    rw [List.getElem?_map, List.getElem?_eq_getElem hi] at hc
    have hlt := World.block_lt_of_cell? W _ (show W.cell? ⟨g, i, none⟩ = some (.int k xs[i]) from hc)
    exact ⟨g, 0, rfl, hlt, by rw [Nat.zero_add]; exact hc⟩
theorem nums_row' {k : IntKind} {W : World} {B : Nat} {e : TypeId} {p : Option Addr} {n c : Nat} {xs : List Int} (h : W.ownsRow B e 1 (.slice p n c) n (nums k xs)) : NumRow k W p xs := nums_row (rest := []) (by rw [List.append_nil]; exact h)
theorem own_slice {W : World} {B : Nat} {e : TypeId} {v : Value} {n : Nat} {cs : List Value} (h : W.ownsRow B e 1 v n cs) : ∃ p c, v = .slice p n c := by
  rcases h.2 with ⟨hv, h0⟩ | ⟨g, cap, cur, hv, _⟩
  · exact ⟨none, 0, by rw [hv, h0]⟩
  · exact ⟨some ⟨g, 0, none⟩, cap, hv⟩
theorem own_later {w W : World} {B z : Nat} {e : TypeId} {v : Value} {n : Nat} {cs : List Value} (h : w.ownsRow B e z v n cs) (hb : Below w.heap.size w W) : W.ownsRow B e z v n cs := by
  refine ⟨h.1, ?_⟩
  rcases h.2 with h' | ⟨g, cap, cur, hv, hB, hg, rest⟩
  · exact .inl h'
  · have hlt : g < w.heap.size := (Array.getElem?_eq_some_iff.1 hg).1
    exact .inr ⟨g, cap, cur, hv, hB, by rw [hb.block g hlt]; exact hg, rest⟩
theorem own_some {W : World} {B : Nat} {e : TypeId} {v : Value} {k : Nat} {cs : List Value} (h : W.ownsRow B e 1 v (k + 1) cs) : ∃ g cap, v = .slice (some ⟨g, 0, none⟩) (k + 1) cap ∧ k + 1 ≤ cap ∧ B ≤ g ∧ g < W.heap.size := by
  rcases h.2 with ⟨_, h0⟩ | ⟨g, cap, cur, hv, hB, hg, hc, _⟩
  · omega
  · exact ⟨g, cap, hv, hc, hB, (Array.getElem?_eq_some_iff.1 hg).1⟩
theorem addr_plus (b off i : Nat) : (⟨b, off, none⟩ : Addr).add i = ⟨b, off + i, none⟩ := by
  unfold Addr.add
  by_cases h : i = 0
  · subst h; rfl
  · simp [h]

theorem copy_nums {P : Program} {w : World} {ops : Array Oper} {rest : List Oper} {o : Oper} {a : Act} {Q : Exit → Act → World → Prop} (hgd : o.guard = none) (s x : Operand) (t : TypeId)
    (ho : o.op = .call { callee := .builtin .append, args := #[s, x], argTypes := #[t, t] })
    (base : Nat) (e : TypeId) (i : TypeInfo) (z : Value) (ht : P.underlying t = some (.slice e)) (hi : P.info? e = some i) (hz : i.zero = some z) (hsize : i.size = 1) (hby : i.bytes = 8) (hzs : z.cells.size = 1)
    (v : Value) (hs : a.eval s = v) (hown : w.ownsRow base e 1 v 0 []) (k : IntKind) (p : Option Addr) (m c : Nat) (xs : List Int) (hx : a.eval x = .slice p m c) (hl : xs.length = m) (hrow : NumRow k w p xs) (hnil : p = none → m = 0 ∧ c = 0)
    (hm : m ≤ 17592186044416) (hbase : base ≤ w.heap.size)
    (h : ∀ v' w', w'.ownsRow base e 1 v' m (nums k xs) → Below base w w' → wpList P ops Q rest (a.put o.dst v') w') : wpList P ops Q (o :: rest) a w := by
  cases p with
  | none =>
    obtain ⟨rfl, rfl⟩ := hnil rfl
    have e0 : xs = [] := List.eq_nil_of_length_eq_zero hl
    subst e0
    exact wpList_append_own_none hgd s x t ho base e i 1 ht hi v 0 [] hs hown hx (h v w hown (Below.refl _ _))
  | some ad =>
    refine wpList_append_own w hgd s x t ho base e i z 1 8 ht hi hz hsize hby hzs (by decide) v 0 [] hs hown ad m c (nums k xs) hx (by rw [nums_len, hl, Nat.mul_one]) ?_ ?_ (by unfold maxLen; omega) (by omega) hbase ?_
    · intro j u hj
      have hjl : j < xs.length := by
        rcases Nat.lt_or_ge j xs.length with h' | h'
        · exact h'
        · rw [List.getElem?_eq_none (by rw [nums_len]; exact h')] at hj; cases hj
      obtain ⟨b, off, e1, hlt, hc⟩ := hrow j hjl
      injection e1 with e1
      subst e1
      unfold nums at hj
      rw [List.getElem?_map, List.getElem?_eq_getElem hjl] at hj
      injection hj with hj
      rw [addr_plus, hc, ← hj]
    · intro u hu
      unfold nums at hu
      rw [List.mem_map] at hu
      obtain ⟨y, _, rfl⟩ := hu
      rfl
    · intro v' w' ho' hgr _
      have hb : Below base w w' := (Below.refl _ _).grown hgr hbase (fun k hk => (hown.lt k hk).1)
      rw [Nat.zero_add, List.nil_append] at ho'
      exact h v' w' ho' hb
end Go.Proofs.YtfibbjnkicjbpaaGreatDoor
/- Contracts at every world that has grown out of the first one. -/
namespace Go.Proofs.YtfibbjnkicjbpaaGreatDoor
open Go.RowKit

/-- A row of compartments that was made, as a slice that holds them, later on. -/
theorem ints_row {W : World} {B : Nat} {p : Option Addr} {c : Nat} {l : List Nat} (h : W.ownsRow B 3 1 (.slice p l.length c) l.length (ints l)) : NumRow .i64 W p (l.map fun i : Nat => (i : Int)) := by
  intro i hi
  rw [List.length_map] at hi
  rcases h.2 with ⟨hv, h0⟩ | ⟨g, cap, cur, hv, _⟩
  · omega
  · injection hv with e1 e2 e3
    subst e1
    have hc := h.cellAt i (by omega)
    unfold ints at hc
    rw [List.getElem?_map, List.getElem?_eq_getElem hi] at hc
    have hlt := World.block_lt_of_cell? W _ (show W.cell? ⟨g, i, none⟩ = some (.int .i64 (l[i] : Nat)) from hc)
    exact ⟨g, 0, rfl, hlt, by rw [Nat.zero_add, List.getElem_map]; exact hc⟩

/-- A world that has grown out of w. -/
def St (w W : World) : Prop := BTab W ∧ Below w.heap.size w W
theorem St.start {w : World} (h : BTab w) : St w w := ⟨h, Below.refl _ _⟩
theorem St.next {w W W' : World} (h : St w W) (hb : Below W.heap.size W W') : St w W' := ⟨h.1.below hb, h.2.trans (hb.mono h.2.size)⟩
/-- A contract at every world that has grown out of w. -/
def Says (w : World) (f : Nat) (args : Array Value) (v : Value) : Prop := ∀ W, St w W → Calls Tryz.prog f args W fun e w' => e = .returned v ∧ St w w'
theorem says_of {w : World} {f : Nat} {args : Array Value} {v : Value} (h : ∀ W, BTab W → Calls Tryz.prog f args W fun e w' => e = .returned v ∧ Below W.heap.size W w') : Says w f args v :=
  fun W hW => (h W hW.1).mono fun _ _ ⟨h1, h2⟩ => ⟨h1, hW.next h2⟩
theorem says_same {w : World} {f : Nat} {args : Array Value} {v : Value} (h : ∀ W, Calls Tryz.prog f args W fun e w' => e = .returned v ∧ W = w') : Says w f args v :=
  fun W hW => (h W).mono fun _ _ ⟨h1, h2⟩ => ⟨h1, by rw [← h2]; exact hW⟩
/-- A call that gives a row of compartments. -/
def Lists (w : World) (f : Nat) (args : Array Value) (l : List Nat) : Prop := ∀ W, St w W → Calls Tryz.prog f args W fun e w' => ∃ p c, e = .returned (.slice p l.length c) ∧ NumRow .i64 w' p (l.map fun i : Nat => (i : Int)) ∧ St w w' ∧ Below W.heap.size W w'
theorem lists_of {w : World} {f : Nat} {args : Array Value} {l : List Nat} (h : ∀ W, BTab W → Calls Tryz.prog f args W (IntRow W l)) : Lists w f args l :=
  fun W hW => (h W hW.1).mono fun _ _ ⟨p, c, h1, h2, h3⟩ => ⟨p, c, h1, ints_row h3, hW.next h2, h2⟩

end Go.Proofs.YtfibbjnkicjbpaaGreatDoor
/- label's own Text, by its contract. -/
namespace Go.Proofs.YtfibbjnkicjbpaaGreatDoor
open Go.RowKit

def strs (l : List Nat) : List Value := l.map fun i => .string (digsB i)
theorem strs_len (l : List Nat) : (strs l).length = l.length := by simp [strs]

set_option maxRecDepth 100000 in
set_option maxHeartbeats 4000000 in
theorem text_any_lb (a : Nat) (w : World) (ha : a < 18446744073709551616) (hT : BTab w) :
    Calls Tryz.prog 29 #[.int .u64 a] w fun e w' => e = .returned (.string ⟨(textN a).toArray⟩) ∧ Below w.heap.size w w' := by
  by_cases h0 : a = 0
  · subst h0
    go_enter Tryz.func29, Tryz.ntmps29
    go_wp2
    go_ret
    exact ⟨rfl, Below.refl _ _⟩
  · have cL := list_any a w ha hT
    obtain ⟨n, hn⟩ := list_nonzero a h0 ha
    have hll := listTo_len a 64
    have hmem := Lib.hid (list_below a)
    have HT : Hid (textN a = Lib.join ((listTo a 64).map Lib.decDigits) [43]) := by show textN a = _; unfold textN; rw [if_neg h0]
    have hne : ((a : Int) == 0) = false := beq_false_of_ne (by omega)
    obtain ⟨i0, hi, hz0, hz1, hz2⟩ := info_parts strInfo
    generalize textN a = tx at *
    generalize listTo a 64 = l at *
    have HN := Lib.hid hn
    clear hn
    go_enter Tryz.func29, Tryz.ntmps29
    go_wp2_with fail
    refine cL.mono ?_
    rintro e w1 ⟨p, c, rfl, hb1, ho1⟩
    have hrow := ints_row ho1
    have hB1 := hb1.size
    clear cL ho1
    go_wp2_with fail
    go_loopg [3, 11] l.length (fun g v i wr => ∃ k : Nat, k + g = l.length ∧ i = .int .i64 k ∧ Below w1.heap.size w1 wr ∧ Hid (wr.ownsRow w1.heap.size 9 1 v k (strs (l.take k))))
    case atStart => exact ⟨0, by omega, rfl, Below.refl _ _, by rw [List.take_zero]; exact World.ownsRow_nil _ _ _ _⟩
    case round =>
      obtain ⟨k, hk, rfl, hbr, ho⟩ := hrel
      by_cases hlt : k < l.length
      · obtain ⟨b1, o1, rfl, _, h1c⟩ := hrow.at k (by rw [List.length_map]; exact hlt)
        have g1 := h1c wr hbr
        rw [List.getElem_map] at g1
        have hsn : Hid (strs (l.take (k + 1)) = strs (l.take k) ++ [.string (digsB l[k])]) := by
          show strs (l.take (k + 1)) = _
          rw [List.take_succ_eq_append_getElem hlt]
          unfold strs
          rw [List.map_append]; rfl
        have hi100 := hmem.out l[k] (List.getElem_mem hlt)
        generalize l[k] = x at *
        have cI : Calls Tryz.prog 52 #[.int .i64 x] wr fun e w' => e = .returned (.string (digsB x)) ∧ wr = w' := (Tryz.strconv_Itoa_small x hi100 wr).mono fun _ _ ⟨h1, h2⟩ => ⟨h1, h2.symm⟩
        generalize digsB x = dx at *
        have hx0 : (0 : Int) ≤ (x : Int) := Int.natCast_nonneg _
        have hkk : (0 : Int) ≤ (k : Int) := Int.natCast_nonneg _
        have hki : (k : Int) < (l.length : Int) := by omega
        have ho' := ho.out
        have hbsz := hbr.size
        clear h1c ho HT
        go_wp2_with (first
          | (go_at_call 52; refine cI.mono ?_; rintro e w' ⟨rfl, rfl⟩)
          | (at_builtin; refine wpList_append_own _ rfl _ _ 33 rfl w1.heap.size 9 i0 (.string ⟨#[]⟩) 1 16 Tryz.underlying33 hi hz0 hz1 hz2 rfl (by decide) _ _ _ rfl (ho'.alloc _) ⟨wr.heap.size, 0, none⟩ 1 1 [.string dx] rfl rfl ?c1 ?c2 ?c3 ?c4 ?c5 ?_))
        case c1 =>
          intro j u hj
          match j, hj with
          | 0, hj => simp at hj; subst hj; simp [Addr.add]
        case c2 => intro u hu; simp at hu; subst hu; rfl
        case c3 => unfold maxLen; omega
        case c4 => omega
        case c5 => simp; omega
        intro v' w3 hown' hgrow _
        have hb2 : Below w1.heap.size w1 w3 := (hbr.alloc (by omega) _).grown hgrow (by simp; omega) (fun g hg => (ho'.lt g hg).1)
        have HO : Hid (w3.ownsRow w1.heap.size 9 1 v' (k + 1) (strs (l.take (k + 1)))) := by rw [hsn.out]; exact hown'
        clear ho' hown' hgrow cI hsn
        go_wp2_with fail
        go_roundg (gk - 1)
        case rel => exact ⟨k + 1, by omega, by go_num, hb2, HO⟩
        case measure => omega
      · obtain rfl : k = l.length := by omega
        have ho' := ho.out
        rw [List.take_length, HN.out] at ho'
        obtain ⟨g, cap, rfl, hcap, hg1, hg2⟩ := own_some ho'
        have hcell : ∀ (j : Nat) x, (l.map digsB)[j]? = some x → wr.cell? ⟨g, 0 + j, none⟩ = some (.string x) := by
          intro j x hx
          have hj : j < l.length := by
            rcases Nat.lt_or_ge j l.length with h' | h'
            · exact h'
            · rw [List.getElem?_eq_none (by rw [List.length_map]; exact h')] at hx; cases hx
          have h1 := ho'.cellAt j (by have := HN.out; omega)
          rw [Nat.zero_add, h1]
          unfold strs
          rw [List.getElem?_map, List.getElem?_eq_getElem hj] at hx ⊢
          injection hx with hx
          rw [← hx]; rfl
        have hjl := join_le l hmem.out
        have cJ := Tryz.strings_Join g 0 cap (l.map digsB) ⟨#[43]⟩ wr hcell hg2 (by rw [List.length_map]; omega) (by rw [List.length_map, HN.out]; exact hcap) (by rw [digs_map]; exact Nat.le_trans hjl (by omega))
        rw [List.length_map, HN.out, digs_map, show (⟨#[43]⟩ : ByteArray).data.toList = [43] from rfl, ← HT.out] at cJ
        have hend := fun W (h : Below wr.heap.size wr W) => hb1.trans ((hbr.trans (h.mono hbr.size)).mono hB1)
        clear hcell ho ho' hjl HT hmem
        go_wp2_with fail
        refine cJ.mono ?_
        rintro e w5 ⟨rfl, hb5⟩
        have hend' := hend w5 hb5
        clear cJ hend hb5
        go_wp2_with fail
        go_ret
        exact ⟨rfl, hend'⟩
end Go.Proofs.YtfibbjnkicjbpaaGreatDoor
/- Of at one number, plainly. -/
namespace Go.Proofs.YtfibbjnkicjbpaaGreatDoor
open Go.RowKit
theorem of_one (c : Nat) (h : c < 64) : ofW [(c : Int)] = 2 ^ c ∧ ofE [(c : Int)] = 0 := by
  obtain ⟨h1, h2⟩ := of_good [(c : Int)] fun k hk => by
    match k, hk with
    | 0, _ => exact ⟨by show (0 : Int) ≤ (c : Int); omega, by show (c : Int) ≤ 63; omega⟩
  refine ⟨?_, h2⟩
  rw [h1]
  refine word_ext (wordOf_lt _) (Nat.pow_lt_pow_right (by decide) h) fun i hi => ?_
  rw [wordOf_bit _ i hi, Nat.testBit_two_pow]
  unfold ofF
  rw [Bool.eq_iff_iff]; simp; omega
end Go.Proofs.YtfibbjnkicjbpaaGreatDoor
/- label's Parse, by its contract. -/
namespace Go.Proofs.YtfibbjnkicjbpaaGreatDoor
open Go.RowKit Go.Shelf

attribute [local go_sem] Oper.semAt_some

theorem boxed_later {W W' : World} {B : Nat} {t : TypeId} {v : Value} (h : Boxed W B t v) (hb : Below W.heap.size W W') : Boxed W' B t v := (hb.block B h.lt).trans h
/-- Between two rounds: the results' boxes, what has been gathered. -/
def PInv {M : Nat} (R : Nat) (w : World) (pre : List (Pc M)) (W : World) : Prop :=
  (Boxed W R 25 (.int .u64 0) ∧ Boxed W (R + 1) 26 (.int .i64 0) ∧ Boxed W (R + 2) 25 (.int .u64 (accP (lsOf pre) : Nat))) ∧ Below R w W ∧ R + 6 ≤ W.heap.size
def POut {M : Nat} (R : Nat) (w : World) (c : Code) (pre : List (Pc M)) (W : World) : Prop :=
  (Boxed W R 25 (.int .u64 0) ∧ Boxed W (R + 1) 26 (.int .i64 4)) ∧ (c = .ret ∧ ∃ p ∈ lsOf pre, pieceV p = none) ∧ Below R w W
theorem keeps_below {W W' : World} (h : Below W.heap.size W W') : KeepsOthers W W' := ⟨h.size, fun k _ hk _ => (h.block k (Array.getElem?_eq_some_iff.1 hk).1).trans hk⟩
theorem keep3_below {B : Nat} {W W' : World} (hB : B + 2 < W.heap.size) (h : Below W.heap.size W W') : Keep3 B W W' := fun k _ h2 => h.block k (by omega)
theorem keep3_set {B C : Nat} {W : World} (h : C < B) (u : Value) : Keep3 B W (W.setCell ⟨C, 0, none⟩ u) := fun _ h1 _ => other_block u (by omega)
/-- A round that leaves. -/
theorem pout_leave {M R : Nat} {w W1 : World} {pre : List (Pc M)} (o : Obj) (g0 : Boxed W1 R 25 (.int .u64 0)) (g1 : Boxed W1 (R + 1) 26 (.int .i64 0)) (hB : Below R w W1) (hR : R ≤ w.heap.size) (hbad : ∃ p ∈ lsOf pre, pieceV p = none) :
    POut R w .ret pre (((W1.alloc o).setCell ⟨R, 0, none⟩ (.int .u64 0)).setCell ⟨R + 1, 0, none⟩ (.int .i64 4)) :=
  ⟨⟨((g0.alloc o).set _).other (by omega) _, ((g1.alloc o).other (by omega) _).set _⟩, ⟨rfl, hbad⟩,
    ((hB.alloc (Nat.le_trans hR hB.size) o).setCell (p := ⟨R, 0, none⟩) (Nat.le_refl _) _).setCell (p := ⟨R + 1, 0, none⟩) (by show R ≤ R + 1; omega) _⟩
/-- A round that goes on. -/
theorem pinv_next {M R : Nat} {w W1 : World} {pre : List (Pc M)} (x : Pc M) (c : Nat) (o : Obj) (hc : pieceV x.val.data.toList = some c) (hc64 : c < 64) (g0 : Boxed W1 R 25 (.int .u64 0)) (g1 : Boxed W1 (R + 1) 26 (.int .i64 0)) (g2 : Boxed W1 (R + 2) 25 (.int .u64 (accP (lsOf pre) : Nat))) (hB : Below R w W1) (hR : R ≤ w.heap.size) (hs : R + 6 ≤ W1.heap.size) (z : Int) (hz : z = ((accP (lsOf pre) ||| 2 ^ c : Nat) : Int)) :
    PInv R w (pre ++ [x]) ((W1.alloc o).setCell ⟨R + 2, 0, none⟩ (.int .u64 z)) := by
  subst hz
  unfold PInv
  rw [ls_snoc, acc_snoc _ _ c hc hc64]
  exact ⟨⟨(g0.alloc o).other (by omega) _, (g1.alloc o).other (by omega) _, (g2.alloc o).set _⟩, (hB.alloc (Nat.le_trans hR hB.size) o).setCell (p := ⟨R + 2, 0, none⟩) (by show R ≤ R + 2; omega) _, by rw [World.size_setCell, World.size_alloc]; omega⟩
theorem pinv_own {M : Nat} (R B : Nat) (w : World) (hR : R ≤ w.heap.size) (h : R ≤ B) : OwnFrom B (PInv (M := M) R w) :=
  OwnFrom.and (Own.from (fun s A B row hs hg hr => ⟨boxed_own _ _ (fun _ => _) s A B row hs.1 hg hr, boxed_own _ _ (fun _ => _) s A B row hs.2.1 hg hr, boxed_own _ _ (fun _ => _) s A B row hs.2.2 hg hr⟩) _) (OwnFrom.and (ownFrom_below hR h) (fun _ _ _ _ hs hg _ => Nat.le_trans hs hg.size))
theorem pout_own {M : Nat} (R B : Nat) (w : World) (c : Code) (hR : R ≤ w.heap.size) (h : R ≤ B) : OwnFrom B (POut (M := M) R w c) :=
  OwnFrom.and (Own.from (fun s A B row hs hg hr => ⟨boxed_own _ _ (fun _ => _) s A B row hs.1 hg hr, boxed_own _ _ (fun _ => _) s A B row hs.2 hg hr⟩) _) (OwnFrom.and (ownFrom_pure _ _) (ownFrom_below hR h))
theorem pinv_store {M : Nat} (R B : Nat) (w : World) (hB : R + 2 < B) : Stores B (PInv (M := M) R w) := fun _ _ u ⟨⟨a, b, c⟩, d, f⟩ =>
  ⟨⟨a.other (by omega) u, b.other (by omega) u, c.other (by omega) u⟩, d.setCell (p := ⟨B, 0, none⟩) (by show R ≤ B; omega) u, by rw [World.size_setCell]; exact f⟩

set_option maxRecDepth 100000 in
set_option maxHeartbeats 8000000 in
theorem parse_any (s : ByteArray) (w : World) (hs : s.size ≤ 281474976710656) (hT : BTab w) (hE : EvW w) :
    Calls Tryz.prog 63 #[.string s] w fun e w' => ∃ (a : Nat) (er : Int), e = .returned (.tuple #[.int .u64 a, .int .i64 er]) ∧ ReadAs s.data.toList a er ∧ Below w.heap.size w w' := by
  have hB0 : Below w.heap.size w ((w.alloc (.cells #[.int .u64 0] 25)).alloc (.cells #[.int .i64 0] 26)) := ((Below.refl _ _).alloc (Nat.le_refl _) _).alloc (by simp) _
  have c0 := (Boxed.new w 25 (.int .u64 0)).alloc (.cells #[.int .i64 0] 26)
  have c1 := Boxed.new (w.alloc (.cells #[.int .u64 0] 25)) 26 (.int .i64 0)
  simp only [World.size_alloc] at c1
  refine (callsIn_wide (n := 3)).1 ?_
  refine callsIn_of_wp_marks Tryz.func63 rfl trivial ?_ rfl
  simp only [Tryz.ntmps63, List.size_toArray, List.length_cons, List.length_nil, Nat.reduceAdd, Nat.reduceSub, Array.replicate_succ, Array.replicate_zero, List.push_toArray, List.append_toArray, List.nil_append, List.cons_append]
  have H0 := Lib.hid c0; have H1 := Lib.hid c1; have HB0 := Lib.hid hB0
  by_cases hd : s = ⟨#[45]⟩
  · subst hd
    have k0 := c0.cell; have k1 := c1.cell
    clear c0 c1 hB0
    gi_wp2
    refine ⟨.tuple #[.int .u64 0, .int .i64 0], ?_, 0, 0, rfl, read_dash, HB0.out⟩
    simp [results, Tryz.f63, go_sem, k0, k1]
  · have hs45 : s.data.toList ≠ [45] := by
      intro e; apply hd
      cases s with
      | mk d => congr 1; apply Array.toList_inj.1; exact e
    have hne : (s.toList == [45]) = false := by rw [ByteArray.toList_eq]; exact beq_false_of_ne hs45
    have HS := Lib.hid hs45
    have b0 := (c0.alloc (.cells #[.int .u64 0] 25))
    have b1 := (c1.alloc (.cells #[.int .u64 0] 25))
    have b2 := Boxed.new ((w.alloc (.cells #[.int .u64 0] 25)).alloc (.cells #[.int .i64 0] 26)) 25 (.int .u64 0)
    simp only [World.size_alloc] at b2
    have hbA := HB0.out.alloc HB0.out.size (.cells #[.int .u64 0] 25)
    have hsz : (((w.alloc (.cells #[.int .u64 0] 25)).alloc (.cells #[.int .i64 0] 26)).alloc (.cells #[.int .u64 0] 25)).heap.size = w.heap.size + 3 := by simp
    have G0 := Lib.hid b0; have G1 := Lib.hid b1; have G2 := Lib.hid b2; have HBA := Lib.hid hbA
    clear c0 c1 hB0 hd hs45 b0 b1 b2 hbA H0 H1 HB0
    gi_wp2
    generalize (((w.alloc (.cells #[.int .u64 0] 25)).alloc (.cells #[.int .i64 0] 26)).alloc (.cells #[.int .u64 0] 25)) = wA at *
    refine ⟨trivial, (callsIn_wide.2 (splitSeq_any s wA)).mono ?_⟩
    rintro e wB ⟨rfl, rfl⟩
    rw [hsz]
    clear hne
    gi_wp2
    have d0 := Boxed.new wA 9 (.string s)
    have d1 := Boxed.new (wA.alloc (.cells #[.string s] 9)) 9 (.string ⟨#[43]⟩)
    have d2 := Boxed.new ((wA.alloc (.cells #[.string s] 9)).alloc (.cells #[.string ⟨#[43]⟩] 9)) 3 (.int .i64 0)
    simp only [World.size_alloc, hsz] at d0 d1 d2
    have e0 := ((G0.out.alloc (.cells #[.string s] 9)).alloc (.cells #[.string ⟨#[43]⟩] 9)).alloc (.cells #[.int .i64 0] 3)
    have e1 := ((G1.out.alloc (.cells #[.string s] 9)).alloc (.cells #[.string ⟨#[43]⟩] 9)).alloc (.cells #[.int .i64 0] 3)
    have e2 := ((G2.out.alloc (.cells #[.string s] 9)).alloc (.cells #[.string ⟨#[43]⟩] 9)).alloc (.cells #[.int .i64 0] 3)
    have hbB : Below w.heap.size w (((wA.alloc (.cells #[.string s] 9)).alloc (.cells #[.string ⟨#[43]⟩] 9)).alloc (.cells #[.int .i64 0] 3)) := ((HBA.out.alloc HBA.out.size _).alloc (by have := HBA.out.size; simp; omega) _).alloc (by have := HBA.out.size; simp; omega) _
    have d0' := (d0.alloc (.cells #[.string ⟨#[43]⟩] 9)).alloc (.cells #[.int .i64 0] 3)
    have d1' := d1.alloc (.cells #[.int .i64 0] 3)
    have hszB : (((wA.alloc (.cells #[.string s] 9)).alloc (.cells #[.string ⟨#[43]⟩] 9)).alloc (.cells #[.int .i64 0] 3)).heap.size = w.heap.size + 6 := by simp; omega
    generalize (((wA.alloc (.cells #[.string s] 9)).alloc (.cells #[.string ⟨#[43]⟩] 9)).alloc (.cells #[.int .i64 0] 3)) = wB at *
    have e2' : Boxed wB (w.heap.size + 2) 25 (.int .u64 ((accP (lsOf ([] : List (Pc s.size))) : Nat) : Int)) := by
      rw [show lsOf ([] : List (Pc s.size)) = [] from rfl, acc_nil]; exact e2
    have hsq := split_seq 2 (by decide) (w.heap.size + 3) s (by omega) wB d0' d1' d2
    refine range_store (α := Pc s.size) (encs := fun x : Pc s.size => #[.string x.val]) (Kp := Keep3 (w.heap.size + 3)) (S := fun ys => lsOf ys = spl s.data.toList) (Sp := fun pre => lsOf pre <+: spl s.data.toList) (N := (spl s.data.toList).length) (B := w.heap.size + 3) rfl (by decide) (gf := 136) (lb := #[.pointer (some ⟨w.heap.size + 3 + 1, 0, none⟩), .pointer (some ⟨w.heap.size + 3, 0, none⟩), .pointer (some ⟨w.heap.size + 3 + 2, 0, none⟩)]) rfl trivial (enters_of Tryz.func136 (by kernel_rfl) rfl)
      hsq (by omega) keep3_t (keep3_b (by omega)) (Below.refl _ _) (fun _ => rfl)
      (PInv (M := s.size) w.heap.size w) (POut (M := s.size) w.heap.size w) (pinv_own (M := s.size) w.heap.size _ w (Nat.le_refl _) (by omega)) (fun c => pout_own (M := s.size) w.heap.size _ w c (Nat.le_refl _) (by omega)) (pinv_store (M := s.size) w.heap.size (w.heap.size + 3) w (by omega)) ⟨⟨e0, e1, e2'⟩, hbB, by omega⟩ ?a1 ?assign ?body ?done ?stop
    case assign =>
      intro l x W K hK
      gi_wp2
      exact hK
    case body =>
      rintro l pre x W ⟨⟨b0, b1, b2⟩, hB, hsz6⟩ hlt
      have hE' := hE.below hB
      have cA := atoi_any x.val W (Nat.le_trans x.le hs) hE'
      clear d0 d1 d2 d0' d1' hsq e0 e1 e2 e2' hbB G0 G1 G2 HBA hlt
      gi_wp2
      refine ⟨trivial, (CallsIn.inRound l (callsIn_wide.2 cA)).mono ?_⟩
      rintro e W1 ⟨v, er, rfl, hae, hb1⟩
      have g0 := boxed_later b0 hb1
      have g1 := boxed_later b1 hb1
      have g2 := boxed_later b2 hb1
      have hB1 := hB.trans (hb1.mono hB.size)
      have cO := of_any (W1.alloc (.cells #[.int .i64 v] 3)) (some ⟨W1.heap.size, 0, none⟩) 1 1 [v] (fun i hi => by
        match i, hi with
        | 0, _ => exact ⟨W1.heap.size, 0, rfl, by simp, by rw [World.cell?_alloc_mark]; rfl⟩) rfl (by decide)
      have hs1 := hb1.size
      have hko := keeps_below hb1
      have hk3 : Keep3 (w.heap.size + 3) W W1 := keep3_below (by omega) hb1
      have hmem : x.val.data.toList ∈ lsOf (pre ++ [x]) := by rw [ls_snoc]; simp
      have q0 := (g0.alloc (.cells #[.int .i64 v] 3)); have q1 := (g1.alloc (.cells #[.int .i64 v] 3)); have q2 := (g2.alloc (.cells #[.int .i64 v] 3))
      have k0 := q0.cell; have k1 := q1.cell; have k2 := q2.cell
      have f0 := q0.frozen; have f1 := q1.frozen; have f2 := q2.frozen
      have kk1 := (q1.other (B' := w.heap.size) (by omega) (.int .u64 0)).cell
      have ff1 := (q1.other (B' := w.heap.size) (by omega) (.int .u64 0)).frozen
      have HG0 := Lib.hid g0; have HG1 := Lib.hid g1; have HG2 := Lib.hid g2
      clear b0 b1 b2 hB hE' cA q0 q1 q2 g0 g1 g2
      have LV : ∀ (a3 : Act) (_ : pieceV x.val.data.toList = none), Hid (ownPostK (Keep3 (w.heap.size + 3)) (PInv (M := s.size) w.heap.size w) (POut (M := s.size) w.heap.size w) (pre ++ [x]) W .ret a3 (((W1.alloc (.cells #[.int .i64 v] 3)).setCell ⟨w.heap.size, 0, none⟩ (.int .u64 0)).setCell ⟨w.heap.size + 1, 0, none⟩ (.int .i64 4))) := fun _ h =>
        ⟨((hko.trans (KeepsOthers.alloc _ _)).trans (KeepsOthers.setCell _ _ _)).trans (KeepsOthers.setCell _ _ _), pout_leave _ HG0.out HG1.out hB1 (Nat.le_refl _) ⟨_, hmem, h⟩⟩
      rcases hae with ⟨rfl, hok⟩ | ⟨⟨t, p, rfl⟩, hno⟩
      · by_cases hr : 0 ≤ v ∧ v ≤ 63
        · obtain ⟨c, rfl⟩ : ∃ c : Nat, v = c := ⟨v.toNat, by omega⟩
          have hc64 : c < 64 := by omega
          have hpc : pieceV x.val.data.toList = some c := by rw [piece_ok hok hr.1 hr.2]; rfl
          obtain ⟨r1, r2⟩ := of_one c hc64
          rw [r1, r2] at cO
          have hp2 : 2 ^ c < 18446744073709551616 := (Nat.pow_lt_pow_right (by decide : 1 < 2) hc64 : 2 ^ c < 2 ^ 64)
          have hor := u64_or_nat (accP (lsOf pre)) (2 ^ c) (acc_lt _) hp2
          have GO := Lib.hid fun z hz => pinv_next x c (.cells #[.int .i64 (c : Int)] 3) hpc hc64 HG0.out HG1.out HG2.out hB1 (Nat.le_refl _) (by omega) z hz
          have HOR := Lib.hid hor
          have KO : Hid (∀ z, KeepsOthers W ((W1.alloc (.cells #[.int .i64 (c : Int)] 3)).setCell ⟨w.heap.size + 2, 0, none⟩ z)) := fun z => (hko.trans (KeepsOthers.alloc _ _)).trans (KeepsOthers.setCell _ _ _)
          have K3 : Hid (∀ z, Keep3 (w.heap.size + 3) W ((W1.alloc (.cells #[.int .i64 (c : Int)] 3)).setCell ⟨w.heap.size + 2, 0, none⟩ z)) := fun z => keep3_t (keep3_t hk3 (keep3_below (by omega) ((Below.refl _ _).alloc (Nat.le_refl _) _))) (keep3_set (by omega) _)
          clear LV hok hr hpc r1 r2 hor HG0 HG1 HG2 hmem hko hk3 hp2
          gi_wp2
          refine ⟨trivial, (CallsIn.inRound l (callsIn_wide.2 cO)).mono ?_⟩
          rintro e w' ⟨rfl, rfl⟩
          clear cO
          gi_wp2
          exact ⟨KO.out _, K3.out _, GO.out _ HOR.out⟩
        · have hlv := fun a3 => LV a3 (piece_out hok (by omega))
          obtain ⟨r1, r2⟩ := of_bad [v] 0 (by simp) (by show v < 0 ∨ 63 < v; omega)
          rw [r1, r2] at cO
          clear LV hok hr r1 r2
          gi_wp2
          refine ⟨trivial, (CallsIn.inRound l (callsIn_wide.2 cO)).mono ?_⟩
          rintro e w' ⟨rfl, rfl⟩
          clear cO
          gi_wp2
          exact (hlv _).out
      · have hlv := fun a3 => LV a3 (piece_no hno)
        clear LV hno
        gi_wp2
        refine ⟨trivial, (CallsIn.inRound l (callsIn_wide.2 cO)).mono ?_⟩
        rintro e w' ⟨rfl, rfl⟩
        clear cO
        gi_wp2
        exact (hlv _).out
    case done =>
      rintro D ys W hD hS ⟨⟨b0, b1, b2⟩, hB, h6⟩ hK
      rw [hS] at b2
      have hT' := hT.below hB
      have cX := text_any_lb (accP (spl s.data.toList)) W (acc_lt _) hT'
      have hrd := Lib.hid (read_good_lb HS.out)
      have k2 := b2.cell
      clear d0 d1 d2 d0' d1' hsq e0 e1 e2 e2' hbB G0 G1 G2 HBA hS
      generalize accP (spl s.data.toList) = acc at *
      have HAC := Lib.hid b2
      have H0 := Lib.hid b0; have H1 := Lib.hid b1
      clear b0 b1 b2
      rcases hrd.out with ⟨hra, htx⟩ | ⟨hra, htx⟩
      · have e : (⟨(textN acc).toArray⟩ : ByteArray) = s := by rw [htx]
        rw [e] at cX
        have HR := Lib.hid hra
        clear hrd hra htx e
        gi_wp2
        refine ⟨trivial, (callsIn_wide.2 cX).mono ?_⟩
        rintro e W3 ⟨rfl, hb3⟩
        have g0 := boxed_later H0.out hb3; have g1 := boxed_later H1.out hb3; have g2 := boxed_later HAC.out hb3
        have hB3 := hB.trans (hb3.mono hB.size)
        have hK3 := (hb3.block D (Array.getElem?_eq_some_iff.1 hK).1).trans hK
        clear k2
        have k2 := g2.cell; have k0 := g0.cell; have k1 := g1.cell; have f0 := g0.frozen; have f1 := g1.frozen
        clear cX hb3 g2
        gi_wp2
        have q0 := (g0.set (.int .u64 (acc : Nat))).other (B' := w.heap.size + 1) (by omega) (.int .i64 0)
        have q1 := (g1.other (B' := w.heap.size) (by omega) (.int .u64 (acc : Nat))).set (.int .i64 0)
        have hk4 := ((KeepsOthers.setCell W3 ⟨w.heap.size, 0, none⟩ (.int .u64 (acc : Nat))).trans (KeepsOthers.setCell _ ⟨w.heap.size + 1, 0, none⟩ (.int .i64 0))).same D _ hK3 rfl
        have kc0 := cell_kept q0.cell (grownBy_putObj' _ D (.deferred none)) (fun r e => by cases e; exact ⟨_, hk4, rfl⟩)
        have kc1 := cell_kept q1.cell (grownBy_putObj' _ D (.deferred none)) (fun r e => by cases e; exact ⟨_, hk4, rfl⟩)
        have hbe := ((hB3.setCell (p := ⟨w.heap.size, 0, none⟩) (Nat.le_refl _) (.int .u64 (acc : Nat))).setCell (p := ⟨w.heap.size + 1, 0, none⟩) (by simp) (.int .i64 0)).trans (belowK_b (w := w) (Nat.le_refl _) _ D _ (.deferred none) (by omega) hk4 rfl rfl)
        refine ⟨by simp, .inl ⟨_, _, rfl, run_takeDeferred hk4, ?_⟩⟩
        refine ⟨.tuple #[.int .u64 (acc : Nat), .int .i64 0], ?_, acc, 0, rfl, HR.out, hbe⟩
        simp [results, Tryz.f63, go_sem, kc0, kc1]
      · have hne : (⟨(textN acc).toArray⟩ : ByteArray) ≠ s := by
          intro e; apply htx; rw [← e]
        generalize (⟨(textN acc).toArray⟩ : ByteArray) = tx at *
        have hne2 : ¬ tx.toList = s.toList := by
          rw [ByteArray.toList_eq, ByteArray.toList_eq]
          intro e; apply hne
          cases tx with
          | mk d => cases s with
            | mk d' => congr 1; apply Array.toList_inj.1; exact e
        have hne3 : (tx.toList == s.toList) = false := beq_false_of_ne hne2
        have hne4 : (tx.toList != s.toList) = true := by rw [bne, hne3]; rfl
        clear hne hne2
        have HR := Lib.hid hra
        clear hrd hra htx
        gi_wp2
        refine ⟨trivial, (callsIn_wide.2 cX).mono ?_⟩
        rintro e W3 ⟨rfl, hb3⟩
        have g0 := boxed_later H0.out hb3; have g1 := boxed_later H1.out hb3
        have hB3 := hB.trans (hb3.mono hB.size)
        have hK3 := (hb3.block D (Array.getElem?_eq_some_iff.1 hK).1).trans hK
        clear k2
        have k0 := g0.cell; have k1 := g1.cell; have f0 := g0.frozen; have f1 := g1.frozen
        clear cX hb3
        gi_wp2
        have q0 := (g0.set (.int .u64 0)).other (B' := w.heap.size + 1) (by omega) (.int .i64 4)
        have q1 := (g1.other (B' := w.heap.size) (by omega) (.int .u64 0)).set (.int .i64 4)
        have hk4 := ((KeepsOthers.setCell W3 ⟨w.heap.size, 0, none⟩ (.int .u64 0)).trans (KeepsOthers.setCell _ ⟨w.heap.size + 1, 0, none⟩ (.int .i64 4))).same D _ hK3 rfl
        have kc0 := cell_kept q0.cell (grownBy_putObj' _ D (.deferred none)) (fun r e => by cases e; exact ⟨_, hk4, rfl⟩)
        have kc1 := cell_kept q1.cell (grownBy_putObj' _ D (.deferred none)) (fun r e => by cases e; exact ⟨_, hk4, rfl⟩)
        have hbe := ((hB3.setCell (p := ⟨w.heap.size, 0, none⟩) (Nat.le_refl _) (.int .u64 0)).setCell (p := ⟨w.heap.size + 1, 0, none⟩) (by simp) (.int .i64 4)).trans (belowK_b (w := w) (Nat.le_refl _) _ D _ (.deferred none) (by omega) hk4 rfl rfl)
        refine ⟨by simp, .inl ⟨_, _, rfl, run_takeDeferred hk4, ?_⟩⟩
        refine ⟨.tuple #[.int .u64 0, .int .i64 4], ?_, 0, 4, rfl, HR.out, hbe⟩
        simp [results, Tryz.f63, go_sem, kc0, kc1]
    case stop =>
      rintro D c pre W hD hp ⟨⟨b0, b1⟩, ⟨rfl, p, hpm, hpv⟩, hB⟩ hK
      have hrd := read_bad HS.out hp hpm hpv
      have kc0 := cell_kept b0.cell (grownBy_putObj' _ D (.deferred none)) (fun r e => by cases e; exact ⟨_, hK, rfl⟩)
      have kc1 := cell_kept b1.cell (grownBy_putObj' _ D (.deferred none)) (fun r e => by cases e; exact ⟨_, hK, rfl⟩)
      have hbe := hB.trans (belowK_b (w := w) (Nat.le_refl _) W D _ (.deferred none) (by omega) hK rfl rfl)
      clear d0 d1 d2 d0' d1' hsq e0 e1 e2 e2' hbB G0 G1 G2 HBA hp hpm hpv b0 b1
      gi_wp2
      refine ⟨by simp, .inl ⟨_, _, rfl, run_takeDeferred hK, ?_⟩⟩
      refine ⟨.tuple #[.int .u64 0, .int .i64 4], ?_, 0, 4, rfl, hrd, hbe⟩
      simp [results, Tryz.f63, go_sem, kc0, kc1]
end Go.Proofs.YtfibbjnkicjbpaaGreatDoor
