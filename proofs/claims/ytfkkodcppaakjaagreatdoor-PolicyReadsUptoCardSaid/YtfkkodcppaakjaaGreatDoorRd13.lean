/- Texts of the proof, merged: Builder, Joined. -/
import Derived.Test.YtfkkodcppaakjaaGreatDoorRd8
import Derived.Test.YtfkkodcppaakjaaGreatDoorRd11
import Derived.Test.YtfkkodcppaakjaaGreatDoorRd12
import Derived.Lib.Builder
import Derived.Lib.AppendStr
import Derived.Lib.UnsafeStr
import Derived.Lib.Walk
/- strings.Builder's writers at a builder that has grown already, and lines.Joined, each by its contract. (The shelf's own contracts of the writers are not laid over this copyCheck.) -/
namespace Go.Proofs.YtfkkodcppaakjaaGreatDoor
open Go.RowKit

theorem builderSize : (Tryz.prog.info? 156).map (·.size) = some 2 := by kernel_rfl
theorem byteInfo : (Tryz.prog.info? 5).map (fun i => (i.zero, i.size, i.bytes)) = some (some (.int .u8 0), 1, 1) := by kernel_rfl
/-- A builder at block b that has been used, of what the call itself has made from B on. -/
def Bld (B b : Nat) (l : List UInt8) (w : World) : Prop := Lib.BuilderAt 156 5 B b (.pointer (some ⟨b, 0, none⟩)) (Lib.byteCells l) w

set_option maxHeartbeats 1000000 in
set_option maxRecDepth 100000 in
theorem copyCheck_used (b : Nat) (w : World) (h0 : w.cell? ⟨b, 0, none⟩ = some (.pointer (some ⟨b, 0, none⟩))) :
    Calls Tryz.prog 152 #[.pointer (some ⟨b, 0, none⟩)] w fun e w' => e = .returned (.tuple #[]) ∧ w = w' := by
  obtain ⟨j, hj, _⟩ := Option.map_eq_some_iff.1 builderSize
  go_enter Tryz.func152, Tryz.ntmps152
  go_wp2
  rw [Lib.run_neq_ptr_same w _ Tryz.underlying154 hj]
  go_wp2
  go_end0
  exact ⟨rfl, rfl⟩

set_option maxHeartbeats 2000000 in
set_option maxRecDepth 100000 in
theorem writeString_any (B b : Nat) (l : List UInt8) (s : ByteArray) (w : World) (h : Bld B b l w) (hlen : l.length + s.size ≤ 140737488355328) (hBw : B ≤ w.heap.size) :
    Calls Tryz.prog 111 #[.pointer (some ⟨b, 0, none⟩), .string s] w fun e w' => e = .returned (.tuple #[.int .i64 s.size, .nilIface]) ∧ Bld B b (l ++ s.data.toList) w' ∧ Below B w w' := by
  obtain ⟨i0, hi, hz0, hz1, hz2⟩ := info_parts byteInfo
  obtain ⟨hB, v, hbk, hown, hne⟩ := h
  rw [Lib.byteCells_length] at hown
  have c0 : w.cell? ⟨b, 0, none⟩ = some (.pointer (some ⟨b, 0, none⟩)) := by rw [Lib.cell_of_heap hbk]; rfl
  have c1 : w.cell? ⟨b, 1, none⟩ = some v := by rw [Lib.cell_of_heap hbk]; rfl
  go_enter Tryz.func111, Tryz.ntmps111
  go_wp2_with (go_at_call 152; refine (copyCheck_used b _ c0).mono ?_)
  rintro e w' ⟨rfl, rfl⟩
  go_wp2_with (at_builtin; refine Lib.wpList_append_own_string _ rfl _ _ 55 9 rfl B 5 i0 Tryz.underlying55 Tryz.underlying9 hi hz0 hz1 hz2 _ _ _ rfl hown s rfl ?c3 ?c4 ?c5 ?_)
  case c3 => unfold maxLen; omega
  case c4 => omega
  case c5 => omega
  intro v' w2 hown' hgrow _
  have hlt : b < w.heap.size := by
    rcases Nat.lt_or_ge b w.heap.size with h' | h'
    · exact h'
    · simp [Array.getElem?_eq_none h'] at hbk
  have hb2 : w2.heap[b]? = some (.cells #[.pointer (some ⟨b, 0, none⟩), v] 156 (0, 0)) := by
    rw [hgrow.block b hlt (fun e => hne e.symm)]
    exact hbk
  have d0 : w2.cell? ⟨b, 0, none⟩ = some (.pointer (some ⟨b, 0, none⟩)) := by rw [Lib.cell_of_heap hb2]; rfl
  have d1 : w2.cell? ⟨b, 1, none⟩ = some v := by rw [Lib.cell_of_heap hb2]; rfl
  have f1 : w2.frozen? ⟨b, 1, none⟩ = false := Lib.frozen_of_heap hb2 1
  obtain ⟨ao, n', cap, rfl⟩ : ∃ ao n' cap, v' = .slice ao n' cap := by
    rcases hown'.2 with ⟨hv, _⟩ | ⟨g, cap, cur, hv, _⟩
    · exact ⟨_, _, _, hv⟩
    · exact ⟨_, _, _, hv⟩
  go_wp2
  go_ret2
  refine ⟨rfl, ?_, ?_⟩
  · refine Lib.BuilderAt.put (T := 156) (e := 5) hB hb2 (bs' := Lib.byteCells (l ++ s.data.toList)) ?_ (by decide)
    rw [Lib.byteCells_length, List.length_append, len_size, Lib.byteCells_append, ← Lib.strCells_eq]
    exact hown'
  · exact ((Below.refl B w).grown hgrow (by omega) (fun k hk => (hown.lt k hk).1)).setCell (p := ⟨b, 1, none⟩) hB _

set_option maxHeartbeats 2000000 in
set_option maxRecDepth 100000 in
theorem writeByte_any (B b : Nat) (l : List UInt8) (c : UInt8) (w : World) (h : Bld B b l w) (hlen : l.length + 1 ≤ 140737488355328) (hBw : B ≤ w.heap.size) :
    Calls Tryz.prog 112 #[.pointer (some ⟨b, 0, none⟩), .int .u8 c.toNat] w fun e w' => e = .returned .nilIface ∧ Bld B b (l ++ [c]) w' ∧ Below B w w' := by
  obtain ⟨i0, hi, hz0, hz1, hz2⟩ := info_parts byteInfo
  obtain ⟨hB, v, hbk, hown, hne⟩ := h
  rw [Lib.byteCells_length] at hown
  have c0 : w.cell? ⟨b, 0, none⟩ = some (.pointer (some ⟨b, 0, none⟩)) := by rw [Lib.cell_of_heap hbk]; rfl
  have c1 : w.cell? ⟨b, 1, none⟩ = some v := by rw [Lib.cell_of_heap hbk]; rfl
  go_enter Tryz.func112, Tryz.ntmps112
  go_wp2_with (go_at_call 152; refine (copyCheck_used b _ c0).mono ?_)
  rintro e w' ⟨rfl, rfl⟩
  go_wp2_with (at_builtin; refine wpList_append_own _ rfl _ _ 55 rfl B 5 i0 (.int .u8 0) 1 1 Tryz.underlying55 hi hz0 hz1 hz2 rfl (by decide) _ _ _ rfl (hown.alloc _) ⟨w.heap.size, 0, none⟩ 1 1 [.int .u8 (c.toNat : Int)] rfl rfl ?c1 ?c2 ?c3 ?c4 ?c5 ?_)
  case c1 =>
    intro j u hj
    match j, hj with
    | 0, hj => simp at hj; subst hj; simp [Addr.add]
  case c2 => intro u hu; simp at hu; subst hu; rfl
  case c3 => unfold maxLen; omega
  case c4 => omega
  case c5 => simp; omega
  intro v' w2 hown' hgrow _
  have hlt : b < w.heap.size := by
    rcases Nat.lt_or_ge b w.heap.size with h' | h'
    · exact h'
    · simp [Array.getElem?_eq_none h'] at hbk
  have hb2 : w2.heap[b]? = some (.cells #[.pointer (some ⟨b, 0, none⟩), v] 156 (0, 0)) := by
    rw [hgrow.block b (by simp; omega) (fun e => hne e.symm), Lib.alloc_old w _ b hlt]
    exact hbk
  have d0 : w2.cell? ⟨b, 0, none⟩ = some (.pointer (some ⟨b, 0, none⟩)) := by rw [Lib.cell_of_heap hb2]; rfl
  have d1 : w2.cell? ⟨b, 1, none⟩ = some v := by rw [Lib.cell_of_heap hb2]; rfl
  have f1 : w2.frozen? ⟨b, 1, none⟩ = false := Lib.frozen_of_heap hb2 1
  obtain ⟨g, cap, rfl⟩ : ∃ g cap, v' = .slice (some ⟨g, 0, none⟩) (l.length + 1) cap := by
    rcases hown'.2 with ⟨_, h0⟩ | ⟨g, cap, cur, hv, _⟩
    · omega
    · exact ⟨g, cap, hv⟩
  go_wp2
  go_ret
  refine ⟨rfl, ?_, ?_⟩
  · refine Lib.BuilderAt.put (T := 156) (e := 5) hB hb2 (bs' := Lib.byteCells (l ++ [c])) ?_ (by decide)
    rw [Lib.byteCells_length, List.length_append, List.length_singleton, Lib.byteCells_append]
    exact hown'
  · exact (((Below.refl B w).alloc hBw _).grown hgrow (by simp; omega) (fun k hk => (hown.lt k hk).1)).setCell (p := ⟨b, 1, none⟩) hB _
end Go.Proofs.YtfkkodcppaakjaaGreatDoor
/- lines.Joined, by its contract. -/
namespace Go.Proofs.YtfkkodcppaakjaaGreatDoor
open Go.RowKit

/-- Each text, with 0A behind it. -/
def joinL (ls : List (List UInt8)) : List UInt8 := (ls.map (· ++ [10])).flatten
theorem join_snoc (ls : List (List UInt8)) (l : List UInt8) : joinL (ls ++ [l]) = joinL ls ++ (l ++ [10]) := by simp [joinL]
theorem join_len : ∀ ls : List (List UInt8), (joinL ls).length = (ls.map (fun l => l.length + 1)).sum
  | [] => rfl
  | l :: ls => by
    have ih := join_len ls
    unfold joinL at ih ⊢
    simp only [List.map_cons, List.flatten_cons, List.length_append, List.sum_cons, List.length_singleton, ih]
/-- What is written when k texts are. -/
def joinTo (ss : List ByteArray) (k : Nat) : List UInt8 := joinL ((listsOf ss).take k)
theorem joinTo_step (ss : List ByteArray) (k : Nat) (h : k < ss.length) : joinTo ss k ++ ss[k].data.toList ++ [10] = joinTo ss (k + 1) := by
  unfold joinTo
  rw [List.take_succ_eq_append_getElem (by unfold listsOf; simpa using h), join_snoc]
  simp [listsOf]
theorem joinTo_len (ss : List ByteArray) (k : Nat) : (joinTo ss k).length ≤ sizeOf' ss := by
  unfold joinTo
  rw [join_len]
  exact sum_take _ _
theorem joinTo_all (ss : List ByteArray) : joinTo ss ss.length = joinL (listsOf ss) := by
  unfold joinTo; rw [List.take_of_length_le (by unfold listsOf; simp)]
/-- How many bytes k texts have. -/
def bytesTo (ss : List ByteArray) (k : Nat) : Nat := ((ss.take k).map (·.size)).sum
theorem bytesTo_step (ss : List ByteArray) (k : Nat) (h : k < ss.length) : bytesTo ss (k + 1) = bytesTo ss k + ss[k].size := by
  unfold bytesTo
  rw [List.take_succ_eq_append_getElem h, List.map_append, List.sum_append]; simp
theorem bytes_le : ∀ (ss : List ByteArray), ss.length + (ss.map (·.size)).sum = sizeOf' ss
  | [] => rfl
  | s :: ss => by
    have ih := bytes_le ss
    unfold sizeOf' listsOf at ih ⊢
    simp only [List.map_cons, List.sum_cons, List.length_cons, len_size]
    omega
theorem bytesTo_le (ss : List ByteArray) (k : Nat) : ss.length + bytesTo ss k ≤ sizeOf' ss := by
  rw [← bytes_le]
  unfold bytesTo
  have : (ss.map (·.size)).sum = ((ss.take k).map (·.size)).sum + ((ss.drop k).map (·.size)).sum := by
    conv => lhs; rw [← List.take_append_drop k ss]
    rw [List.map_append, List.sum_append]
  omega

set_option maxRecDepth 100000 in
set_option maxHeartbeats 4000000 in
theorem joined_any (w : World) (p : Option Addr) (c : Nat) (ss : List ByteArray) (hr : StrRow w p ss) (hz : sizeOf' ss ≤ 1048576) :
    Calls Tryz.prog 66 #[.slice p ss.length c] w fun e w' => e = .returned (.string ⟨(joinL (listsOf ss)).toArray⟩) ∧ Below w.heap.size w w' := by
  have hlen := bytesTo_le ss 0
  obtain ⟨n, hn⟩ : ∃ n, ss.length = n := ⟨_, rfl⟩
  rw [hn]
  have HN := Lib.hid hn
  have hn1 : n ≤ 1048576 := by omega
  have hfin : Hid (joinL (listsOf ss) = joinTo ss n) := by rw [← hn, joinTo_all]; exact (rfl : _ = _)
  generalize joinL (listsOf ss) = fin at *
  clear hn hlen
  go_enter Tryz.func66, Tryz.ntmps66
  go_wp2_with fail
  go_loop [3, 13] (fun sz i => ∃ k : Nat, k ≤ n ∧ i = .int .i64 k ∧ sz = .int .i64 ((n + bytesTo ss k : Nat) : Int)) (fun _ i => n - (intOf i).toNat)
  case atStart => exact ⟨0, by omega, rfl, by simp [bytesTo]⟩
  case round =>
    obtain ⟨k, hk, rfl, rfl⟩ := hrel
    by_cases hlt : k < n
    · have hlt' : k < ss.length := by rw [HN.out]; exact hlt
      obtain ⟨b, off, rfl, hcell⟩ := hr.at k hlt'
      have hc := hcell w (Below.refl _ _)
      have hb1 := bytesTo_le ss (k + 1)
      rw [bytesTo_step ss k hlt', HN.out] at hb1
      have hst := Lib.hid (bytesTo_step ss k hlt')
      generalize ss[k] = s at *
      generalize bytesTo ss k = m at *
      clear hcell
      go_wp2_with fail
      go_round
      case rel => exact ⟨k + 1, by omega, by go_num, by rw [hst.out]; go_num⟩
      case measure => simp [intOf]; omega
    · obtain rfl : n = k := by omega
      have hb1 := bytesTo_le ss n
      rw [HN.out] at hb1
      generalize bytesTo ss n = m at *
      have hG := Tryz.Builder_Grow_fresh w.heap.size w.heap.size (n + m) (w.alloc (.cells #[.pointer none, .slice none 0 0] 156)) (Nat.le_refl _) (heap_alloc_new w _) (by simp) (by omega)
      go_wp2_with fail
      refine hG.mono ?_
      rintro e w1 ⟨rfl, hB1, hb1'⟩
      have hbw : Below w.heap.size w w1 := ((Below.refl _ w).alloc (Nat.le_refl _) _).trans hb1'
      have hB : Bld w.heap.size w.heap.size [] w1 := hB1
      clear hB1 hb1' hG
      have HB := Lib.hid hB
      clear hB
      generalize hbs : w.heap.size = B at *
      go_wp2_with fail
      go_loopw [26] (fun i wr => ∃ k : Nat, k ≤ n ∧ i = .int .i64 k ∧ Bld B B (joinTo ss k) wr ∧ Below B w wr) (fun i _ => n - (intOf i).toNat)
      case atStart => exact ⟨0, by omega, rfl, HB.out, hbw⟩
      case round =>
        clear HB hbw
        obtain ⟨k, hk, rfl, hBk, hbk⟩ := hrel
        by_cases hlt : k < n
        · have hlt' : k < ss.length := by rw [HN.out]; exact hlt
          obtain ⟨b, off, rfl, hcell⟩ := hr.at k hlt'
          have hc := hcell wr (by rw [hbs]; exact hbk)
          have hs1 := size_mem ss k hlt'
          have hj := joinTo_len ss k
          have hst := Lib.hid (joinTo_step ss k hlt')
          have hsz : B ≤ wr.heap.size := by rw [← hbs]; have := hbk.size; omega
          generalize ss[k] = s at *
          generalize joinTo ss k = l at *
          have cS := writeString_any B B l s wr hBk (by omega) hsz
          clear hcell hBk
          go_wp2_with fail
          refine cS.mono ?_
          rintro e w2 ⟨rfl, hB2, hb2⟩
          have hsz2 : B ≤ w2.heap.size := Nat.le_trans hsz hb2.size
          have hl2 : (l ++ s.data.toList).length + 1 ≤ 140737488355328 := by rw [List.length_append, len_size]; omega
          have cB := writeByte_any B B (l ++ s.data.toList) 10 w2 hB2 hl2 hsz2
          rw [hst.out] at cB
          clear cS hB2
          go_wp2_with fail
          refine cB.mono ?_
          rintro e w3 ⟨rfl, hB3, hb3⟩
          have HB3 := Lib.hid hB3
          have hb4 := (hbk.trans hb2).trans hb3
          clear cB hB3
          go_wp2_with fail
          go_roundw
          case rel => exact ⟨k + 1, by omega, by go_num, HB3.out, hb4⟩
          case measure => simp [intOf]; omega
        · obtain rfl : n = k := by omega
          have hsz : B ≤ wr.heap.size := by rw [← hbs]; have := hbk.size; omega
          have cS := Tryz.Builder_String_any B B (joinTo ss n) wr (.inr hBk) hsz
          rw [← hfin.out] at cS
          clear hBk
          go_wp2_with fail
          refine cS.mono ?_
          rintro e w2 ⟨rfl, hb2⟩
          have hb4 := hbk.trans hb2
          go_wp2_with fail
          go_ret
          exact ⟨rfl, by rw [hbs]; exact hb4⟩
end Go.Proofs.YtfkkodcppaakjaaGreatDoor
