/- lines.Joined, by its contract. -/
import Derived.Test.YtbhgeikijifbgaaDoorBuilder
namespace Go.Proofs.YtbhgeikijifbgaaDoor
open Go.RowKit

/-- Each text, with 0A behind it. -/
def joinL (ls : List (List UInt8)) : List UInt8 := (ls.map (· ++ [10])).flatten
theorem join_snoc (ls : List (List UInt8)) (l : List UInt8) : joinL (ls ++ [l]) = joinL ls ++ (l ++ [10]) := by simp [joinL]
theorem join_len : ∀ ls : List (List UInt8), (joinL ls).length = (ls.map (fun l => l.length + 1)).sum
  | [] => rfl
  | l :: ls => by
    have ih := join_len ls
    unfold joinL at ih ⊢
    simp only [List.map_cons, List.flatten_cons, List.length_append, List.sum_cons, List.length_singleton, ih]
/-- What is written when k texts are. -/
def joinTo (ss : List ByteArray) (k : Nat) : List UInt8 := joinL ((listsOf ss).take k)
theorem joinTo_step (ss : List ByteArray) (k : Nat) (h : k < ss.length) : joinTo ss k ++ ss[k].data.toList ++ [10] = joinTo ss (k + 1) := by
  unfold joinTo
  rw [List.take_succ_eq_append_getElem (by unfold listsOf; simpa using h), join_snoc]
  simp [listsOf]
theorem joinTo_len (ss : List ByteArray) (k : Nat) : (joinTo ss k).length ≤ sizeOf' ss := by
  unfold joinTo
  rw [join_len]
  exact sum_take _ _
theorem joinTo_all (ss : List ByteArray) : joinTo ss ss.length = joinL (listsOf ss) := by
  unfold joinTo; rw [List.take_of_length_le (by unfold listsOf; simp)]
/-- How many bytes k texts have. -/
def bytesTo (ss : List ByteArray) (k : Nat) : Nat := ((ss.take k).map (·.size)).sum
theorem bytesTo_step (ss : List ByteArray) (k : Nat) (h : k < ss.length) : bytesTo ss (k + 1) = bytesTo ss k + ss[k].size := by
  unfold bytesTo
  rw [List.take_succ_eq_append_getElem h, List.map_append, List.sum_append]; simp
theorem bytes_le : ∀ (ss : List ByteArray), ss.length + (ss.map (·.size)).sum = sizeOf' ss
  | [] => rfl
  | s :: ss => by
    have ih := bytes_le ss
    unfold sizeOf' listsOf at ih ⊢
    simp only [List.map_cons, List.sum_cons, List.length_cons, len_size]
    omega
theorem bytesTo_le (ss : List ByteArray) (k : Nat) : ss.length + bytesTo ss k ≤ sizeOf' ss := by
  rw [← bytes_le]
  unfold bytesTo
  have : (ss.map (·.size)).sum = ((ss.take k).map (·.size)).sum + ((ss.drop k).map (·.size)).sum := by
    conv => lhs; rw [← List.take_append_drop k ss]
    rw [List.map_append, List.sum_append]
  omega

set_option maxRecDepth 100000 in
set_option maxHeartbeats 4000000 in
theorem joined_any (w : World) (p : Option Addr) (c : Nat) (ss : List ByteArray) (hr : StrRow w p ss) (hz : sizeOf' ss ≤ 1048576) :
    Calls Tryd.prog 24 #[.slice p ss.length c] w fun e w' => e = .returned (.string ⟨(joinL (listsOf ss)).toArray⟩) ∧ Below w.heap.size w w' := by
  have hlen := bytesTo_le ss 0
  obtain ⟨n, hn⟩ : ∃ n, ss.length = n := ⟨_, rfl⟩
  rw [hn]
  have HN := Lib.hid hn
  have hn1 : n ≤ 1048576 := by omega
  have hfin : Hid (joinL (listsOf ss) = joinTo ss n) := by rw [← hn, joinTo_all]; exact (rfl : _ = _)
  generalize joinL (listsOf ss) = fin at *
  clear hn hlen
  go_enter Tryd.func24, Tryd.ntmps24
  go_wp2_with fail
  go_loop [3, 13] (fun sz i => ∃ k : Nat, k ≤ n ∧ i = .int .i64 k ∧ sz = .int .i64 ((n + bytesTo ss k : Nat) : Int)) (fun _ i => n - (intOf i).toNat)
  case atStart => exact ⟨0, by omega, rfl, by simp [bytesTo]⟩
  case round =>
    obtain ⟨k, hk, rfl, rfl⟩ := hrel
    by_cases hlt : k < n
    · have hlt' : k < ss.length := by rw [HN.out]; exact hlt
      obtain ⟨b, off, rfl, hcell⟩ := hr.at k hlt'
      have hc := hcell w (Below.refl _ _)
      have hb1 := bytesTo_le ss (k + 1)
      rw [bytesTo_step ss k hlt', HN.out] at hb1
      have hst := Lib.hid (bytesTo_step ss k hlt')
      generalize ss[k] = s at *
      generalize bytesTo ss k = m at *
      clear hcell
      go_wp2_with fail
      go_round
      case rel => exact ⟨k + 1, by omega, by go_num, by rw [hst.out]; go_num⟩
      case measure => simp [intOf]; omega
    · obtain rfl : n = k := by omega
      have hb1 := bytesTo_le ss n
      rw [HN.out] at hb1
      generalize bytesTo ss n = m at *
      have hG := Tryd.Builder_Grow_fresh w.heap.size w.heap.size (n + m) (w.alloc (.cells #[.pointer none, .slice none 0 0] 57)) (Nat.le_refl _) (heap_alloc_new w _) (by simp) (by omega)
      go_wp2_with fail
      refine hG.mono ?_
      rintro e w1 ⟨rfl, hB1, hb1'⟩
      have hbw : Below w.heap.size w w1 := ((Below.refl _ w).alloc (Nat.le_refl _) _).trans hb1'
      have hB : Bld w.heap.size w.heap.size [] w1 := hB1
      clear hB1 hb1' hG
      have HB := Lib.hid hB
      clear hB
      generalize hbs : w.heap.size = B at *
      go_wp2_with fail
      go_loopw [26] (fun i wr => ∃ k : Nat, k ≤ n ∧ i = .int .i64 k ∧ Bld B B (joinTo ss k) wr ∧ Below B w wr) (fun i _ => n - (intOf i).toNat)
      case atStart => exact ⟨0, by omega, rfl, HB.out, hbw⟩
      case round =>
        clear HB hbw
        obtain ⟨k, hk, rfl, hBk, hbk⟩ := hrel
        by_cases hlt : k < n
        · have hlt' : k < ss.length := by rw [HN.out]; exact hlt
          obtain ⟨b, off, rfl, hcell⟩ := hr.at k hlt'
          have hc := hcell wr (by rw [hbs]; exact hbk)
          have hs1 := size_mem ss k hlt'
          have hj := joinTo_len ss k
          have hst := Lib.hid (joinTo_step ss k hlt')
          have hsz : B ≤ wr.heap.size := by rw [← hbs]; have := hbk.size; omega
          generalize ss[k] = s at *
          generalize joinTo ss k = l at *
          have cS := writeString_any B B l s wr hBk (by omega) hsz
          clear hcell hBk
          go_wp2_with fail
          refine cS.mono ?_
          rintro e w2 ⟨rfl, hB2, hb2⟩
          have hsz2 : B ≤ w2.heap.size := Nat.le_trans hsz hb2.size
          have hl2 : (l ++ s.data.toList).length + 1 ≤ 140737488355328 := by rw [List.length_append, len_size]; omega
          have cB := writeByte_any B B (l ++ s.data.toList) 10 w2 hB2 hl2 hsz2
          rw [hst.out] at cB
          clear cS hB2
          go_wp2_with fail
          refine cB.mono ?_
          rintro e w3 ⟨rfl, hB3, hb3⟩
          have HB3 := Lib.hid hB3
          have hb4 := (hbk.trans hb2).trans hb3
          clear cB hB3
          go_wp2_with fail
          go_roundw
          case rel => exact ⟨k + 1, by omega, by go_num, HB3.out, hb4⟩
          case measure => simp [intOf]; omega
        · obtain rfl : n = k := by omega
          have hsz : B ≤ wr.heap.size := by rw [← hbs]; have := hbk.size; omega
          have cS := Tryd.Builder_String_any B B (joinTo ss n) wr (.inr hBk) hsz
          rw [← hfin.out] at cS
          clear hBk
          go_wp2_with fail
          refine cS.mono ?_
          rintro e w2 ⟨rfl, hb2⟩
          have hb4 := hbk.trans hb2
          go_wp2_with fail
          go_ret
          exact ⟨rfl, by rw [hbs]; exact hb4⟩
end Go.Proofs.YtbhgeikijifbgaaDoor
