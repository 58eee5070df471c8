/- The document's digits and Text, by contract. -/
import Derived.Test.YtbcfmckhgjcakaaDoorLbList
import Derived.Test.YtbcfmckhgjcakaaDoorLbTextP
import Derived.Test.YtbcfmckhgjcakaaDoorLbSays
import Derived.Test.YtbcfmckhgjcakaaDoorNumCopy
namespace Go.Proofs.YtbcfmckhgjcakaaDoor
open Go.RowKit

theorem digit_nat (d : Nat) (h : d < 10) : (UInt8.ofNat (48 + d)).toNat = 48 + d := by
  rw [UInt8.toNat_ofNat']; exact Nat.mod_eq_of_lt (by omega)
theorem digit1 (w : World) (d : Nat) (hd : d < 10) :
    (convert 85 9 (.slice (some ⟨w.heap.size, 0, none⟩) 1 1)).run Tryd.prog (w.alloc (.cells #[.int .u8 (48 + (d : Int))] 5)) = .ok (.string ⟨#[UInt8.ofNat (48 + d)]⟩) (w.alloc (.cells #[.int .u8 (48 + (d : Int))] 5)) := by
  refine run_convert_bytes_back (P := Tryd.prog) _ 85 9 5 ⟨w.heap.size, 0, none⟩ 1 [UInt8.ofNat (48 + d)] Tryd.underlying85 Tryd.underlying5 Tryd.underlying9 (fun j hj => ?_)
  obtain rfl : j = 0 := by simpa using hj
  simp only [List.getElem_cons_zero, digit_nat d hd]
  rw [show (⟨w.heap.size, 0, none⟩ : Addr).add 0 = ⟨w.heap.size, 0, none⟩ from rfl, World.cell?_alloc_mark]
  simp
theorem digit2 (w : World) (c d : Nat) (hc : c < 10) (hd : d < 10) :
    (convert 85 9 (.slice (some ⟨w.heap.size, 0, none⟩) 2 2)).run Tryd.prog (w.alloc (.cells #[.int .u8 (48 + (c : Int)), .int .u8 (48 + (d : Int))] 5)) = .ok (.string ⟨#[UInt8.ofNat (48 + c), UInt8.ofNat (48 + d)]⟩) (w.alloc (.cells #[.int .u8 (48 + (c : Int)), .int .u8 (48 + (d : Int))] 5)) := by
  refine run_convert_bytes_back (P := Tryd.prog) _ 85 9 5 ⟨w.heap.size, 0, none⟩ 2 [UInt8.ofNat (48 + c), UInt8.ofNat (48 + d)] Tryd.underlying85 Tryd.underlying5 Tryd.underlying9 (fun j hj => ?_)
  match j, hj with
  | 0, _ =>
    simp only [List.getElem_cons_zero, digit_nat c hc]
    rw [show (⟨w.heap.size, 0, none⟩ : Addr).add 0 = ⟨w.heap.size, 0, none⟩ from rfl, World.cell?_alloc_mark]
    simp
  | 1, _ =>
    simp only [List.getElem_cons_succ, List.getElem_cons_zero, digit_nat d hd]
    rw [addr_plus, World.cell?_alloc_mark]
    simp
set_option maxRecDepth 100000 in
set_option maxHeartbeats 1000000 in
theorem refDigits_any (n : Nat) (w : World) (hn : n < 100) :
    Calls Tryd.prog 42 #[.int .i64 n] w fun e w' => e = .returned (.string (digsB n)) ∧ Below w.heap.size w w' := by
  have hd := dec_lt n hn
  by_cases h : n < 10
  · rw [if_pos h] at hd
    have hcv := digit1 w n h
    have hlt : (n : Int) < 10 := by omega
    generalize UInt8.ofNat (48 + n) = c1 at *
    have HD := Lib.hid hd
    clear hd
    go_enter Tryd.func42, Tryd.ntmps42
    go_wp2
    go_ret
    exact ⟨by unfold digsB; rw [HD.out]; rfl, (Below.refl _ _).alloc (Nat.le_refl _) _⟩
  · rw [if_neg h] at hd
    have hcv := digit2 w (n / 10) (n % 10) (by omega) (by omega)
    rw [show ((n / 10 : Nat) : Int) = (n : Int) / 10 by omega, show ((n % 10 : Nat) : Int) = (n : Int) % 10 by omega] at hcv
    have hlt : ¬ (n : Int) < 10 := by omega
    generalize UInt8.ofNat (48 + n / 10) = c1 at *
    generalize UInt8.ofNat (48 + n % 10) = c2 at *
    have HD := Lib.hid hd
    clear hd
    go_enter Tryd.func42, Tryd.ntmps42
    go_wp2
    go_ret
    exact ⟨by unfold digsB; rw [HD.out]; rfl, (Below.refl _ _).alloc (Nat.le_refl _) _⟩

theorem str_app (x y : List UInt8) : (⟨x.toArray⟩ ++ ⟨y.toArray⟩ : ByteArray) = ⟨(x ++ y).toArray⟩ :=
  WideShapes.bytes_inj (by rw [Joins.data_append])
/-- What is written when k of them are. -/
def jn (l : List Nat) : List UInt8 := Lib.join (l.map Lib.decDigits) [43]
theorem jn_nil : jn [] = [] := rfl
theorem jn_snoc (l : List Nat) (x : Nat) : jn (l ++ [x]) = if l = [] then Lib.decDigits x else jn l ++ [43] ++ Lib.decDigits x := by
  unfold jn
  rw [List.map_append, List.map_singleton, join_snoc]
  by_cases h : l = []
  · rw [if_pos h, if_pos (by rw [h]; rfl)]
  · rw [if_neg h, if_neg (by simpa using h)]

set_option maxRecDepth 100000 in
set_option maxHeartbeats 2000000 in
theorem refText_any (a : Nat) (w : World) (ha : a < 18446744073709551616) :
    Calls Tryd.prog 26 #[.int .u64 a] w fun e w' => e = .returned (.string ⟨(textN a).toArray⟩) ∧ Below w.heap.size w w' := by
  have cL := refList_any a w ha
  have hmem := Lib.hid (list_below a)
  have hll := listTo_len a 64
  by_cases h0 : a = 0
  · subst h0
    rw [list_zero] at cL
    go_enter Tryd.func26, Tryd.ntmps26
    go_wp2_with fail
    refine cL.mono ?_
    rintro e w1 ⟨p, c, rfl, hb1, _⟩
    go_wp2
    go_ret
    exact ⟨rfl, hb1⟩
  · obtain ⟨n, hn⟩ := list_nonzero a h0 ha
    have HT : Hid (textN a = jn (listTo a 64)) := by show textN a = _; unfold textN jn; rw [if_neg h0]
    generalize textN a = tx at *
    generalize listTo a 64 = l at *
    have hnz : ((l.length : Int) == 0) = false := beq_false_of_ne (by omega)
    have HN := Lib.hid hn
    clear hn
    go_enter Tryd.func26, Tryd.ntmps26
    go_wp2_with fail
    refine cL.mono ?_
    rintro e w1 ⟨p, c, rfl, hb1, ho1⟩
    have hrow := ints_row ho1
    have hB1 := hb1.size
    clear cL ho1
    go_wp2_with fail
    go_loopg [4, 5] l.length (fun g s i wr => ∃ k : Nat, k + g = l.length ∧ i = .int .i64 k ∧ Below w1.heap.size w1 wr ∧ s = .string ⟨(jn (l.take k)).toArray⟩)
    case atStart => exact ⟨0, by omega, rfl, Below.refl _ _, rfl⟩
    case round =>
      obtain ⟨k, hk, rfl, hbr, rfl⟩ := hrel
      by_cases hlt : k < l.length
      · obtain ⟨b1, o1, rfl, _, h1c⟩ := hrow.at k (by rw [List.length_map]; exact hlt)
        have g1 := h1c wr hbr
        rw [List.getElem_map] at g1
        have hsn : Hid (jn (l.take (k + 1)) = if l.take k = [] then Lib.decDigits l[k] else jn (l.take k) ++ [43] ++ Lib.decDigits l[k]) := by
          show jn (l.take (k + 1)) = _
          rw [List.take_succ_eq_append_getElem hlt, jn_snoc]
        have hi100 := hmem.out l[k] (List.getElem_mem hlt)
        have hjl := join_le (l.take k) (fun i hi => hmem.out i (List.mem_of_mem_take hi))
        have htk : (l.take k).length ≤ 64 := by rw [List.length_take]; omega
        have hjl2 : (jn (l.take k)).length ≤ 192 := by unfold jn; omega
        have hdl := dec_len2 l[k] hi100
        generalize l[k] = x at *
        have cD := fun W => refDigits_any x W hi100
        have hx0 : (0 : Int) ≤ (x : Int) := Int.natCast_nonneg _
        have hkk : (0 : Int) ≤ (k : Int) := Int.natCast_nonneg _
        have hki : (k : Int) < (l.length : Int) := by omega
        have hbsz := hbr.size
        have HDB : Hid (digsB x = ⟨(Lib.decDigits x).toArray⟩) := (rfl : _ = _)
        have hds : (digsB x).size ≤ 2 := hdl
        generalize digsB x = dx at *
        clear h1c HT hjl htk
        by_cases hk0 : k = 0
        · have hsn2 : Hid (jn (l.take (k + 1)) = Lib.decDigits x) := by show _ = _; rw [hsn.out, if_pos (by rw [hk0, List.take_zero])]
          have hz : jn (l.take k) = [] := by rw [hk0, List.take_zero]; rfl
          have hkz : ¬ (0 : Int) < (k : Int) := by omega
          rw [hz]
          clear hsn hz hjl2 hk0
          go_wp2_with (go_at_call 42; refine (cD _).mono ?_; rintro e w' ⟨rfl, hb3⟩)
          have hb4 := hbr.trans (hb3.mono hbsz)
          go_roundg (gk - 1)
          case rel => exact ⟨k + 1, by omega, by go_num, hb4, by rw [hsn2.out, HDB.out]; rfl⟩
          case measure => omega
        · have hsn2 : Hid (jn (l.take (k + 1)) = jn (l.take k) ++ [43] ++ Lib.decDigits x) := by show _ = _; rw [hsn.out, if_neg (by intro e; have := congrArg List.length e; rw [List.length_take, List.length_nil] at this; omega)]
          have hkz : (0 : Int) < (k : Int) := by omega
          generalize jn (l.take k) = acc at *
          clear hsn hk0
          go_wp2_with (go_at_call 42; refine (cD _).mono ?_; rintro e w' ⟨rfl, hb3⟩)
          have hb4 := hbr.trans (hb3.mono hbsz)
          go_roundg (gk - 1)
          case rel =>
            refine ⟨k + 1, by omega, by go_num, hb4, ?_⟩
            rw [hsn2.out, HDB.out, ← str_app, ← str_app]
          case measure => omega
      · obtain rfl : k = l.length := by omega
        rw [List.take_length, ← HT.out]
        clear HT
        have hend := hb1.trans (hbr.mono hB1)
        go_wp2_with fail
        go_ret
        exact ⟨rfl, hend⟩
end Go.Proofs.YtbcfmckhgjcakaaDoor
