/- The document's Show, Shown and SameTexts, each by its contract. -/
import Derived.Test.YtbhgeikijifbgaaDoorReads
import Derived.Test.YtbhgeikijifbgaaDoorRefNumber
import Derived.Test.YtbhgeikijifbgaaDoorShow
import Derived.Test.YtbhgeikijifbgaaDoorStrRow
import Derived.Deep.QuietTactic
import Derived.BigQuiet
namespace Go.Proofs.YtbhgeikijifbgaaDoor
open Go.RowKit

set_option maxHeartbeats 400000 in
theorem refShow_any (s : ByteArray) (w : World) (hs : s.size ≤ 4611686018427387904) :
    Calls Tryd.prog 22 #[.string s] w fun e w' => e = .returned (.string ⟨(showL s.data.toList).toArray⟩) ∧ Below w.heap.size w w' := by
  have hN := refNumber_any s.size (by omega) (by omega) w
  obtain ⟨T, hT⟩ : ∃ T : ByteArray, (⟨(Lib.itoa (s.size : Int)).toArray⟩ : ByteArray) = T := ⟨_, rfl⟩
  have hTs : T.size ≤ s.size / 9 + 1 := by
    rw [← len_size T, ← hT, Lib.itoa_nonneg]
    exact dec_len s.size
  have he := show_bytes s
  rw [hT] at hN he
  have HE := Lib.hid he
  clear hT he
  go_enter Tryd.func22, Tryd.ntmps22
  go_wp2_with (go_at_call 17; refine hN.mono ?_; rintro e w' ⟨rfl, hb⟩)
  go_ret
  exact ⟨str_ret HE.out, hb⟩

theorem quiet_below {w w' : World} (h : Quiet w w') : Below w.heap.size w w' := by
  obtain ⟨n, rfl⟩ := h
  exact below_drewN' (Below.refl _ _) n
theorem shown_bad5 (l : List UInt8) (h : (restL l).head? ≠ some 58) : shownOk l = false := by
  unfold shownOk
  rw [show ((restL l).head? == some 58) = false from by simpa using h]; simp
theorem head_first (R : ByteArray) (h : 0 < R.size) : R.data.toList.head? = some R[0] := by
  have e := drop_cons R 0 h
  rw [List.drop_zero] at e
  rw [e, List.head?_cons]
theorem extract_part (R : ByteArray) (a b : Nat) : (R.extract a b).data.toList = (R.data.toList.drop a).take (b - a) := by simp
theorem shown_yes2 (l : List UInt8) (R : ByteArray) (n : Nat) (hR : R.data.toList = restL l) (h : takeOk l = true) (h0 : 0 < R.size) (hc : R[0].toNat = 58) (hn : valL l = n) (h1 : n + 1 ≤ R.size) :
    R.extract 1 (1 + n) = ⟨(shownT l).toArray⟩ ∧ R.extract (1 + n) R.size = ⟨(shownR l).toArray⟩ ∧ 0 = shownE l := by
  have hh : (restL l).head? = some 58 := by
    rw [← hR, head_first R h0]; congr 1; rw [← UInt8.toNat_inj]; exact hc
  have hlen : (restL l).tail.length + 1 = R.size := by rw [← len_size, hR, List.length_tail]; have := len_size R; rw [hR] at this; omega
  have hok : shownOk l = true := by
    unfold shownOk
    rw [h, hn, hh, decide_eq_true (by omega : (0 : Int) ≤ (n : Int)), decide_eq_true (by omega : (n : Int) ≤ ((restL l).tail.length : Int))]; rfl
  unfold shownT shownR shownE
  rw [hok, hn, Int.toNat_natCast]
  refine ⟨?_, ?_, rfl⟩
  · apply WideShapes.bytes_inj
    rw [extract_part, hR, show 1 + n - 1 = n from by omega, List.drop_one]; rfl
  · apply WideShapes.bytes_inj
    rw [Lib.extract_to_end, hR, ← List.drop_drop, List.drop_one]; rfl

set_option maxHeartbeats 2000000 in
theorem refShown_any (s : ByteArray) (w : World) (hs : s.size ≤ maxLen) :
    Calls Tryd.prog 18 #[.string s] w fun e w' => e = .returned (.tuple #[.string ⟨(shownT s.data.toList).toArray⟩, .string ⟨(shownR s.data.toList).toArray⟩, .int .i64 (shownE s.data.toList)]) ∧ Below w.heap.size w w' := by
  have hT := refTake_any s w hs
  have hlen := rest_len s.data.toList
  rw [len_size] at hlen
  unfold maxLen at hs
  generalize s.data.toList = l at *
  cases hk : takeOk l
  · obtain ⟨e1, e2, e3⟩ := take_not l hk
    rw [e1, e2, e3] at hT
    have hno := Lib.hid (shown_no l (shown_bad1 l hk))
    clear e1 e2 e3 hk hlen
    go_enter Tryd.func18, Tryd.ntmps18
    go_wp2_with (go_at_call 16; refine hT.mono ?_; rintro e w' ⟨rfl, hq⟩; have hb := quiet_below hq; clear hq)
    go_ret3
    exact ⟨str3_ret hno.out.1 hno.out.2.1 hno.out.2.2, hb⟩
  · obtain ⟨e1, e2, e3⟩ := take_is l hk
    rw [e1, e2, e3] at hT
    obtain ⟨R, hR⟩ : ∃ R : ByteArray, (⟨(restL l).toArray⟩ : ByteArray) = R := ⟨_, rfl⟩
    have hRl : R.data.toList = restL l := by rw [← hR]
    have hRs : R.size ≤ s.size := by rw [← len_size, hRl]; exact hlen
    rw [hR] at hT
    clear hlen e1 e2 e3 hR
    by_cases h0 : valL l < 0
    · have hno := Lib.hid (shown_no l (shown_bad3 l h0))
      generalize valL l = n at *
      clear hk hRl
      go_enter Tryd.func18, Tryd.ntmps18
      go_wp2_with (go_at_call 16; refine hT.mono ?_; rintro e w' ⟨rfl, hq⟩; have hb := quiet_below hq; clear hq)
      go_ret3
      exact ⟨str3_ret hno.out.1 hno.out.2.1 hno.out.2.2, hb⟩
    · obtain ⟨n, hn⟩ : ∃ n : Nat, valL l = n := ⟨(valL l).toNat, by omega⟩
      rw [hn] at hT
      by_cases hz : 0 < R.size
      · by_cases hc : R[0].toNat = 58
        · have hc1 : ((R[0].toNat : Int) == 58) = true := beq_iff_eq.2 (by omega)
          have hc2 : ((R[0].toNat : Int) != 58) = false := by rw [bne, hc1]; rfl
          by_cases h1 : R.size < n + 1
          · have hno := Lib.hid (shown_no l (shown_bad4 l (by
              have h2 := len_size R
              rw [hRl] at h2
              rw [hn, List.length_tail]; omega)))
            have h1a : (R.size : Int) - 1 < (n : Int) := by omega
            have h1b : decide ((R.size : Int) - 1 < (n : Int)) = true := decide_eq_true h1a
            clear hk hRl hn h0 hc
            go_enter Tryd.func18, Tryd.ntmps18
            go_wp2_with (go_at_call 16; refine hT.mono ?_; rintro e w' ⟨rfl, hq⟩; have hb := quiet_below hq; clear hq)
            go_ret3
            exact ⟨str3_ret hno.out.1 hno.out.2.1 hno.out.2.2, hb⟩
          · have hyes := Lib.hid (shown_yes2 l R n hRl hk hz hc hn (by omega))
            clear hk hRl hn h0 hc
            have hk0 : (0 : Int) ≤ (n : Int) := by omega
            have hk1 : (n : Int) + 1 ≤ (R.size : Int) := by omega
            have h1b : decide ((R.size : Int) - 1 < (n : Int)) = false := decide_eq_false (by omega)
            have hk1' : 1 + (n : Int) ≤ (R.size : Int) := by omega
            have hk3 : (1 + (n : Int)).toNat = 1 + n := by omega
            have hk4 : IntKind.i64.wrap (1 + (n : Int)) = 1 + (n : Int) := IntWalk.i64_in _ (by omega)
            go_enter Tryd.func18, Tryd.ntmps18
            go_wp2_with (go_at_call 16; refine hT.mono ?_; rintro e w' ⟨rfl, hq⟩; have hb := quiet_below hq; clear hq)
            go_quiet (fail)
            go_wp2
            go_ret3
            exact ⟨str3_ret hyes.out.1 hyes.out.2.1 hyes.out.2.2, below_drewN' hb _⟩
        · have hc1 : ((R[0].toNat : Int) == 58) = false := beq_false_of_ne (by omega)
          have hc2 : ((R[0].toNat : Int) != 58) = true := by rw [bne, hc1]; rfl
          have hno := Lib.hid (shown_no l (shown_bad5 l (by
            rw [← hRl, head_first R hz]
            intro e
            injection e with e
            apply hc; rw [e]; rfl)))
          clear hk hRl hn h0 hc
          go_enter Tryd.func18, Tryd.ntmps18
          go_wp2_with (go_at_call 16; refine hT.mono ?_; rintro e w' ⟨rfl, hq⟩; have hb := quiet_below hq; clear hq)
          go_ret3
          exact ⟨str3_ret hno.out.1 hno.out.2.1 hno.out.2.2, hb⟩
      · have hno := Lib.hid (shown_no l (shown_bad5 l (by
          have h2 := len_size R
          rw [hRl] at h2
          rw [List.eq_nil_of_length_eq_zero (show (restL l).length = 0 by omega)]; simp)))
        have hz0 : (R.size : Int) < 1 := by omega
        clear hk hRl hn h0
        go_enter Tryd.func18, Tryd.ntmps18
        go_wp2_with (go_at_call 16; refine hT.mono ?_; rintro e w' ⟨rfl, hq⟩; have hb := quiet_below hq; clear hq)
        go_ret3
        exact ⟨str3_ret hno.out.1 hno.out.2.1 hno.out.2.2, hb⟩

set_option maxHeartbeats 1000000 in
theorem sameTexts_any (w : World) (p q : Option Addr) (n m c d : Nat) (xs : List ByteArray) (hp : StrRow w p xs) (hq : StrRow w q xs) (hn : xs.length = n) (hm : xs.length = m) (hl : xs.length ≤ 1048576) :
    Calls Tryd.prog 23 #[.slice p n c, .slice q m d] w fun e w' => e = .returned (.bool true) ∧ Below w.heap.size w w' := by
  obtain rfl : n = m := hn.symm.trans hm
  have HN := Lib.hid hn
  have hn1 : n ≤ 1048576 := by omega
  clear hn hm hl
  go_enter Tryd.func23, Tryd.ntmps23
  go_wp2_with fail
  go_loopw [5] (fun i wr => ∃ k : Nat, k ≤ n ∧ i = .int .i64 k ∧ Below w.heap.size w wr) (fun i _ => n - (intOf i).toNat)
  case atStart => exact ⟨0, by omega, rfl, Below.refl _ _⟩
  case round =>
    obtain ⟨k, hk, rfl, hbr⟩ := hrel
    by_cases hlt : k < n
    · have hlt' : k < xs.length := by rw [HN.out]; exact hlt
      obtain ⟨b1, o1, rfl, h1c⟩ := hp.at k hlt'
      obtain ⟨b2, o2, rfl, h2c⟩ := hq.at k hlt'
      have g1 := h1c wr hbr
      have g2 := h2c wr hbr
      generalize xs[k] = x at *
      have hk0 : (0 : Int) ≤ (k : Int) := Int.natCast_nonneg _
      have hkm : (k : Int) < (n : Int) := by omega
      clear h1c h2c
      go_wp2_with fail
      go_quiet (fail)
      go_wp2
      go_roundw
      case rel => exact ⟨k + 1, by omega, by go_num, below_drewN' hbr _⟩
      case measure => simp [intOf]; omega
    · obtain rfl : n = k := by omega
      go_wp2_with fail
      go_ret
      exact ⟨rfl, hbr⟩
end Go.Proofs.YtbhgeikijifbgaaDoor
