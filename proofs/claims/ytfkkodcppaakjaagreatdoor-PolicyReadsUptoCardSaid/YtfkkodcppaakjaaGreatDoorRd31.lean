/- Texts of the proof, merged: RefNumber. -/
import Derived.Test.YtfkkodcppaakjaaGreatDoorRd6
import Derived.Test.YtfkkodcppaakjaaGreatDoorRd9
import Derived.Test.YtfkkodcppaakjaaGreatDoorRd30
/- The document's Number, by its contract. -/
namespace Go.Proofs.YtfkkodcppaakjaaGreatDoor
open Go.RowKit

/-- What is written so far: the last digits of U, those of M still to come. -/
def NumRel (U M : Nat) (acc : List UInt8) : Prop := (M = 0 ∧ acc = Lib.decDigits U) ∨ (1 ≤ M ∧ Lib.decDigits U = Lib.decDigits M ++ acc)
theorem numRel_start (U : Nat) (h : 1 ≤ U) : NumRel U U [] := .inr ⟨h, by simp⟩
theorem numRel_step (U M : Nat) (acc : List UInt8) (h : 1 ≤ M) (hr : NumRel U M acc) : NumRel U (M / 10) (UInt8.ofNat (48 + M % 10) :: acc) := by
  rcases hr with ⟨h0, _⟩ | ⟨_, hr⟩
  · omega
  · by_cases hs : M < 10
    · exact .inl ⟨by omega, by rw [hr, dec_small hs, show M % 10 = M from by omega]; rfl⟩
    · exact .inr ⟨by omega, by rw [hr, dec_big hs]; simp⟩
theorem numRel_end (U : Nat) (acc : List UInt8) (hr : NumRel U 0 acc) : acc = Lib.decDigits U := by
  rcases hr with ⟨_, h⟩ | ⟨h, _⟩
  · exact h
  · omega

theorem numRel_len (U M : Nat) (acc : List UInt8) (h : 1 ≤ M) (hr : NumRel U M acc) : 1 + acc.length ≤ U / 9 + 1 := by
  rcases hr with ⟨h0, _⟩ | ⟨_, hr⟩
  · omega
  · have h1 := dec_len U
    rw [hr, List.length_append] at h1
    have h2 : 1 ≤ (Lib.decDigits M).length := by
      cases hd : Lib.decDigits M with
      | nil => exact absurd hd (dec_ne M)
      | cons _ _ => simp
    omega
theorem cons_bytes (c : UInt8) (l : List UInt8) : (⟨#[c]⟩ ++ ⟨l.toArray⟩ : ByteArray) = ⟨(c :: l).toArray⟩ :=
  WideShapes.bytes_inj (by rw [Joins.data_append]; rfl)
theorem cons_text (c : UInt8) (l : List UInt8) : Value.string (⟨#[c]⟩ ++ ⟨l.toArray⟩) = Value.string ⟨(c :: l).toArray⟩ := by rw [cons_bytes]

theorem digit_text (w : World) (d : Nat) (hd : d < 10) :
    (convert 55 9 (.slice (some ⟨w.heap.size, 0, none⟩) 1 1)).run Tryz.prog (w.alloc (.cells #[.int .u8 (48 + (d : Int))] 5)) = .ok (.string ⟨#[UInt8.ofNat (48 + d)]⟩) (w.alloc (.cells #[.int .u8 (48 + (d : Int))] 5)) := by
  refine run_convert_bytes_back (P := Tryz.prog) _ 55 9 5 ⟨w.heap.size, 0, none⟩ 1 [UInt8.ofNat (48 + d)] Tryz.underlying55 Tryz.underlying5 Tryz.underlying9 (fun j hj => ?_)
  obtain rfl : j = 0 := by simpa using hj
  have e : (UInt8.ofNat (48 + d)).toNat = 48 + d := toNat_ofNat d hd
  simp only [List.getElem_cons_zero, e]
  rw [show (⟨w.heap.size, 0, none⟩ : Addr).add 0 = ⟨w.heap.size, 0, none⟩ from rfl, World.cell?_alloc_mark]
  simp

set_option maxRecDepth 100000 in
set_option maxHeartbeats 1000000 in
theorem refNumber_pos (n : Int) (h0 : 1 ≤ n) (h1 : n ≤ 9223372036854775807) (w : World) :
    Calls Tryz.prog 115 #[.int .i64 n] w fun e w' => e = .returned (.string ⟨(Lib.itoa n).toArray⟩) ∧ Below w.heap.size w w' := by
  obtain ⟨U, rfl⟩ := Int.eq_ofNat_of_zero_le (by omega : 0 ≤ n)
  have hU : 1 ≤ U := by omega
  have he : Hid (Lib.itoa (U : Int) = Lib.decDigits U) := Lib.itoa_nonneg U
  have hb : ((U : Int) == 0) = false := beq_false_of_ne (by omega)
  have hst := Lib.hid (numRel_start U hU)
  go_enter Tryz.func115, Tryz.ntmps115
  go_wp2
  go_loopw [3, 4] (fun s m wr => ∃ (M : Nat) (acc : List UInt8), M ≤ U ∧ s = .string ⟨acc.toArray⟩ ∧ m = .int .u64 M ∧ NumRel U M acc ∧ Below w.heap.size w wr) (fun _ m _ => (intOf m).toNat)
  case atStart => exact ⟨U, [], Nat.le_refl _, rfl, rfl, hst.out, Below.refl _ _⟩
  case round =>
    obtain ⟨M, acc, hMU, rfl, rfl, hr, hbw⟩ := hrel
    by_cases hM : 1 ≤ M
    · have hr' := Lib.hid (numRel_step U M acc hM hr)
      have hlen := numRel_len U M acc hM hr
      clear hr
      have hcv := digit_text wr (M % 10) (by omega)
      rw [show ((M % 10 : Nat) : Int) = (M : Int) % 10 from by omega] at hcv
      obtain ⟨c, hc⟩ : ∃ c, UInt8.ofNat (48 + M % 10) = c := ⟨_, rfl⟩
      rw [hc] at hcv hr'
      clear hc
      go_wp2
      go_roundw
      case rel => exact ⟨M / 10, c :: acc, by omega, cons_text c acc, by go_num, hr'.out, hbw.alloc hbw.size _⟩
      case measure => simp [intOf]; omega
    · obtain rfl : M = 0 := by omega
      have hf := Lib.hid (numRel_end U acc hr)
      clear hr hM
      go_wp2
      go_ret
      exact ⟨str_ret (by rw [he.out, hf.out]), hbw⟩

set_option maxRecDepth 100000 in
set_option maxHeartbeats 1000000 in
theorem refNumber_neg (n : Int) (h0 : n < 0) (h1 : -9223372036854775808 ≤ n) (w : World) :
    Calls Tryz.prog 115 #[.int .i64 n] w fun e w' => e = .returned (.string ⟨(Lib.itoa n).toArray⟩) ∧ Below w.heap.size w w' := by
  obtain ⟨U, hUn⟩ : ∃ U : Nat, (U : Int) = -n := ⟨n.natAbs, by omega⟩
  obtain rfl : n = -(U : Int) := by omega
  clear hUn
  have hU : 1 ≤ U := by omega
  have hU2 : (U : Int) ≤ 9223372036854775808 := by omega
  have he : Hid (Lib.itoa (-(U : Int)) = 45 :: Lib.decDigits U) := Lib.itoa_neg U hU
  have hb : ((-(U : Int)) == 0) = false := beq_false_of_ne (by omega)
  have hneg : (-(U : Int)) < 0 := by omega
  have hst := Lib.hid (numRel_start U hU)
  go_enter Tryz.func115, Tryz.ntmps115
  go_wp2
  go_loopw [3, 4] (fun s m wr => ∃ (M : Nat) (acc : List UInt8), M ≤ U ∧ s = .string ⟨acc.toArray⟩ ∧ m = .int .u64 M ∧ NumRel U M acc ∧ Below w.heap.size w wr) (fun _ m _ => (intOf m).toNat)
  case atStart => exact ⟨U, [], Nat.le_refl _, rfl, by go_num, hst.out, Below.refl _ _⟩
  case round =>
    obtain ⟨M, acc, hMU, rfl, rfl, hr, hbw⟩ := hrel
    by_cases hM : 1 ≤ M
    · have hr' := Lib.hid (numRel_step U M acc hM hr)
      have hlen := numRel_len U M acc hM hr
      clear hr
      have hcv := digit_text wr (M % 10) (by omega)
      rw [show ((M % 10 : Nat) : Int) = (M : Int) % 10 from by omega] at hcv
      obtain ⟨c, hc⟩ : ∃ c, UInt8.ofNat (48 + M % 10) = c := ⟨_, rfl⟩
      rw [hc] at hcv hr'
      clear hc
      go_wp2
      go_roundw
      case rel => exact ⟨M / 10, c :: acc, by omega, cons_text c acc, by go_num, hr'.out, hbw.alloc hbw.size _⟩
      case measure => simp [intOf]; omega
    · obtain rfl : M = 0 := by omega
      have hf := Lib.hid (numRel_end U acc hr)
      have hl : acc.length ≤ U / 9 + 1 := by rw [hf.out]; exact dec_len U
      clear hr hM
      go_wp2
      go_ret
      exact ⟨str_ret (by rw [he.out, ← hf.out, cons_bytes]), hbw⟩

set_option maxHeartbeats 1000000 in
theorem refNumber_zero (w : World) :
    Calls Tryz.prog 115 #[.int .i64 0] w fun e w' => e = .returned (.string ⟨(Lib.itoa 0).toArray⟩) ∧ Below w.heap.size w w' := by
  have he : Hid (Lib.itoa 0 = [48]) := by
    have : Lib.itoa 0 = [48] := by rw [itoa_pos' 0 (by omega)]; exact dec_small (by decide)
    exact this
  go_enter Tryz.func115, Tryz.ntmps115
  go_wp2
  go_ret
  exact ⟨str_ret (by rw [he.out]), Below.refl _ _⟩

theorem refNumber_any (n : Int) (h0 : -9223372036854775808 ≤ n) (h1 : n ≤ 9223372036854775807) (w : World) :
    Calls Tryz.prog 115 #[.int .i64 n] w fun e w' => e = .returned (.string ⟨(Lib.itoa n).toArray⟩) ∧ Below w.heap.size w w' := by
  by_cases hn : n < 0
  · exact refNumber_neg n hn h0 w
  · by_cases hz : n = 0
    · subst hz; exact refNumber_zero w
    · exact refNumber_pos n (by omega) h1 w
end Go.Proofs.YtfkkodcppaakjaaGreatDoor
