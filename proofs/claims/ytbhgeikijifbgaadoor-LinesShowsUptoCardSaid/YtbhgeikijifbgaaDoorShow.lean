/- Show and Shown of package lines, each by its contract. -/
import Derived.Test.YtbhgeikijifbgaaDoorTake
namespace Go.Proofs.YtbhgeikijifbgaaDoor
open Go.RowKit

/-- The counted text. -/
def showL (l : List UInt8) : List UInt8 := Lib.itoa l.length ++ 58 :: l
def shownOk (l : List UInt8) : Bool := takeOk l && ((restL l).head? == some 58) && decide (0 ≤ valL l) && decide (valL l ≤ ((restL l).tail.length : Int))
def shownT (l : List UInt8) : List UInt8 := if shownOk l then (restL l).tail.take (valL l).toNat else []
def shownR (l : List UInt8) : List UInt8 := if shownOk l then (restL l).tail.drop (valL l).toNat else []
def shownE (l : List UInt8) : Int := if shownOk l then 0 else 4

theorem show_bytes (s : ByteArray) : (⟨(Lib.itoa (s.size : Int)).toArray⟩ ++ ⟨#[58]⟩ ++ s : ByteArray) = ⟨(showL s.data.toList).toArray⟩ := by
  apply WideShapes.bytes_inj
  rw [Joins.data_append, Joins.data_append]
  unfold showL
  rw [len_size]
  simp

set_option maxHeartbeats 400000 in
theorem show_any (s : ByteArray) (w : World) (hs : s.size ≤ 4611686018427387904) (ht : Tabs w) :
    Calls Tryd.prog 21 #[.string s] w fun e w' => e = .returned (.string ⟨(showL s.data.toList).toArray⟩) ∧ Below w.heap.size w w' := by
  have hN := number_any s.size (by omega) (by omega) w ht
  obtain ⟨T, hT⟩ : ∃ T : ByteArray, (⟨(Lib.itoa (s.size : Int)).toArray⟩ : ByteArray) = T := ⟨_, rfl⟩
  have hTs : T.size ≤ s.size / 9 + 1 := by
    rw [← len_size T, ← hT, Lib.itoa_nonneg]
    exact dec_len s.size
  have he := show_bytes s
  rw [hT] at hN he
  have HE := Lib.hid he
  clear hT he
  go_enter Tryd.func21, Tryd.ntmps21
  go_wp2_with (go_at_call 13; refine hN.mono ?_; rintro e w' ⟨rfl, hb⟩)
  go_ret
  exact ⟨str_ret HE.out, hb⟩

theorem str3_ret {a b c d : ByteArray} {e f : Int} (h1 : a = b) (h2 : c = d) (h3 : e = f) : Ending.returned (.tuple #[.string a, .string c, .int .i64 e]) = .returned (.tuple #[.string b, .string d, .int .i64 f]) := by rw [h1, h2, h3]
theorem shown_no (l : List UInt8) (h : shownOk l = false) : (⟨#[]⟩ : ByteArray) = ⟨(shownT l).toArray⟩ ∧ (⟨#[]⟩ : ByteArray) = ⟨(shownR l).toArray⟩ ∧ 4 = shownE l := by
  unfold shownT shownR shownE; rw [h]; exact ⟨rfl, rfl, rfl⟩
theorem shown_bad1 (l : List UInt8) (h : takeOk l = false) : shownOk l = false := by unfold shownOk; rw [h]; rfl
theorem shown_bad2 (l : List UInt8) (h : Lib.hasPrefix (restL l) [58] = false) : shownOk l = false := by
  unfold shownOk
  rw [show ((restL l).head? == some 58) = false from ?_]
  · simp
  · cases hr : restL l with
    | nil => rfl
    | cons a t =>
      rw [hr] at h
      simp only [Lib.hasPrefix, List.isPrefixOf, Bool.and_true] at h
      simp only [List.head?_cons, Option.some_beq_some]
      rw [BEq.comm]; exact h
theorem shown_bad3 (l : List UInt8) (h : valL l < 0) : shownOk l = false := by
  unfold shownOk; rw [decide_eq_false (by omega : ¬ 0 ≤ valL l)]; simp
theorem shown_bad4 (l : List UInt8) (h : ((restL l).tail.length : Int) < valL l) : shownOk l = false := by
  unfold shownOk; rw [decide_eq_false (by omega : ¬ valL l ≤ ((restL l).tail.length : Int))]; simp
theorem shown_yes (l : List UInt8) (B : ByteArray) (n : Nat) (hB : B.data.toList = (restL l).tail) (h : takeOk l = true) (hp : Lib.hasPrefix (restL l) [58] = true) (hn : valL l = n) (h1 : n ≤ B.size) :
    B.extract 0 n = ⟨(shownT l).toArray⟩ ∧ B.extract n B.size = ⟨(shownR l).toArray⟩ ∧ 0 = shownE l := by
  have hok : shownOk l = true := by
    unfold shownOk
    rw [h, hn, ← hB, len_size]
    have : ((restL l).head? == some 58) = true := by
      cases hr : restL l with
      | nil => rw [hr] at hp; cases hp
      | cons a t =>
        rw [hr] at hp
        simp only [Lib.hasPrefix, List.isPrefixOf, Bool.and_true] at hp
        simp only [List.head?_cons, Option.some_beq_some]
        rw [BEq.comm]; exact hp
    rw [this, decide_eq_true (by omega : (0 : Int) ≤ (n : Int)), decide_eq_true (by omega : (n : Int) ≤ (B.size : Int))]; rfl
  unfold shownT shownR shownE
  rw [hok, hn, ← hB, Int.toNat_natCast]
  refine ⟨?_, ?_, rfl⟩
  · apply WideShapes.bytes_inj; rw [extract_upto]; rfl
  · apply WideShapes.bytes_inj; rw [Lib.extract_to_end]; rfl
theorem trim_colon (l : List UInt8) (h : Lib.hasPrefix l [58] = true) : Lib.trimPrefix l [58] = l.tail := by
  unfold Lib.trimPrefix; rw [h]
  cases l with
  | nil => rfl
  | cons a t => rfl
theorem take_is (l : List UInt8) (h : takeOk l = true) : takeN l = valL l ∧ takeT l = restL l ∧ takeE l = 0 := by
  unfold takeN takeT takeE; rw [h]; exact ⟨rfl, rfl, rfl⟩
theorem take_not (l : List UInt8) (h : takeOk l = false) : takeN l = 0 ∧ takeT l = [] ∧ takeE l = 4 := by
  unfold takeN takeT takeE; rw [h]; exact ⟨rfl, rfl, rfl⟩

set_option maxHeartbeats 2000000 in
theorem shown_any (s : ByteArray) (w : World) (hs : s.size ≤ maxLen) (ht : Tabs w) :
    Calls Tryd.prog 11 #[.string s] w fun e w' => e = .returned (.tuple #[.string ⟨(shownT s.data.toList).toArray⟩, .string ⟨(shownR s.data.toList).toArray⟩, .int .i64 (shownE s.data.toList)]) ∧ Below w.heap.size w w' := by
  have hT := take_any s w hs ht
  have hC := fun R W => flipW (Tryd.strings_CutPrefix R ⟨#[58]⟩ W)
  rw [show (⟨#[58]⟩ : ByteArray).data.toList = [58] from rfl] at hC
  have hlen := rest_len s.data.toList
  rw [len_size] at hlen
  unfold maxLen at hs
  generalize s.data.toList = l at *
  cases hk : takeOk l
  · obtain ⟨e1, e2, e3⟩ := take_not l hk
    rw [e1, e2, e3] at hT
    have hno := Lib.hid (shown_no l (shown_bad1 l hk))
    have hC' := fun W => hC ⟨[].toArray⟩ W
    clear e1 e2 e3 hk hC hlen
    go_enter Tryd.func11, Tryd.ntmps11
    go_wp2_with (first
      | (go_at_call 15; refine hT.mono ?_; rintro e w' ⟨rfl, hb⟩)
      | (go_at_call 29; refine (hC' _).mono ?_; rintro e w' ⟨rfl, rfl⟩))
    go_ret3
    exact ⟨str3_ret hno.out.1 hno.out.2.1 hno.out.2.2, hb⟩
  · obtain ⟨e1, e2, e3⟩ := take_is l hk
    rw [e1, e2, e3] at hT
    obtain ⟨R, hR⟩ : ∃ R : ByteArray, (⟨(restL l).toArray⟩ : ByteArray) = R := ⟨_, rfl⟩
    have hRl : R.data.toList = restL l := by rw [← hR]
    have hC' := fun W => hC R W
    rw [hRl] at hC'
    rw [hR] at hT
    clear hC
    cases hp : Lib.hasPrefix (restL l) [58]
    · rw [hp] at hC'
      have hno := Lib.hid (shown_no l (shown_bad2 l hp))
      generalize (⟨(Lib.trimPrefix (restL l) [58]).toArray⟩ : ByteArray) = B at *
      generalize valL l = n at *
      clear e1 e2 e3 hk hlen hR hRl hp
      go_enter Tryd.func11, Tryd.ntmps11
      go_wp2_with (first
        | (go_at_call 15; refine hT.mono ?_; rintro e w' ⟨rfl, hb⟩)
        | (go_at_call 29; refine (hC' _).mono ?_; rintro e w' ⟨rfl, rfl⟩))
      go_ret3
      exact ⟨str3_ret hno.out.1 hno.out.2.1 hno.out.2.2, hb⟩
    · rw [hp, trim_colon _ hp] at hC'
      obtain ⟨B, hB⟩ : ∃ B : ByteArray, (⟨(restL l).tail.toArray⟩ : ByteArray) = B := ⟨_, rfl⟩
      have hBl : B.data.toList = (restL l).tail := by rw [← hB]
      have hBs : B.size ≤ s.size := by
        rw [← len_size B, hBl, List.length_tail]; omega
      rw [hB] at hC'
      by_cases h0 : valL l < 0
      · have hno := Lib.hid (shown_no l (shown_bad3 l h0))
        generalize valL l = n at *
        clear e1 e2 e3 hk hlen hR hRl hp hB hBl
        go_enter Tryd.func11, Tryd.ntmps11
        go_wp2_with (first
          | (go_at_call 15; refine hT.mono ?_; rintro e w' ⟨rfl, hb⟩)
          | (go_at_call 29; refine (hC' _).mono ?_; rintro e w' ⟨rfl, rfl⟩))
        go_ret3
        exact ⟨str3_ret hno.out.1 hno.out.2.1 hno.out.2.2, hb⟩
      · obtain ⟨n, hn⟩ : ∃ n : Nat, valL l = n := ⟨(valL l).toNat, by omega⟩
        rw [hn] at hT
        by_cases h1 : B.size < n
        · have hno := Lib.hid (shown_no l (shown_bad4 l (by rw [hn, ← hBl, len_size]; omega)))
          clear e1 e2 e3 hk hlen hR hRl hp hB hBl hn h0
          go_enter Tryd.func11, Tryd.ntmps11
          go_wp2_with (first
            | (go_at_call 15; refine hT.mono ?_; rintro e w' ⟨rfl, hb⟩)
            | (go_at_call 29; refine (hC' _).mono ?_; rintro e w' ⟨rfl, rfl⟩))
          go_ret3
          exact ⟨str3_ret hno.out.1 hno.out.2.1 hno.out.2.2, hb⟩
        · have hyes := Lib.hid (shown_yes l B n hBl hk hp hn (by omega))
          have hk0 : (0 : Int) ≤ (n : Int) := by omega
          have hk1 : (n : Int) ≤ (B.size : Int) := by omega
          clear e1 e2 e3 hk hlen hR hRl hp hB hBl hn h0
          go_enter Tryd.func11, Tryd.ntmps11
          go_wp2_with (first
            | (go_at_call 15; refine hT.mono ?_; rintro e w' ⟨rfl, hb⟩)
            | (go_at_call 29; refine (hC' _).mono ?_; rintro e w' ⟨rfl, rfl⟩))
          go_quiet (fail)
          go_wp2
          go_ret3
          exact ⟨str3_ret hyes.out.1 hyes.out.2.1 hyes.out.2.2, below_drewN' hb _⟩
end Go.Proofs.YtbhgeikijifbgaaDoor
