/- The closed law LinesNames by a walk over the contracts. -/
import Derived.Test.YtbhgeikijifbgaaDoorWorks
import Derived.Test.YtbhgeikijifbgaaDoorCheck
import Derived.Laws.MakeOwn
namespace Go.Proofs.YtbhgeikijifbgaaDoor
open Go.RowKit

/-- The text of 33 letters. -/
def longName : ByteArray := ⟨#[97, 98, 99, 100, 101, 102, 103, 104, 105, 106, 107, 108, 109, 110, 111, 112, 113, 114, 115, 116, 117, 118, 119, 120, 121, 122, 48, 49, 50, 51, 52, 45, 95]⟩
/-- 257 bytes 00. -/
def longB : ByteArray := ⟨(List.replicate 257 0).toArray⟩
theorem long_list : longB.data.toList = List.replicate 257 0 := rfl
theorem long_size : longB.size = 257 := by rw [← len_size, long_list, List.length_replicate]
theorem infoByte : (Tryd.prog.info? 5).map (fun i => (i.zero, i.size, i.bytes)) = some (some (.int .u8 0), 1, 1) := by kernel_rfl
theorem made_get (v : Value) (n j : Nat) (h : j < n) : (madeCells #[v] n)[j]? = some v := by simp [madeCells, h, Nat.mod_one]
theorem long_made (W : World) : ∃ C, (Instr.makeSlice 23 (.int .i64 257) (.int .i64 257)).run Tryd.prog W = .ok (.slice (some ⟨W.heap.size, 0, none⟩) 257 257) (W.alloc (.cells C 5)) ∧
    (convert 23 9 (.slice (some ⟨W.heap.size, 0, none⟩) 257 257)).run Tryd.prog (W.alloc (.cells C 5)) = .ok (.string longB) (W.alloc (.cells C 5)) := by
  obtain ⟨i0, hi, hz0, hz1, hz2⟩ := info_parts infoByte
  refine ⟨madeCells (Value.int .u8 0).cells (257 * i0.size), ?_, ?_⟩
  · have := run_make (P := Tryd.prog) (w := W) 23 5 i0 (.int .u8 0) Tryd.underlying23 hi hz0 .i64 .i64 257 257 (by decide) (by decide) (by rw [hz2]; decide) (by decide)
    exact this
  · have := run_convert_bytes_back (P := Tryd.prog) (W.alloc (.cells (madeCells (Value.int .u8 0).cells (257 * i0.size)) 5)) 23 9 5 ⟨W.heap.size, 0, none⟩ 257 (List.replicate 257 0) Tryd.underlying23 Tryd.underlying5 Tryd.underlying9 (fun j hj => by
      rw [List.length_replicate] at hj
      rw [show (⟨W.heap.size, 0, none⟩ : Addr).add j = ⟨W.heap.size, j, none⟩ from by simp [Addr.add]; omega, World.cell?_alloc_mark, hz1, List.getElem_replicate]
      exact made_get (.int .u8 0) _ j (by omega))
    rw [List.length_replicate] at this
    exact this

theorem tell_check (w : World) (u n r e : Int) (s : ByteArray) (hs : s.size ≤ 1000) (he : checkE n r s.data.toList = e) : Tells w 10 #[.agg #[.int .u64 u, .int .i64 n, .int .i64 r, .string s]] (.int .i64 e) :=
  tells_of fun W _ => by
    have := check_any u n r s W (by unfold maxLen; omega)
    rw [he] at this
    exact this
theorem tell_text' (w : World) (s : ByteArray) (b : Bool) (hl : s.size ≤ 1000) (hb : textL s.data.toList = b) : Tells w 8 #[.string s] (.bool b) :=
  tells_same fun W => by
    have := text_any s W (by unfold maxLen; omega)
    rw [hb] at this
    exact this
theorem tell_name' (w : World) (s : ByteArray) (b : Bool) (hl : s.size ≤ 1000) (hb : nameL s.data.toList = b) : Tells w 9 #[.string s] (.bool b) :=
  tells_of fun W _ => by
    have := name_any s W (by unfold maxLen; omega)
    rw [hb] at this
    exact this
theorem long_text : textL longB.data.toList = false := text_long longB (by rw [long_size]; omega)
theorem most_text : textL (longB.extract 0 256).data.toList = true := by
  rw [extract_upto, long_list, List.take_replicate]
  kernel_rfl
theorem most_size : (longB.extract 0 256).size = 256 := by rw [← len_size, extract_upto, long_list, List.take_replicate, List.length_replicate]; rfl

/-- The least number's form: the digits there make one, and it is theirs. -/
theorem least_form : Lib.itoa (-9223372036854775808) = [45, 57, 50, 50, 51, 51, 55, 50, 48, 51, 54, 56, 53, 52, 55, 55, 53, 56, 48, 56] := by
  have h1 : takeOk [45, 57, 50, 50, 51, 51, 55, 50, 48, 51, 54, 56, 53, 52, 55, 55, 53, 56, 48, 56] = true := by kernel_rfl
  have h2 : valL [45, 57, 50, 50, 51, 51, 55, 50, 48, 51, 54, 56, 53, 52, 55, 55, 53, 56, 48, 56] = -9223372036854775808 := by kernel_rfl
  have h3 : formL [45, 57, 50, 50, 51, 51, 55, 50, 48, 51, 54, 56, 53, 52, 55, 55, 53, 56, 48, 56] = [45, 57, 50, 50, 51, 51, 55, 50, 48, 51, 54, 56, 53, 52, 55, 55, 53, 56, 48, 56] := by kernel_rfl
  have := form_of_ok _ h1
  rw [h2, h3] at this
  exact this
theorem shown_const (l : List UInt8) (hl : l.length ≤ 1000) (h : shownOk l = false) (W : World) (hT : Tabs W) : Calls Tryd.prog 11 #[.string ⟨l.toArray⟩] W fun e w' => e = .returned (.tuple #[.string ⟨#[]⟩, .string ⟨#[]⟩, .int .i64 4]) ∧ Below W.heap.size W w' := by
  have := shown_any ⟨l.toArray⟩ W (by rw [← len_size]; unfold maxLen; show l.length ≤ _; omega) hT
  obtain ⟨h1, h2, h3⟩ := shown_no l h
  rw [show (⟨l.toArray⟩ : ByteArray).data.toList = l from rfl, ← h1, ← h2, ← h3] at this
  exact this
/-- The four texts lie at block b. -/
def Four (b : Nat) (W : World) : Prop := W.cell? ⟨b, 0, none⟩ = some (.string ⟨#[51, 58, 104, 105]⟩) ∧ W.cell? ⟨b, 1, none⟩ = some (.string ⟨#[45, 49, 58]⟩) ∧ W.cell? ⟨b, 2, none⟩ = some (.string ⟨#[50, 104, 105]⟩) ∧ W.cell? ⟨b, 3, none⟩ = some (.string ⟨#[48, 50, 58, 104, 105]⟩)
theorem Four.below {b : Nat} {W W' : World} (h : Four b W) (hb : Below W.heap.size W W') : Four b W' := by
  obtain ⟨h0, h1, h2, h3⟩ := h
  have hlt := World.block_lt_of_cell? W _ h0
  exact ⟨(hb.cell (p := ⟨b, 0, none⟩) hlt).trans h0, (hb.cell (p := ⟨b, 1, none⟩) hlt).trans h1, (hb.cell (p := ⟨b, 2, none⟩) hlt).trans h2, (hb.cell (p := ⟨b, 3, none⟩) hlt).trans h3⟩
theorem four_made (W : World) (T : TypeId) : Four W.heap.size (W.alloc (.cells #[.string ⟨#[51, 58, 104, 105]⟩, .string ⟨#[45, 49, 58]⟩, .string ⟨#[50, 104, 105]⟩, .string ⟨#[48, 50, 58, 104, 105]⟩] T)) := by
  refine ⟨?_, ?_, ?_, ?_⟩ <;> simp

set_option maxRecDepth 100000 in
set_option maxHeartbeats 4000000 in
theorem linesNames_any (w : World) : Tells w 3 #[] (.bool true) := by
  intro w0 hw0
  have c1 := works_any w
  have t1 := tell_text' w longB false (by rw [long_size]; decide) long_text
  have t2 := tell_text' w (longB.extract 0 256) true (by rw [most_size]; decide) most_text
  have k1 := tell_check w 0 1 0 0 (longB.extract 0 256) (by rw [most_size]; decide) (check_yes _ _ _ (by decide) (by decide) (by decide) (by decide) most_text)
  have k2 := tell_check w 0 1 0 10 longB (by rw [long_size]; decide) (check_no _ _ _ (.inr (.inr (.inr (.inr long_text)))))
  have k3 := tell_check w 0 0 0 10 ⟨#[]⟩ (by decide) (by kernel_rfl)
  have k4 := tell_check w 0 4611686018427387904 4611686018427387904 0 ⟨#[]⟩ (by decide) (by kernel_rfl)
  have k5 := tell_check w 0 4611686018427387905 0 10 ⟨#[]⟩ (by decide) (by kernel_rfl)
  have k6 := tell_check w 0 1 4611686018427387905 10 ⟨#[]⟩ (by decide) (by kernel_rfl)
  have k7 := tell_check w 0 1 (-1) 10 ⟨#[]⟩ (by decide) (by kernel_rfl)
  have n1 := tell_name' w longName false (by decide) (by kernel_rfl)
  have n2 := tell_name' w (longName.extract 0 32) true (by decide) (by kernel_rfl)
  have n3 := tell_name' w (longName.extract 1 33) true (by decide) (by kernel_rfl)
  have hl0 : (longB.extract 0 256).size ≤ 1000 := by rw [most_size]; decide
  have hsz := long_size
  go_enter Tryd.func3, Tryd.ntmps3
  go_wp2_with fail
  refine (c1 _ hw0).mono ?_
  rintro e w1 ⟨rfl, hw1⟩
  obtain ⟨C, hmk, hcv⟩ := long_made w1
  have hw2 : Wd w (w1.alloc (.cells C 5)) := Wd.next ((Below.refl _ _).alloc (Nat.le_refl _) _) hw1
  go_wp2_with fail
  refine (t1 _ hw2).mono ?_
  rintro e w3 ⟨rfl, hw3⟩
  clear hmk hcv hw2
  go_wp2_with fail
  refine (t2 _ hw3).mono ?_
  rintro e w4 ⟨rfl, hw4⟩
  go_wp2_with fail
  refine (n1 _ hw4).mono ?_
  rintro e w5 ⟨rfl, hw5⟩
  go_wp2_with fail
  refine (n2 _ hw5).mono ?_
  rintro e w6 ⟨rfl, hw6⟩
  go_wp2_with fail
  refine (n3 _ hw6).mono ?_
  rintro e w7 ⟨rfl, hw7⟩
  go_wp2_with fail
  refine (k1 _ hw7).mono ?_
  rintro e w8 ⟨rfl, hw8⟩
  go_wp2_with fail
  refine (k2 _ hw8).mono ?_
  rintro e w9 ⟨rfl, hw9⟩
  go_wp2_with fail
  refine (k3 _ hw9).mono ?_
  rintro e w10 ⟨rfl, hw10⟩
  go_wp2_with fail
  refine (k4 _ hw10).mono ?_
  rintro e w11 ⟨rfl, hw11⟩
  go_wp2_with fail
  refine (k5 _ hw11).mono ?_
  rintro e w12 ⟨rfl, hw12⟩
  go_wp2_with fail
  refine (k6 _ hw12).mono ?_
  rintro e w13 ⟨rfl, hw13⟩
  go_wp2_with fail
  refine (k7 _ hw13).mono ?_
  rintro e w14 ⟨rfl, hw14⟩
  go_wp2_with fail
  clear c1 t1 t2 n1 n2 n3 k1 k2 k3 k4 k5 k6 k7 hl0 hsz hw3 hw4 hw5 hw6 hw7 hw8 hw9 hw10 hw11 hw12 hw13
  have s1 := shown_const [51, 58, 104, 105] (by decide) (by kernel_rfl)
  have s2 := shown_const [45, 49, 58] (by decide) (by kernel_rfl)
  have s3 := shown_const [50, 104, 105] (by decide) (by kernel_rfl)
  have s4 := shown_const [48, 50, 58, 104, 105] (by decide) (by kernel_rfl)
  go_loopw [94] (fun i wr => ∃ k : Nat, k ≤ 4 ∧ i = .int .i64 k ∧ Wd w wr ∧ Four w14.heap.size wr) (fun i _ => 4 - (intOf i).toNat)
  case atStart => exact ⟨0, by omega, rfl, Wd.next ((Below.refl _ _).alloc (Nat.le_refl _) _) hw14, four_made _ _⟩
  case round =>
    obtain ⟨k, hk, rfl, hwr, hf⟩ := hrel
    generalize w14.heap.size = B at *
    obtain ⟨f0, f1, f2, f3⟩ := hf
    have HF : Four B wr := ⟨f0, f1, f2, f3⟩
    have HFH := Lib.hid HF
    clear HF
    rcases (by omega : k = 0 ∨ k = 1 ∨ k = 2 ∨ k = 3 ∨ k = 4) with rfl | rfl | rfl | rfl | rfl
    · go_wp2_with (go_at_call 11; refine (s1 _ hwr.1).mono ?_; rintro e w' ⟨rfl, hb⟩)
      go_roundw
      case rel => exact ⟨1, by omega, rfl, Wd.next hb hwr, Four.below HFH.out hb⟩
      case measure => simp [intOf]
    · go_wp2_with (go_at_call 11; refine (s2 _ hwr.1).mono ?_; rintro e w' ⟨rfl, hb⟩)
      go_roundw
      case rel => exact ⟨2, by omega, rfl, Wd.next hb hwr, Four.below HFH.out hb⟩
      case measure => simp [intOf]
    · go_wp2_with (go_at_call 11; refine (s3 _ hwr.1).mono ?_; rintro e w' ⟨rfl, hb⟩)
      go_roundw
      case rel => exact ⟨3, by omega, rfl, Wd.next hb hwr, Four.below HFH.out hb⟩
      case measure => simp [intOf]
    · go_wp2_with (go_at_call 11; refine (s4 _ hwr.1).mono ?_; rintro e w' ⟨rfl, hb⟩)
      go_roundw
      case rel => exact ⟨4, by omega, rfl, Wd.next hb hwr, Four.below HFH.out hb⟩
      case measure => simp [intOf]
    · clear f0 f1 f2 f3 s1 s2 s3 s4 HFH
      have n1 := tell_name w [97, 46, 98] false (by decide) (by kernel_rfl)
      have n2 := tell_name w [97, 32, 98] false (by decide) (by kernel_rfl)
      have n3 := tell_name w [97, 66] false (by decide) (by kernel_rfl)
      have n4 := tell_name w [] false (by decide) (by kernel_rfl)
      go_wp2_with fail
      refine (n1 _ hwr).mono ?_
      rintro e w1 ⟨rfl, hw1⟩
      go_wp2_with fail
      refine (n2 _ hw1).mono ?_
      rintro e w2 ⟨rfl, hw2⟩
      go_wp2_with fail
      refine (n3 _ hw2).mono ?_
      rintro e w3 ⟨rfl, hw3⟩
      go_wp2_with fail
      refine (n4 _ hw3).mono ?_
      rintro e w4 ⟨rfl, hw4⟩
      clear n1 n2 n3 n4 hw1 hw2 hw3
      have r1 := tell_read w [45, 57, 50, 50, 51, 51, 55, 50, 48, 51, 54, 56, 53, 52, 55, 55, 53, 56, 48, 56] (-9223372036854775808) 0 (by decide) (by kernel_rfl) (by kernel_rfl)
      have r2 := tell_read w [57, 50, 50, 51, 51, 55, 50, 48, 51, 54, 56, 53, 52, 55, 55, 53, 56, 48, 55] 9223372036854775807 0 (by decide) (by kernel_rfl) (by kernel_rfl)
      have r3 := tell_read w [57, 50, 50, 51, 51, 55, 50, 48, 51, 54, 56, 53, 52, 55, 55, 53, 56, 48, 56] 0 4 (by decide) (by kernel_rfl) (by kernel_rfl)
      have r4 := tell_read w [45, 57, 50, 50, 51, 51, 55, 50, 48, 51, 54, 56, 53, 52, 55, 55, 53, 56, 48, 57] 0 4 (by decide) (by kernel_rfl) (by kernel_rfl)
      have r5 := tell_read w [57, 57, 57, 57, 57, 57, 57, 57, 57, 57, 57, 57, 57, 57, 57, 57, 57, 57, 57, 57, 57, 57, 57, 57, 57, 57] 0 4 (by decide) (by kernel_rfl) (by kernel_rfl)
      have c5 := tell_number w (-9223372036854775808) [45, 57, 50, 50, 51, 51, 55, 50, 48, 51, 54, 56, 53, 52, 55, 55, 53, 56, 48, 56] (by decide) (by decide) least_form
      go_wp2_with fail
      refine (r1 _ hw4).mono ?_
      rintro e w5 ⟨rfl, hw5⟩
      go_wp2_with fail
      refine (r2 _ hw5).mono ?_
      rintro e w6 ⟨rfl, hw6⟩
      go_wp2_with fail
      refine (r3 _ hw6).mono ?_
      rintro e w7 ⟨rfl, hw7⟩
      go_wp2_with fail
      refine (r4 _ hw7).mono ?_
      rintro e w8 ⟨rfl, hw8⟩
      go_wp2_with fail
      refine (r5 _ hw8).mono ?_
      rintro e w9 ⟨rfl, hw9⟩
      clear r1 r2 r3 r4 r5 hw4 hw5 hw6 hw7 hw8
      go_wp2_with fail
      refine (c5 _ hw9).mono ?_
      rintro e w10 ⟨rfl, hw10⟩
      go_wp2_with fail
      go_ret
      exact ⟨rfl, hw10⟩
end Go.Proofs.YtbhgeikijifbgaaDoor
