/- The closed law ViewNames, by a walk over the contracts. -/
import Derived.Test.YtdpikdkhemhmdaaViPutsC
import Derived.Test.YtdpikdkhemhmdaaViLabels
namespace Go.Proofs.Ytdpikdkhemhmdaa
open Go Go.RowKit

def vn1 : Li := ⟨0, 1, 0, ⟨#[]⟩⟩
def vn4 : Li := ⟨4, 0, 0, ⟨#[]⟩⟩
theorem vn1_row (w : World) : LiRow (w.alloc (.cells #[.int .u64 0, .int .i64 1, .int .i64 0, .string ⟨#[]⟩] 26)) (some ⟨w.heap.size, 0, none⟩) [vn1] := fun i hi => by
  obtain rfl : i = 0 := by simpa using hi
  refine ⟨w.heap.size, 0, rfl, by simp, ?_⟩
  refine ⟨?_, ?_, ?_, ?_⟩ <;> (rw [World.cell?_alloc_mark]; rfl)
theorem vn4_row (w : World) : LiRow (w.alloc (.cells #[.int .u64 4, .int .i64 0, .int .i64 0, .string ⟨#[]⟩] 26)) (some ⟨w.heap.size, 0, none⟩) [vn4] := fun i hi => by
  obtain rfl : i = 0 := by simpa using hi
  refine ⟨w.heap.size, 0, rfl, by simp, ?_⟩
  refine ⟨?_, ?_, ?_, ?_⟩ <;> (rw [World.cell?_alloc_mark]; rfl)
theorem vn4_ok : ∀ x ∈ [vn4], LiOk x := fun x hx => by
  obtain rfl := List.mem_singleton.1 hx
  exact ⟨by decide, WalkArith.wf_i64 (by decide), WalkArith.wf_i64 (by decide), by unfold maxLen; simp [vn4, ByteArray.size]⟩
theorem vn_p0 : putL 3 [] [] = [] ∧ putE 3 [] [] = 0 := ⟨rfl, rfl⟩
theorem vn_p1 : putL 3 [] [vn1] = [] ∧ putE 3 [] [vn1] = 1 := ⟨rfl, rfl⟩
theorem vn_al : sameLi (([] : List Li).filter (seenB 3)) ([vn4].filter (seenB 3)) = true := by
  have h : seenB 3 vn4 = false := by decide +kernel
  simp [h, sameLi]
theorem vn_s1 : seenB 3 ⟨1, 0, 0, ⟨#[]⟩⟩ = true := by decide +kernel
theorem vn_s3 : seenB 1 ⟨3, 0, 0, ⟨#[]⟩⟩ = false := by decide +kernel
theorem vn_lb : onceC (labsOf []) = [] := by
  have := onceC_len (labsOf [])
  exact List.eq_nil_of_length_eq_zero (by simpa [labsOf] using this)
set_option maxRecDepth 100000 in
set_option maxHeartbeats 4000000 in
theorem viewNames_any (w : World) :
    Calls Try.prog 7 #[] w fun e w' => e = .returned (.bool true) ∧ Below w.heap.size w w' := by
  have c1 := fun W => put_any W none none 0 0 0 0 [] [] rfl (by decide) rfl (liRow_nil _ _) (liRow_nil _ _) (fun _ => ⟨rfl, rfl⟩) (fun x hx => by cases hx) 3 (by decide)
  rw [vn_p0.1, vn_p0.2] at c1
  have c2 := fun W p (hr : LiRow W p [vn1]) => put_any W none p 0 0 1 1 [] [vn1] rfl (by decide) rfl (liRow_nil _ _) hr (fun _ => ⟨rfl, rfl⟩) (fun x hx => by cases hx) 3 (by decide)
  rw [vn_p1.1, vn_p1.2] at c2
  have c3 := fun W => of_any W none 0 0 [] rfl (by decide) (liRow_nil _ _) (fun x hx => by cases hx) 3 (by decide)
  rw [List.filter_nil] at c3
  have c4 := fun W => hidden_any W none 0 0 [] rfl (by decide) (liRow_nil _ _) (fun x hx => by cases hx) 3 (by decide)
  rw [List.filter_nil] at c4
  have c5 := fun W => labelsOf_any W none 0 0 [] rfl (by decide) (liRow_nil _ _)
  rw [vn_lb] at c5
  have c6 := fun W p (hr : LiRow W p [vn4]) => alike_any W none p 0 1 0 1 [] [vn4] 3 rfl rfl (by decide) (by decide) (liRow_nil _ _) hr (fun x hx => by cases hx) vn4_ok (by decide)
  rw [vn_al] at c6
  have c7 := fun W => seen_any 3 ⟨1, 0, 0, ⟨#[]⟩⟩ W (by decide) (by decide)
  rw [vn_s1] at c7
  have c8 := fun W => seen_any 1 ⟨3, 0, 0, ⟨#[]⟩⟩ W (by decide) (by decide)
  rw [vn_s3] at c8
  unfold Li.agg at c7 c8
  go_enter Try.func7, Try.ntmps7
  go_wp2_with fail
  refine (c1 _).mono ?_
  rintro e w1 ⟨hb1, p1, k1, rfl, _, _⟩
  have HB1 := Lib.hid hb1
  clear hb1 c1
  rw [List.length_nil]
  go_wp2_with fail
  refine (c2 _ _ (vn1_row _)).mono ?_
  rintro e w2 ⟨hb2, p2, k2, rfl, _, _⟩
  have hbb := (Below.refl w1.heap.size w1).alloc (Nat.le_refl _) (.cells #[.int .u64 0, .int .i64 1, .int .i64 0, .string ⟨#[]⟩] 26)
  have HB2 := Lib.hid (HB1.out.trans ((hbb.trans (hb2.mono (by simp))).mono HB1.out.size))
  clear hb2 c2 hbb HB1
  rw [List.length_nil]
  go_wp2_with fail
  refine (c3 _).mono ?_
  rintro e w3 ⟨hb3, p3, k3, rfl, _, _⟩
  have HB3 := Lib.hid (HB2.out.trans (hb3.mono HB2.out.size))
  clear hb3 c3 HB2
  rw [List.length_nil]
  go_wp2_with fail
  refine (c4 _).mono ?_
  rintro e w4 ⟨hb4, p4, k4, rfl, _, _⟩
  have HB4 := Lib.hid (HB3.out.trans (hb4.mono HB3.out.size))
  clear hb4 c4 HB3
  rw [List.length_nil]
  go_wp2_with fail
  refine (c5 _).mono ?_
  rintro e w5 ⟨hb5, p5, k5, rfl, _, _⟩
  have HB5 := Lib.hid (HB4.out.trans (hb5.mono HB4.out.size))
  clear hb5 c5 HB4
  rw [List.length_nil]
  go_wp2_with fail
  refine (c6 _ _ (vn4_row _)).mono ?_
  rintro e w6 ⟨rfl, hb6⟩
  have hbb := (Below.refl w5.heap.size w5).alloc (Nat.le_refl _) (.cells #[.int .u64 4, .int .i64 0, .int .i64 0, .string ⟨#[]⟩] 26)
  have HB6 := Lib.hid (HB5.out.trans ((hbb.trans (hb6.mono (by simp))).mono HB5.out.size))
  clear hb6 c6 hbb HB5
  go_wp2_with fail
  refine (c7 _).mono ?_
  rintro e w7 ⟨rfl, hb7⟩
  have HB7 := Lib.hid (HB6.out.trans (hb7.mono HB6.out.size))
  clear hb7 c7 HB6
  go_wp2_with fail
  refine (c8 _).mono ?_
  rintro e w8 ⟨rfl, hb8⟩
  have HB8 := Lib.hid (HB7.out.trans (hb8.mono HB7.out.size))
  clear hb8 c8 HB7
  go_wp2_with fail
  go_ret
  exact ⟨rfl, HB8.out⟩
end Go.Proofs.Ytdpikdkhemhmdaa
