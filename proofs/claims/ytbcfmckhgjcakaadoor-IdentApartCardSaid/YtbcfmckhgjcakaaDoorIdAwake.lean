/- The laws' awake: two labels, counted. -/
import Derived.Test.YtbcfmckhgjcakaaDoorIdText
import Derived.Test.YtbcfmckhgjcakaaDoorIdNext
namespace Go.Proofs.YtbcfmckhgjcakaaDoor
open Go Go.RowKit Go.Maps

def lw0 : Li := ⟨3, 4, 0, ⟨#[]⟩⟩
def lw1 : Li := ⟨0, 1, 0, ⟨#[]⟩⟩
theorem lw_ok : ∀ x ∈ [lw0, lw1], LiOk x := fun x hx => by
  simp only [List.mem_cons, List.not_mem_nil, or_false] at hx
  rcases hx with rfl | rfl
  · exact ⟨by decide, WalkArith.wf_i64 (by decide), WalkArith.wf_i64 (by decide), by unfold maxLen; simp [lw0, ByteArray.size]⟩
  · exact ⟨by decide, WalkArith.wf_i64 (by decide), WalkArith.wf_i64 (by decide), by unfold maxLen; simp [lw1, ByteArray.size]⟩
theorem okN_w : okN [lw0, lw1] := ⟨tw_none fun j hj => by
  have hj2 : j = 0 ∨ j = 1 := by simp at hj; omega
  unfold hitAt
  rw [decide_eq_false_iff_not]
  rcases hj2 with rfl | rfl <;> simp [idsOf, Li.id, lw0, lw1], fun x hx => by
  simp only [List.mem_cons, List.not_mem_nil, or_false] at hx
  rcases hx with rfl | rfl <;> exact ⟨by decide, by decide⟩⟩
theorem lw_row (w : World) (T : TypeId) : LiRow (w.alloc (.cells #[.int .u64 3, .int .i64 4, .int .i64 0, .string ⟨#[]⟩, .int .u64 0, .int .i64 1, .int .i64 0, .string ⟨#[]⟩] T)) (some ⟨w.heap.size, 0, none⟩) [lw0, lw1] := fun i hi => by
  have hi2 : i = 0 ∨ i = 1 := by simp at hi; omega
  refine ⟨w.heap.size, 0, rfl, by simp, ?_⟩
  rcases hi2 with rfl | rfl <;> (refine ⟨?_, ?_, ?_, ?_⟩ <;> (rw [World.cell?_alloc_mark]; rfl))
theorem last_w : lastF [lw0, lw1] 3 = 4 ∧ lastF [lw0, lw1] 9 = 0 ∧ lastF [lw0, lw1] 0 = 1 := by decide
theorem text_w : textN 3 = [48, 43, 49] := by kernel_rfl
theorem digs_4 : Lib.decDigits 4 = [52] := by kernel_rfl
set_option maxRecDepth 100000 in
theorem text_34 (w : World) (hT : BTab w) : Calls Tryd.prog 8 #[.agg #[.int .u64 3, .int .i64 4, .int .i64 0, .string ⟨#[]⟩]] w fun e w' => e = .returned (.string ⟨#[48, 43, 49, 35, 52]⟩) ∧ Below w.heap.size w w' := by
  have h := idText_any w lw0 ⟨(Lib.decDigits 4).toArray⟩ (by decide) hT (fun W hb => (Tryd.strconv_Itoa_small 4 (by decide) W).mono fun e w' ⟨h1, h2⟩ => ⟨h1, by rw [h2]; exact Below.refl _ _⟩) (by unfold maxLen; rw [show (lw0).u = 3 from rfl, text_w, digs_4]; decide)
  rw [show (lw0).u = 3 from rfl, text_w, digs_4] at h
  exact h
set_option maxRecDepth 100000 in
set_option maxHeartbeats 2000000 in
theorem awake_any (w : World) (hT : BTab w) :
    Calls Tryd.prog 10 #[] w fun e w' => e = .returned (.bool true) ∧ Below w.heap.size w w' := by
  have HT := Lib.hid hT
  clear hT
  go_enter Tryd.func10, Tryd.ntmps10
  go_wp2_with fail
  refine (new_any _ _ 2 2 [lw0, lw1] rfl (by unfold maxLen; omega) (lw_row w _) lw_ok).mono ?_
  rintro e w1 ⟨hx, ⟨_, p1, b1, m1, hp1, hbb1, hm1, rfl, hI1⟩ | ⟨hno, _⟩⟩
  rotate_left
  · exact absurd okN_w hno
  have hbw1 : Below w.heap.size w w1 := ((Below.refl w.heap.size w).alloc (Nat.le_refl _) _).trans (hx.mono (by simp))
  have HB1 := Lib.hid hbw1
  have HI1 : Aside _ := hI1
  have hm2 : m1 ≤ 2 := by simpa using hm1
  have hp2 : w.heap.size + 1 ≤ p1 := by simpa using hp1
  have hbb2 : w.heap.size + 1 ≤ b1 := by simpa using hbb1
  clear hx hbw1 hI1 hm1 hp1 hbb1
  go_wp2_with fail
  refine (next_go w1 p1 b1 m1 _ 3 (by decide) HI1.out (by unfold maxLen; omega) (by rw [last_w.1]; decide)).mono ?_
  rintro e w2 ⟨rfl, hI2, hg2⟩
  have HI2 : Aside _ := hI2
  have HB2 := Lib.hid (HB1.out.grown hg2 HB1.out.size (fun j hj => by cases hj; omega))
  rw [last_w.1]
  clear hI2 hg2 HI1 HB1
  go_wp2_with fail
  refine (next_go w2 p1 b1 (m1 + 1) _ 9 (by decide) HI2.out (by unfold maxLen; omega) (by rw [upd_other _ _ (by decide), last_w.2.1]; decide)).mono ?_
  rintro e w3 ⟨rfl, hI3, hg3⟩
  have HI3 : Aside _ := hI3
  have HB3 := Lib.hid (HB2.out.grown hg3 HB2.out.size (fun j hj => by cases hj; omega))
  rw [upd_other _ _ (by decide), last_w.2.1]
  clear hI3 hg3 HI2 HB2
  go_wp2_with fail
  refine (last_any _ _ _ _ _ 0 (by decide) HI3.out).mono ?_
  rintro e w' ⟨rfl, rfl⟩
  rw [upd_other _ _ (by decide), upd_other _ _ (by decide), last_w.2.2]
  go_wp2_with fail
  refine (text_34 w3 (HT.out.below HB3.out)).mono ?_
  rintro e w4 ⟨rfl, hb4⟩
  have HB4 := Lib.hid (HB3.out.trans (hb4.mono HB3.out.size))
  clear hb4
  go_wp2_with fail
  go_ret
  exact ⟨rfl, HB4.out⟩
end Go.Proofs.YtbcfmckhgjcakaaDoor
