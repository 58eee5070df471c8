/- The closed law IdentNames by a walk over the contracts. -/
import Derived.Test.YtbcfmckhgjcakaaIdNext
namespace Go.Proofs.Ytbcfmckhgjcakaa
open Go Go.RowKit Go.Maps

theorem okN_nil : okN [] := ⟨rfl, fun x hx => by simp at hx⟩
def lnz : Li := ⟨0, 4611686018427387904, 0, ⟨#[]⟩⟩
theorem lnz_ok : LiOk lnz := ⟨by decide, WalkArith.wf_i64 (by decide), WalkArith.wf_i64 (by decide), by unfold maxLen; simp [lnz, ByteArray.size]⟩
theorem okN_z : okN [lnz] := ⟨tw_none fun j hj => by
  obtain rfl : j = 0 := by simpa using hj
  unfold hitAt
  rw [decide_eq_false_iff_not, List.take_zero]
  simp [idsOf], fun x hx => by
  obtain rfl := List.mem_singleton.1 hx
  exact ⟨by decide, by decide⟩⟩
theorem lnz_row (w : World) (T : TypeId) : LiRow (w.alloc (.cells #[.int .u64 0, .int .i64 4611686018427387904, .int .i64 0, .string ⟨#[]⟩] T)) (some ⟨w.heap.size, 0, none⟩) [lnz] := fun i hi => by
  obtain rfl : i = 0 := by simpa using hi
  refine ⟨w.heap.size, 0, rfl, by simp, ?_⟩
  refine ⟨?_, ?_, ?_, ?_⟩ <;> (rw [World.cell?_alloc_mark]; rfl)
theorem last_z : lastF [lnz] 0 = 4611686018427387904 ∧ lastF [lnz] 1 = 0 := by decide
set_option maxRecDepth 100000 in
set_option maxHeartbeats 1000000 in
theorem identNames_any (w : World) :
    Calls Try.prog 5 #[] w fun e w' => e = .returned (.bool true) ∧ Below w.heap.size w w' := by
  go_enter Try.func5, Try.ntmps5
  go_wp2_with fail
  refine (next_nil 3 _).mono ?_
  rintro e w' ⟨rfl, rfl⟩
  go_wp2_with fail
  refine (new_any w none 0 0 [] rfl (by unfold maxLen; omega) (liRow_nil _ _) (fun x hx => by simp at hx)).mono ?_
  rintro e w1 ⟨hb1, ⟨_, p1, b1, m1, _, _, hm1, rfl, hI1⟩ | ⟨hno, _⟩⟩
  rotate_left
  · exact absurd okN_nil hno
  have HB1 := Lib.hid hb1
  have hp1 := hI1.lt
  have hl1 := hI1.ltb
  have HI1 : Aside _ := hI1
  clear hb1 hI1
  go_wp2_with fail
  refine (new_any _ _ 1 1 [lnz] rfl (by unfold maxLen; omega) (lnz_row w1 _) (fun x hx => by obtain rfl := List.mem_singleton.1 hx; exact lnz_ok)).mono ?_
  rintro e w2 ⟨hx, ⟨_, p2, b2, m2, hp2, hb2', hm2, rfl, hI2⟩ | ⟨hno, _⟩⟩
  rotate_left
  · exact absurd okN_z hno
  have hbb := (Below.refl w1.heap.size w1).alloc (Nat.le_refl _) (.cells #[.int .u64 0, .int .i64 4611686018427387904, .int .i64 0, .string ⟨#[]⟩] 27)
  have HI2' : Aside _ := HI1.out.later (hbb.trans (hx.mono (by simp)))
  have HB2 := Lib.hid (HB1.out.trans ((hbb.trans (hx.mono (by simp))).mono HB1.out.size))
  have HI2 : Aside _ := hI2
  have hp2' : w1.heap.size + 1 ≤ p2 := by simpa using hp2
  have hl2' : w1.heap.size + 1 ≤ b2 := by simpa using hb2'
  clear hx hI2 HI1 HB1 hbb hp2 hb2'
  go_wp2_with fail
  refine (next_full w2 p2 b2 m2 _ 0 (by decide) HI2.out last_z.1).mono ?_
  rintro e w' ⟨rfl, rfl⟩
  go_wp2_with fail
  refine (next_go w2 p2 b2 m2 _ 1 (by decide) HI2.out (by unfold maxLen; simp at hm2; omega) (by rw [last_z.2]; decide)).mono ?_
  rintro e w3 ⟨rfl, hI3, hg3⟩
  have HI3 : Aside _ := hI3
  have HI1 : Aside _ := HI2'.out.keep hg3.size (hg3.block _ HI2'.out.lt (by simp; omega)) (hg3.block _ HI2'.out.ltb (by simp; omega))
  have hs1 := HB2.out.size
  have HB3 := Lib.hid (HB2.out.grown hg3 HB2.out.size (fun j hj => by cases hj; omega))
  rw [last_z.2]
  clear hI3 hg3 HI2' HI2 HB2
  go_wp2_with fail
  refine (last_nil 3 _).mono ?_
  rintro e w' ⟨rfl, rfl⟩
  go_wp2_with fail
  refine (copy_nil _).mono ?_
  rintro e w' ⟨rfl, rfl⟩
  go_wp2_with fail
  refine (last_any _ _ _ _ _ 0 (by decide) HI1.out).mono ?_
  rintro e w' ⟨rfl, rfl⟩
  rw [show lastF [] 0 = 0 from rfl]
  go_wp2_with fail
  refine (last_any _ _ _ _ _ 0 (by decide) HI3.out).mono ?_
  rintro e w' ⟨rfl, rfl⟩
  rw [upd_other _ _ (by decide), last_z.1]
  go_wp2_with fail
  go_ret
  exact ⟨rfl, HB3.out⟩
end Go.Proofs.Ytbcfmckhgjcakaa
