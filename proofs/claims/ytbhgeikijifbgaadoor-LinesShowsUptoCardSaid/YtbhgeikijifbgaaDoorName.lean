/- lines.Name, by its contract. -/
import Derived.Test.YtbhgeikijifbgaaDoorBase
namespace Go.Proofs.YtbhgeikijifbgaaDoor
open Go.RowKit

/-- 'foreign', as ContainsFunc asks it. -/
theorem foreign_at (w : World) : Go.Proofs.PredAt Tryd.prog 28 #[] Go.Proofs.encR foreignR w := fun W r _ => by
  unfold FnGives
  rcases (by omega : r < 45 ∨ r = 45 ∨ (45 < r ∧ r < 48) ∨ (48 ≤ r ∧ r ≤ 57) ∨ (57 < r ∧ r < 95) ∨ r = 95 ∨ r = 96 ∨ (97 ≤ r ∧ r ≤ 122) ∨ 122 < r) with h | h | ⟨h, g⟩ | ⟨h, g⟩ | ⟨h, g⟩ | h | h | ⟨h, g⟩ | h
  all_goals
    obtain ⟨b, hb⟩ : ∃ b, foreignR r = b := ⟨_, rfl⟩
    have he := Lib.hid hb
    rw [hb]; clear hb
    go_enter Tryd.func28, Tryd.ntmps28
    go_wp2
    go_ret
    have hf := he.out
    unfold foreignR at hf
    exact ⟨ret_bool (by rw [← hf, Bool.eq_iff_iff]; simp; omega), 0, rfl⟩

set_option maxHeartbeats 400000 in
theorem name_any (s : ByteArray) (w : World) (hs : s.size ≤ maxLen) :
    Calls Tryd.prog 9 #[.string s] w fun e w' => e = .returned (.bool (nameL s.data.toList)) ∧ Below w.heap.size w w' := by
  unfold maxLen at hs
  have hC := fun W => Tryd.strings_ContainsFunc 28 #[] (enters_of Tryd.func28 (by kernel_rfl) rfl) foreignR s W (foreign_at W)
  by_cases h0 : 1 ≤ s.size
  · obtain ⟨hne, hne2⟩ := bytes_some s h0
    by_cases h : s.size ≤ 32
    · have he := Lib.hid (name_short s h0 h)
      obtain ⟨b, hb⟩ : ∃ b, Lib.idxFunc foreignR true s = b := ⟨_, rfl⟩
      rw [hb] at hC he
      clear hb
      go_enter Tryd.func9, Tryd.ntmps9
      go_wp2_with (go_at_call 27; refine (hC _).mono ?_; rintro e w' ⟨rfl, hb⟩)
      go_ret
      exact ⟨ret_bool he.out.symm, hb⟩
    · have he := Lib.hid (name_long s h)
      clear hC
      go_enter Tryd.func9, Tryd.ntmps9
      go_wp2
      go_ret
      exact ⟨ret_bool he.out.symm, Below.refl _ _⟩
  · have he := Lib.hid (name_empty s h0)
    clear hC
    obtain ⟨hne, hne2⟩ := bytes_none s h0
    go_enter Tryd.func9, Tryd.ntmps9
    go_wp2
    go_ret
    exact ⟨ret_bool he.out.symm, Below.refl _ _⟩
end Go.Proofs.YtbhgeikijifbgaaDoor
