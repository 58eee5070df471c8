/- Texts of the proof, merged: Cut, Text, Name, Works. -/
import Derived.Test.YtfkkodcppaakjaaGreatDoorRd6
import Derived.Test.YtfkkodcppaakjaaGreatDoorRd10
import Derived.Test.YtfkkodcppaakjaaGreatDoorRd11
/- lines.Cut, by its contracts: no bytes; a text that does not end with 0A; one that does. -/
namespace Go.Proofs.YtfkkodcppaakjaaGreatDoor
open Go.RowKit

/-- The library's variable holds some number. -/
def MaxS (w : World) : Prop := ∃ m : Int, w.cell? ⟨0, 0, none⟩ = some (.int .i64 m)
theorem MaxS.below {w w' : World} (h : MaxS w) (hb : Below w.heap.size w w') : MaxS w' := by
  obtain ⟨m, hm⟩ := h
  have hlt := World.block_lt_of_cell? w _ hm
  exact ⟨m, (hb.cell (p := ⟨0, 0, none⟩) hlt).trans hm⟩
theorem MaxS.of_shaped {w : World} (h : w.ShapedOpen Tryz.prog) : MaxS w := Tryz.laysM146.s1_3 w h

set_option maxHeartbeats 400000 in
theorem cut_empty (s : ByteArray) (w : World) (h0 : ¬ 1 ≤ s.size) :
    Calls Tryz.prog 82 #[.string s] w fun e w' => e = .returned (.tuple #[.slice none 0 0, .int .i64 0]) ∧ w = w' := by
  obtain ⟨hne, hne2⟩ := bytes_none s h0
  clear h0
  go_enter Tryz.func82, Tryz.ntmps82
  go_wp2
  go_ret2
  exact ⟨rfl, rfl⟩

set_option maxHeartbeats 400000 in
theorem cut_bad (s : ByteArray) (w : World) (hs : s.size ≤ maxLen) (h0 : 1 ≤ s.size) (hl : (s.data.toList.getLast? == some 10) = false) :
    Calls Tryz.prog 82 #[.string s] w fun e w' => e = .returned (.tuple #[.slice none 0 0, .int .i64 4]) ∧ w = w' := by
  obtain ⟨hne, hne2⟩ := bytes_some s h0
  have hC := flipW (Tryz.strings_CutSuffix s ⟨#[10]⟩ w hs)
  rw [show (⟨#[10]⟩ : ByteArray).data.toList = [10] from rfl, suffix_last, hl] at hC
  generalize (⟨(Lib.trimSuffix s.data.toList [10]).toArray⟩ : ByteArray) = B at *
  clear h0 hl hs
  go_enter Tryz.func82, Tryz.ntmps82
  go_wp2_with (go_at_call 77; refine hC.mono ?_; rintro e w' ⟨rfl, rfl⟩)
  go_ret2
  exact ⟨rfl, rfl⟩

/-- The block that the pieces lie in. -/
def rowOf (ls : List (List UInt8)) : Obj := .cells ((asTexts ls).map Value.string).toArray 9

set_option maxHeartbeats 1000000 in
theorem cut_good (s : ByteArray) (w : World) (hs : s.size < 4294967281) (hm : MaxS w) (h0 : 1 ≤ s.size) (hl : (s.data.toList.getLast? == some 10) = true) :
    Calls Tryz.prog 82 #[.string s] w fun e w' => e = .returned (.tuple #[.slice (some ⟨w.heap.size, 0, none⟩) (piecesL s.data.toList.dropLast).length (piecesL s.data.toList.dropLast).length, .int .i64 0]) ∧ w' = w.alloc (rowOf (piecesL s.data.toList.dropLast)) := by
  obtain ⟨hne, hne2⟩ := bytes_some s h0
  have hC := flipW (Tryz.strings_CutSuffix s ⟨#[10]⟩ w (by omega))
  rw [show (⟨#[10]⟩ : ByteArray).data.toList = [10] from rfl, suffix_last, hl, trim_last _ hl] at hC
  obtain ⟨B, hB⟩ : ∃ B : ByteArray, (⟨s.data.toList.dropLast.toArray⟩ : ByteArray) = B := ⟨_, rfl⟩
  have hBl : B.data.toList = s.data.toList.dropLast := by rw [← hB]
  have hBs : B.size < 4294967281 := by
    rw [← len_size B, hBl, List.length_dropLast, len_size]; omega
  obtain ⟨m, hm⟩ := hm
  have hS := Tryz.strings_Split B nl m w hBs hm (by decide)
  obtain ⟨e1, e2⟩ := split_texts B
  rw [e1, e2, hBl] at hS
  rw [hB] at hC
  change Calls Tryz.prog 124 #[.string B, .string ⟨#[10]⟩] w fun e w' => _ ∧ w' = w.alloc (rowOf (piecesL s.data.toList.dropLast)) at hS
  generalize (piecesL s.data.toList.dropLast).length = n at *
  generalize rowOf (piecesL s.data.toList.dropLast) = o at *
  clear e1 e2 hB hBl hBs hs h0 hl hm
  go_enter Tryz.func82, Tryz.ntmps82
  go_wp2_with (first
    | (go_at_call 77; refine hC.mono ?_; rintro e w' ⟨rfl, rfl⟩)
    | (go_at_call 124; refine hS.mono ?_; rintro e w' ⟨rfl, rfl⟩))
  go_ret2
  exact ⟨rfl, rfl⟩
end Go.Proofs.YtfkkodcppaakjaaGreatDoor
/- lines.Text, by its contract. -/
namespace Go.Proofs.YtfkkodcppaakjaaGreatDoor
open Go.RowKit

end Go.Proofs.YtfkkodcppaakjaaGreatDoor
/- lines.Name, by its contract. -/
namespace Go.Proofs.YtfkkodcppaakjaaGreatDoor
open Go.RowKit

/-- 'foreign', as ContainsFunc asks it. -/
theorem foreign_at (w : World) : Go.Proofs.PredAt Tryz.prog 130 #[] Go.Proofs.encR foreignR w := fun W r _ => by
  unfold FnGives
  rcases (by omega : r < 45 ∨ r = 45 ∨ (45 < r ∧ r < 48) ∨ (48 ≤ r ∧ r ≤ 57) ∨ (57 < r ∧ r < 95) ∨ r = 95 ∨ r = 96 ∨ (97 ≤ r ∧ r ≤ 122) ∨ 122 < r) with h | h | ⟨h, g⟩ | ⟨h, g⟩ | ⟨h, g⟩ | h | h | ⟨h, g⟩ | h
  all_goals
    obtain ⟨b, hb⟩ : ∃ b, foreignR r = b := ⟨_, rfl⟩
    have he := Lib.hid hb
    rw [hb]; clear hb
    go_enter Tryz.func130, Tryz.ntmps130
    go_wp2
    go_ret
    have hf := he.out
    unfold foreignR at hf
    exact ⟨ret_bool (by rw [← hf, Bool.eq_iff_iff]; simp; omega), 0, rfl⟩

set_option maxHeartbeats 400000 in
theorem name_any (s : ByteArray) (w : World) (hs : s.size ≤ maxLen) :
    Calls Tryz.prog 85 #[.string s] w fun e w' => e = .returned (.bool (nameL s.data.toList)) ∧ Below w.heap.size w w' := by
  unfold maxLen at hs
  have hC := fun W => Tryz.strings_ContainsFunc 130 #[] (enters_of Tryz.func130 (by kernel_rfl) rfl) foreignR s W (foreign_at W)
  by_cases h0 : 1 ≤ s.size
  · obtain ⟨hne, hne2⟩ := bytes_some s h0
    by_cases h : s.size ≤ 32
    · have he := Lib.hid (name_short s h0 h)
      obtain ⟨b, hb⟩ : ∃ b, Lib.idxFunc foreignR true s = b := ⟨_, rfl⟩
      rw [hb] at hC he
      clear hb
      go_enter Tryz.func85, Tryz.ntmps85
      go_wp2_with (go_at_call 129; refine (hC _).mono ?_; rintro e w' ⟨rfl, hb⟩)
      go_ret
      exact ⟨ret_bool he.out.symm, hb⟩
    · have he := Lib.hid (name_long s h)
      clear hC
      go_enter Tryz.func85, Tryz.ntmps85
      go_wp2
      go_ret
      exact ⟨ret_bool he.out.symm, Below.refl _ _⟩
  · have he := Lib.hid (name_empty s h0)
    clear hC
    obtain ⟨hne, hne2⟩ := bytes_none s h0
    go_enter Tryz.func85, Tryz.ntmps85
    go_wp2
    go_ret
    exact ⟨ret_bool he.out.symm, Below.refl _ _⟩
end Go.Proofs.YtfkkodcppaakjaaGreatDoor
/- 'works', what each outright statement asks first: it returns true. -/
namespace Go.Proofs.YtfkkodcppaakjaaGreatDoor
open Go.RowKit

/-- W has grown out of w, and the library's variables hold what they held. -/
def Wd (w W : World) : Prop := Tabs W ∧ MaxS W ∧ Below w.heap.size w W
theorem Wd.drew {w W : World} (h : Wd w W) : Wd w W.drew := ⟨h.1, h.2.1, h.2.2.drew⟩
theorem Wd.next {w W W' : World} (hb : Below W.heap.size W W') (h : Wd w W) : Wd w W' := ⟨h.1.below hb, h.2.1.below hb, h.2.2.trans (hb.mono h.2.2.size)⟩
/-- A contract at every world that has grown out of w. -/
def Tells (w : World) (f : Nat) (args : Array Value) (v : Value) : Prop := ∀ W, Wd w W → Calls Tryz.prog f args W fun e w' => e = .returned v ∧ Wd w w'
theorem tells_of {w : World} {f : Nat} {args : Array Value} {v : Value} (h : ∀ W, Wd w W → Calls Tryz.prog f args W fun e w' => e = .returned v ∧ Below W.heap.size W w') : Tells w f args v :=
  fun W hW => (h W hW).mono fun _ _ ⟨h1, h2⟩ => ⟨h1, Wd.next h2 hW⟩
theorem tells_same {w : World} {f : Nat} {args : Array Value} {v : Value} (h : ∀ W, Calls Tryz.prog f args W fun e w' => e = .returned v ∧ W = w') : Tells w f args v :=
  fun W hW => (h W).mono fun _ _ ⟨h1, h2⟩ => ⟨h1, h2 ▸ hW⟩

theorem tell_name (w : World) (l : List UInt8) (b : Bool) (hl : l.length ≤ 1000) (hb : nameL l = b) : Tells w 85 #[.string ⟨l.toArray⟩] (.bool b) :=
  tells_of fun W _ => by
    have := name_any ⟨l.toArray⟩ W (by rw [← len_size]; unfold maxLen; show l.length ≤ _; omega)
    rw [show (⟨l.toArray⟩ : ByteArray).data.toList = l from rfl, hb] at this
    exact this
theorem itoa_small (u : Nat) (h : u < 10) : Lib.itoa (u : Int) = [UInt8.ofNat (48 + u)] := by rw [Lib.itoa_nonneg, dec_small h]

theorem works_cut (w W : World) (hW : Wd w W) : Calls Tryz.prog 82 #[.string ⟨#[97, 10, 10]⟩] W fun e w' => ∃ b, e = .returned (.tuple #[.slice (some ⟨b, 0, none⟩) 2 2, .int .i64 0]) ∧
    w'.cell? ⟨b, 0, none⟩ = some (.string ⟨#[97]⟩) ∧ w'.cell? ⟨b, 1, none⟩ = some (.string ⟨#[]⟩) ∧ Wd w w' := by
  refine (cut_good ⟨#[97, 10, 10]⟩ W (by decide) hW.2.1 (by decide) (by decide)).mono fun e w' ⟨he, hw⟩ => ⟨W.heap.size, he, ?_, ?_, ?_⟩
  · rw [hw]; show (W.alloc (.cells #[.string ⟨#[97]⟩, .string ⟨#[]⟩] _)).cell? _ = _; simp
  · rw [hw]; show (W.alloc (.cells #[.string ⟨#[97]⟩, .string ⟨#[]⟩] _)).cell? _ = _; simp
  · rw [hw]; exact Wd.next ((Below.refl _ _).alloc (Nat.le_refl _) _) hW

end Go.Proofs.YtfkkodcppaakjaaGreatDoor
