/- lines.Cut, by its contracts: no bytes; a text that does not end with 0A; one that does. -/
import Derived.Test.YtbhgeikijifbgaaDoorBase
import Derived.Test.YtbhgeikijifbgaaDoorPieces
import Derived.Test.YtbhgeikijifbgaaDoorTake
namespace Go.Proofs.YtbhgeikijifbgaaDoor
open Go.RowKit

/-- The library's variable holds some number. -/
def MaxS (w : World) : Prop := ∃ m : Int, w.cell? ⟨0, 0, none⟩ = some (.int .i64 m)
theorem MaxS.below {w w' : World} (h : MaxS w) (hb : Below w.heap.size w w') : MaxS w' := by
  obtain ⟨m, hm⟩ := h
  have hlt := World.block_lt_of_cell? w _ hm
  exact ⟨m, (hb.cell (p := ⟨0, 0, none⟩) hlt).trans hm⟩
theorem MaxS.of_shaped {w : World} (h : w.ShapedOpen Tryd.prog) : MaxS w := Tryd.laysM146.s1_3 w h

set_option maxHeartbeats 400000 in
theorem cut_empty (s : ByteArray) (w : World) (h0 : ¬ 1 ≤ s.size) :
    Calls Tryd.prog 19 #[.string s] w fun e w' => e = .returned (.tuple #[.slice none 0 0, .int .i64 0]) ∧ w = w' := by
  obtain ⟨hne, hne2⟩ := bytes_none s h0
  clear h0
  go_enter Tryd.func19, Tryd.ntmps19
  go_wp2
  go_ret2
  exact ⟨rfl, rfl⟩

set_option maxHeartbeats 400000 in
theorem cut_bad (s : ByteArray) (w : World) (hs : s.size ≤ maxLen) (h0 : 1 ≤ s.size) (hl : (s.data.toList.getLast? == some 10) = false) :
    Calls Tryd.prog 19 #[.string s] w fun e w' => e = .returned (.tuple #[.slice none 0 0, .int .i64 4]) ∧ w = w' := by
  obtain ⟨hne, hne2⟩ := bytes_some s h0
  have hC := flipW (Tryd.strings_CutSuffix s ⟨#[10]⟩ w hs)
  rw [show (⟨#[10]⟩ : ByteArray).data.toList = [10] from rfl, suffix_last, hl] at hC
  generalize (⟨(Lib.trimSuffix s.data.toList [10]).toArray⟩ : ByteArray) = B at *
  clear h0 hl hs
  go_enter Tryd.func19, Tryd.ntmps19
  go_wp2_with (go_at_call 32; refine hC.mono ?_; rintro e w' ⟨rfl, rfl⟩)
  go_ret2
  exact ⟨rfl, rfl⟩

/-- The block that the pieces lie in. -/
def rowOf (ls : List (List UInt8)) : Obj := .cells ((asTexts ls).map Value.string).toArray 9

set_option maxHeartbeats 1000000 in
theorem cut_good (s : ByteArray) (w : World) (hs : s.size < 4294967281) (hm : MaxS w) (h0 : 1 ≤ s.size) (hl : (s.data.toList.getLast? == some 10) = true) :
    Calls Tryd.prog 19 #[.string s] w fun e w' => e = .returned (.tuple #[.slice (some ⟨w.heap.size, 0, none⟩) (piecesL s.data.toList.dropLast).length (piecesL s.data.toList.dropLast).length, .int .i64 0]) ∧ w' = w.alloc (rowOf (piecesL s.data.toList.dropLast)) := by
  obtain ⟨hne, hne2⟩ := bytes_some s h0
  have hC := flipW (Tryd.strings_CutSuffix s ⟨#[10]⟩ w (by omega))
  rw [show (⟨#[10]⟩ : ByteArray).data.toList = [10] from rfl, suffix_last, hl, trim_last _ hl] at hC
  obtain ⟨B, hB⟩ : ∃ B : ByteArray, (⟨s.data.toList.dropLast.toArray⟩ : ByteArray) = B := ⟨_, rfl⟩
  have hBl : B.data.toList = s.data.toList.dropLast := by rw [← hB]
  have hBs : B.size < 4294967281 := by
    rw [← len_size B, hBl, List.length_dropLast, len_size]; omega
  obtain ⟨m, hm⟩ := hm
  have hS := Tryd.strings_Split B nl m w hBs hm (by decide)
  obtain ⟨e1, e2⟩ := split_texts B
  rw [e1, e2, hBl] at hS
  rw [hB] at hC
  change Calls Tryd.prog 33 #[.string B, .string ⟨#[10]⟩] w fun e w' => _ ∧ w' = w.alloc (rowOf (piecesL s.data.toList.dropLast)) at hS
  generalize (piecesL s.data.toList.dropLast).length = n at *
  generalize rowOf (piecesL s.data.toList.dropLast) = o at *
  clear e1 e2 hB hBl hBs hs h0 hl hm
  go_enter Tryd.func19, Tryd.ntmps19
  go_wp2_with (first
    | (go_at_call 32; refine hC.mono ?_; rintro e w' ⟨rfl, rfl⟩)
    | (go_at_call 33; refine hS.mono ?_; rintro e w' ⟨rfl, rfl⟩))
  go_ret2
  exact ⟨rfl, rfl⟩
end Go.Proofs.YtbhgeikijifbgaaDoor
