/- 'works', what each outright statement asks first: it returns true. -/
import Derived.Test.YtbhgeikijifbgaaDoorRead
import Derived.Test.YtbhgeikijifbgaaDoorShow
import Derived.Test.YtbhgeikijifbgaaDoorCut
import Derived.Test.YtbhgeikijifbgaaDoorText
import Derived.Test.YtbhgeikijifbgaaDoorName
namespace Go.Proofs.YtbhgeikijifbgaaDoor
open Go.RowKit

/-- W has grown out of w, and the library's variables hold what they held. -/
def Wd (w W : World) : Prop := Tabs W ∧ MaxS W ∧ Below w.heap.size w W
theorem Wd.drew {w W : World} (h : Wd w W) : Wd w W.drew := ⟨h.1, h.2.1, h.2.2.drew⟩
theorem Wd.next {w W W' : World} (hb : Below W.heap.size W W') (h : Wd w W) : Wd w W' := ⟨h.1.below hb, h.2.1.below hb, h.2.2.trans (hb.mono h.2.2.size)⟩
/-- A contract at every world that has grown out of w. -/
def Tells (w : World) (f : Nat) (args : Array Value) (v : Value) : Prop := ∀ W, Wd w W → Calls Tryd.prog f args W fun e w' => e = .returned v ∧ Wd w w'
theorem tells_of {w : World} {f : Nat} {args : Array Value} {v : Value} (h : ∀ W, Wd w W → Calls Tryd.prog f args W fun e w' => e = .returned v ∧ Below W.heap.size W w') : Tells w f args v :=
  fun W hW => (h W hW).mono fun _ _ ⟨h1, h2⟩ => ⟨h1, Wd.next h2 hW⟩
theorem tells_same {w : World} {f : Nat} {args : Array Value} {v : Value} (h : ∀ W, Calls Tryd.prog f args W fun e w' => e = .returned v ∧ W = w') : Tells w f args v :=
  fun W hW => (h W).mono fun _ _ ⟨h1, h2⟩ => ⟨h1, h2 ▸ hW⟩

theorem tell_read (w : World) (l : List UInt8) (n e : Int) (hl : l.length ≤ 1000) (hn : readN l = n) (he : readE l = e) : Tells w 12 #[.string ⟨l.toArray⟩] (.tuple #[.int .i64 n, .int .i64 e]) :=
  tells_of fun W hW => by
    have := read_any ⟨l.toArray⟩ W (by rw [← len_size]; unfold maxLen; show l.length ≤ _; omega) hW.1
    rw [show (⟨l.toArray⟩ : ByteArray).data.toList = l from rfl, hn, he] at this
    exact this
theorem tell_show (w : World) (l r : List UInt8) (hl : l.length ≤ 1000) (hr : showL l = r) : Tells w 21 #[.string ⟨l.toArray⟩] (.string ⟨r.toArray⟩) :=
  tells_of fun W hW => by
    have := show_any ⟨l.toArray⟩ W (by rw [← len_size]; show l.length ≤ _; omega) hW.1
    rw [show (⟨l.toArray⟩ : ByteArray).data.toList = l from rfl, hr] at this
    exact this
theorem tell_shown (w : World) (l t r : List UInt8) (e : Int) (hl : l.length ≤ 1000) (ht : shownT l = t) (hr : shownR l = r) (he : shownE l = e) : Tells w 11 #[.string ⟨l.toArray⟩] (.tuple #[.string ⟨t.toArray⟩, .string ⟨r.toArray⟩, .int .i64 e]) :=
  tells_of fun W hW => by
    have := shown_any ⟨l.toArray⟩ W (by rw [← len_size]; unfold maxLen; show l.length ≤ _; omega) hW.1
    rw [show (⟨l.toArray⟩ : ByteArray).data.toList = l from rfl, ht, hr, he] at this
    exact this
theorem tell_number (w : World) (n : Int) (r : List UInt8) (h0 : -9223372036854775808 ≤ n) (h1 : n ≤ 9223372036854775807) (hr : Lib.itoa n = r) : Tells w 13 #[.int .i64 n] (.string ⟨r.toArray⟩) :=
  tells_of fun W hW => by
    have := number_any n h0 h1 W hW.1
    rw [hr] at this
    exact this
theorem tell_name (w : World) (l : List UInt8) (b : Bool) (hl : l.length ≤ 1000) (hb : nameL l = b) : Tells w 9 #[.string ⟨l.toArray⟩] (.bool b) :=
  tells_of fun W _ => by
    have := name_any ⟨l.toArray⟩ W (by rw [← len_size]; unfold maxLen; show l.length ≤ _; omega)
    rw [show (⟨l.toArray⟩ : ByteArray).data.toList = l from rfl, hb] at this
    exact this
theorem tell_text (w : World) (l : List UInt8) (b : Bool) (hl : l.length ≤ 1000) (hb : textL l = b) : Tells w 8 #[.string ⟨l.toArray⟩] (.bool b) :=
  tells_same fun W => by
    have := text_any ⟨l.toArray⟩ W (by rw [← len_size]; unfold maxLen; show l.length ≤ _; omega)
    rw [show (⟨l.toArray⟩ : ByteArray).data.toList = l from rfl, hb] at this
    exact this

theorem itoa_small (u : Nat) (h : u < 10) : Lib.itoa (u : Int) = [UInt8.ofNat (48 + u)] := by rw [Lib.itoa_nonneg, dec_small h]

theorem works_cut (w W : World) (hW : Wd w W) : Calls Tryd.prog 19 #[.string ⟨#[97, 10, 10]⟩] W fun e w' => ∃ b, e = .returned (.tuple #[.slice (some ⟨b, 0, none⟩) 2 2, .int .i64 0]) ∧
    w'.cell? ⟨b, 0, none⟩ = some (.string ⟨#[97]⟩) ∧ w'.cell? ⟨b, 1, none⟩ = some (.string ⟨#[]⟩) ∧ Wd w w' := by
  refine (cut_good ⟨#[97, 10, 10]⟩ W (by decide) hW.2.1 (by decide) (by decide)).mono fun e w' ⟨he, hw⟩ => ⟨W.heap.size, he, ?_, ?_, ?_⟩
  · rw [hw]; show (W.alloc (.cells #[.string ⟨#[97]⟩, .string ⟨#[]⟩] _)).cell? _ = _; simp
  · rw [hw]; show (W.alloc (.cells #[.string ⟨#[97]⟩, .string ⟨#[]⟩] _)).cell? _ = _; simp
  · rw [hw]; exact Wd.next ((Below.refl _ _).alloc (Nat.le_refl _) _) hW

set_option maxRecDepth 100000 in
set_option maxHeartbeats 2000000 in
theorem works_any (w : World) : Tells w 7 #[] (.bool true) := by
  intro w0 hw0
  have c1 := tell_read w [45, 49, 50] (-12) 0 (by decide) (by kernel_rfl) (by kernel_rfl)
  have c2 := tell_show w [104, 105] [50, 58, 104, 105] (by decide) (by unfold showL; rw [show ((([104, 105] : List UInt8).length : Nat) : Int) = ((2 : Nat) : Int) from rfl, itoa_small 2 (by decide)]; rfl)
  have c3 := tell_shown w [50, 58, 104, 105, 33] [104, 105] [33] 0 (by decide) (by kernel_rfl) (by kernel_rfl) (by kernel_rfl)
  have c4 := works_cut w
  have c5 := tell_number w 7 [55] (by decide) (by decide) (itoa_small 7 (by decide))
  have c6 := tell_name w [97] true (by decide) (by kernel_rfl)
  have c7 := tell_text w [] true (by decide) (by kernel_rfl)
  have c8 := tell_text w [10] false (by decide) (by kernel_rfl)
  go_enter Tryd.func7, Tryd.ntmps7
  go_wp2_with fail
  refine (c1 _ hw0).mono ?_
  rintro e w1 ⟨rfl, hw1⟩
  go_wp2_with fail
  refine (c2 _ hw1).mono ?_
  rintro e w2 ⟨rfl, hw2⟩
  go_wp2_with fail
  rw [show (⟨#[50, 58, 104, 105]⟩ ++ ⟨#[33]⟩ : ByteArray) = ⟨#[50, 58, 104, 105, 33]⟩ from rfl]
  refine (c3 _ hw2).mono ?_
  rintro e w3 ⟨rfl, hw3⟩
  go_wp2_with fail
  refine (c4 _ hw3).mono ?_
  rintro e w4 ⟨b, rfl, hc0, hc1, hw4⟩
  go_wp2_with fail
  refine (c5 _ hw4).mono ?_
  rintro e w5 ⟨rfl, hw5⟩
  go_wp2_with fail
  refine (c6 _ hw5).mono ?_
  rintro e w6 ⟨rfl, hw6⟩
  go_wp2_with fail
  refine (c7 _ hw6).mono ?_
  rintro e w7 ⟨rfl, hw7⟩
  go_wp2_with fail
  refine (c8 _ hw7).mono ?_
  rintro e w8 ⟨rfl, hw8⟩
  go_wp2_with fail
  go_ret
  exact ⟨rfl, hw8⟩
end Go.Proofs.YtbhgeikijifbgaaDoor
