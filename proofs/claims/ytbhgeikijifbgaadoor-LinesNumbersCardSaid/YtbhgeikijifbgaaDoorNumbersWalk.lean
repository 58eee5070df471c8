/- The law LinesNumbers by a walk over the contracts. -/
import Derived.Test.YtbhgeikijifbgaaDoorReads
import Derived.Test.YtbhgeikijifbgaaDoorRefNumber
namespace Go.Proofs.YtbhgeikijifbgaaDoor
open Go.RowKit

theorem Quiet.below {w w' : World} (h : Quiet w w') : Below w.heap.size w w' := by
  obtain ⟨n, rfl⟩ := h
  exact below_drewN' (Below.refl _ _) n

/-- A contract at every world that has grown out of w. -/
def Says (w : World) (f : Nat) (args : Array Value) (v : Value) : Prop := ∀ W, NumS w W → Calls Tryd.prog f args W fun e w' => e = .returned v ∧ NumS w w'
theorem says_of {w : World} {f : Nat} {args : Array Value} {v : Value} (h : ∀ W, NumS w W → Calls Tryd.prog f args W fun e w' => e = .returned v ∧ Below W.heap.size W w') : Says w f args v :=
  fun W hW => (h W hW).mono fun _ _ ⟨h1, h2⟩ => ⟨h1, NumS.next h2 hW⟩

set_option maxHeartbeats 2000000 in
theorem linesNumbers_any (n : Int) (s : ByteArray) (w : World) (h0 : -9223372036854775808 ≤ n) (h1 : n ≤ 9223372036854775807) (hs : s.size ≤ maxLen) (ht : Tabs w) :
    Calls Tryd.prog 4 #[.int .i64 n, .string s] w fun e w' => e = .returned (.bool true) ∧ Below w.heap.size w w' := by
  have hw0 : NumS w w := ⟨ht, Below.refl _ _⟩
  have c1 : Says w 12 #[.string s] _ := says_of fun W hW => read_any s W hs hW.1
  have c2 : Says w 14 #[.string s] _ := says_of fun W hW => (refRead_any s W hs).mono fun _ _ ⟨a, b⟩ => ⟨a, b.below⟩
  have c3 : Says w 15 #[.string s] _ := says_of fun W hW => take_any s W hs hW.1
  have c4 : Says w 16 #[.string s] _ := says_of fun W hW => (refTake_any s W hs).mono fun _ _ ⟨a, b⟩ => ⟨a, b.below⟩
  have c5 : Says w 13 #[.int .i64 n] _ := says_of fun W hW => number_any n h0 h1 W hW.1
  have c6 : Says w 17 #[.int .i64 n] _ := says_of fun W hW => refNumber_any n h0 h1 W
  generalize readN s.data.toList = x1 at *
  generalize readE s.data.toList = x2 at *
  generalize takeN s.data.toList = x3 at *
  generalize (⟨(takeT s.data.toList).toArray⟩ : ByteArray) = x4 at *
  generalize takeE s.data.toList = x5 at *
  generalize (⟨(Lib.itoa n).toArray⟩ : ByteArray) = x6 at *
  clear h0 h1 hs ht
  go_enter Tryd.func4, Tryd.ntmps4
  go_wp2_with (first
    | (go_at_call 12; refine (c1 _ (by assumption)).mono ?_; rintro e w' ⟨rfl, hw⟩)
    | (go_at_call 14; refine (c2 _ (by assumption)).mono ?_; rintro e w' ⟨rfl, hw⟩)
    | (go_at_call 15; refine (c3 _ (by assumption)).mono ?_; rintro e w' ⟨rfl, hw⟩)
    | (go_at_call 16; refine (c4 _ (by assumption)).mono ?_; rintro e w' ⟨rfl, hw⟩)
    | (go_at_call 13; refine (c5 _ (by assumption)).mono ?_; rintro e w' ⟨rfl, hw⟩)
    | (go_at_call 17; refine (c6 _ (by assumption)).mono ?_; rintro e w' ⟨rfl, hw⟩))
  go_ret
  exact ⟨rfl, hw.2⟩
end Go.Proofs.YtbhgeikijifbgaaDoor
