/- The law LabelTexts by a walk over the contracts. -/
import Derived.Test.YtglpkadpohbfmaaDoorLbParse
import Derived.Test.YtglpkadpohbfmaaDoorLbRefParse
namespace Go.Proofs.YtglpkadpohbfmaaDoor
open Go.RowKit

set_option maxRecDepth 100000 in
set_option maxHeartbeats 2000000 in
theorem labelTexts_any (a : Nat) (s : ByteArray) (w : World) (ha : a < 18446744073709551616) (hs : s.size ≤ 281474976710656) (hT : BTab w) (hE : EvW w) :
    Calls Tryd.prog 5 #[.int .u64 a, .string s] w fun e w' => e = .returned (.bool true) ∧ Below w.heap.size w w' := by
  have c1 := refParse_any s w (by unfold maxLen; omega)
  have c2 := fun W hT hE => parse_any s W hs hT hE
  have c3 := fun W hT => text_any a W ha hT
  have c4 := fun W => refText_any a W ha
  generalize (⟨(textN a).toArray⟩ : ByteArray) = tx at *
  go_enter Tryd.func5, Tryd.ntmps5
  go_wp2_with fail
  refine c1.mono ?_
  rintro e w1 ⟨x, ex, rfl, hr1, hb1⟩
  have hT1 := hT.below hb1
  have hE1 := hE.below hb1
  clear c1
  go_wp2_with fail
  refine (c2 w1 hT1 hE1).mono ?_
  rintro e w2 ⟨y, ey, rfl, hr2, hb2⟩
  obtain ⟨rfl, rfl⟩ := readAs_one hr2 hr1
  have hbw2 := hb1.trans (hb2.mono hb1.size)
  have hT2 := hT.below hbw2
  clear c2 hr1 hr2 hb1 hb2 hT1 hE1
  go_wp2_with fail
  refine (c3 w2 hT2).mono ?_
  rintro e w3 ⟨rfl, hb3⟩
  have hbw3 := hbw2.trans (hb3.mono hbw2.size)
  clear c3 hb3 hbw2 hT2
  go_wp2_with fail
  refine (c4 w3).mono ?_
  rintro e w4 ⟨rfl, hb4⟩
  have hbw4 := hbw3.trans (hb4.mono hbw3.size)
  clear c4 hb4 hbw3
  go_wp2_with fail
  go_ret
  exact ⟨rfl, hbw4⟩
end Go.Proofs.YtglpkadpohbfmaaDoor
