/- The law LabelLattice by a walk over the contracts. -/
import Derived.Test.YtglpkadpohbfmaaDoorAwake
import Derived.Test.YtglpkadpohbfmaaDoorLattP
import Derived.Test.YtglpkadpohbfmaaDoorLbJoin
import Derived.Deep.DeepCutAuto
namespace Go.Proofs.YtglpkadpohbfmaaDoor
open Go.RowKit

set_option maxRecDepth 100000 in
set_option maxHeartbeats 8000000 in
theorem labelLattice_any (a b c : Nat) (w : World) (ha : a < 18446744073709551616) (hb : b < 18446744073709551616) (hc : c < 18446744073709551616) (hT : BTab w) :
    Calls Tryd.prog 7 #[.int .u64 a, .int .u64 b, .int .u64 c] w fun e w' => e = .returned (.bool true) ∧ Below w.heap.size w w' := by
  have cA := awake_any w hT
  have hanti := Lib.hid (below_anti a b ha hb)
  have htr := Lib.hid (below_trans a b c)
  have hlub := Lib.hid (below_lub a b c)
  have hglb := Lib.hid (below_glb a b c)
  have hraa := Lib.hid (below_refl a)
  have hol := Lib.hid (below_orl a b)
  have hor := Lib.hid (below_orr a b)
  have hal := Lib.hid (below_andl a b)
  have har := Lib.hid (below_andr a b)
  have hL1 := Lib.hid (less_and a b ha hb)
  have hL2 := Lib.hid (less_or a b ha hb)
  have hD1 := Lib.hid (and_or a b c)
  have hD2 := Lib.hid (or_and a b c)
  have hj := or_lt a b ha hb
  have hm := and_lt a b ha
  have hl := less_lt a b ha
  have b1 := or_lt b c hb hc
  have b2 := and_lt a c ha
  have b3 := and_lt b c hb
  have b4 := or_lt a c ha hc
  go_enter Tryd.func7, Tryd.ntmps7
  go_wp2_with fail
  refine cA.mono ?_
  rintro e w1 ⟨rfl, hb1⟩
  clear cA hT
  go_upto_region 4 with fail
  go_cut [51] (fun t wx => t = .bool false ∧ Below w.heap.size w wx)
  case first =>
    have haa := hraa.out
    cases h1 : belowB a b
    · go_wp2_with (go_at_call 16; refine (below_any _ _ _ (by assumption) (by assumption)).mono ?_; rintro e w' ⟨rfl, rfl⟩)
      go_meet
      exact ⟨rfl, hb1⟩
    · cases h2 : belowB b a
      · cases h3 : belowB b c
        · go_wp2_with (go_at_call 16; refine (below_any _ _ _ (by assumption) (by assumption)).mono ?_; rintro e w' ⟨rfl, rfl⟩)
          go_meet
          exact ⟨rfl, hb1⟩
        · have h4 := htr.out h1 h3
          go_wp2_with (go_at_call 16; refine (below_any _ _ _ (by assumption) (by assumption)).mono ?_; rintro e w' ⟨rfl, rfl⟩)
          go_meet
          exact ⟨rfl, hb1⟩
      · obtain rfl := hanti.out h1 h2
        have hne : ((a : Int) != (a : Int)) = false := by simp
        clear hanti h2
        cases h3 : belowB a c
        · go_wp2_with (go_at_call 16; refine (below_any _ _ _ (by assumption) (by assumption)).mono ?_; rintro e w' ⟨rfl, rfl⟩)
          go_meet
          exact ⟨rfl, hb1⟩
        · go_wp2_with (go_at_call 16; refine (below_any _ _ _ (by assumption) (by assumption)).mono ?_; rintro e w' ⟨rfl, rfl⟩)
          go_meet
          exact ⟨rfl, hb1⟩
  case rest =>
    obtain ⟨rfl, hbw⟩ := hcut
    go_upto_region 7 with (first
      | (go_at_call 21; refine (less_any _ _ _ (by assumption) (by assumption)).mono ?_; rintro e w' ⟨rfl, rfl⟩)
      | (go_at_call 18; refine (join_any _ _ _ (by assumption) (by assumption)).mono ?_; rintro e w' ⟨rfl, rfl⟩)
      | (go_at_call 20; refine (meet_any _ _ _ (by assumption) (by assumption)).mono ?_; rintro e w' ⟨rfl, rfl⟩))
    go_cut [79] (fun t wx => t = .bool false ∧ Below w.heap.size w wx)
    case first =>
      have q1 := hol.out
      have q2 := hor.out
      have q3 := hal.out
      have q4 := har.out
      go_wp2_with (go_at_call 16; refine (below_any _ _ _ (by assumption) (by assumption)).mono ?_; rintro e w' ⟨rfl, rfl⟩)
      go_meet
      exact ⟨rfl, hbw⟩
    case rest =>
      clear hbw
      obtain ⟨rfl, hbw⟩ := hcut
      go_upto_region 9 with fail
      go_cut [109] (fun t wx => t = .bool false ∧ Below w.heap.size w wx)
      case first =>
        have hpre : (belowB a c = false ∨ belowB a c = true ∧ belowB b c = false ∨ belowB a c = true ∧ belowB b c = true ∧ belowB (a ||| b) c = true) := by
          cases h1 : belowB a c
          · exact .inl rfl
          · cases h2 : belowB b c
            · exact .inr (.inl ⟨rfl, rfl⟩)
            · exact .inr (.inr ⟨rfl, rfl, hlub.out h1 h2⟩)
        have hsuf : (belowB c a = false ∨ belowB c a = true ∧ belowB c b = false ∨ belowB c a = true ∧ belowB c b = true ∧ belowB c (a &&& b) = true) := by
          cases h1 : belowB c a
          · exact .inl rfl
          · cases h2 : belowB c b
            · exact .inr (.inl ⟨rfl, rfl⟩)
            · exact .inr (.inr ⟨rfl, rfl, hglb.out h1 h2⟩)
        rcases hpre with h1 | ⟨h1, h2⟩ | ⟨h1, h2, h3⟩
        all_goals
          rcases hsuf with h4 | ⟨h4, h5⟩ | ⟨h4, h5, h6⟩
          all_goals
            go_wp2_with (go_at_call 16; refine (below_any _ _ _ (by assumption) (by assumption)).mono ?_; rintro e w' ⟨rfl, rfl⟩)
            go_meet
            exact ⟨rfl, hbw⟩
      case rest =>
        clear hbw
        obtain ⟨rfl, hbw⟩ := hcut
        have q1 := hL1.out
        have q2 := hL2.out
        go_upto_region 11 with fail
        go_cut [124] (fun t wx => t = .bool false ∧ Below w.heap.size w wx)
        case first =>
          go_wp2_with (first
      | (go_at_call 21; refine (less_any _ _ _ (by assumption) (by assumption)).mono ?_; rintro e w' ⟨rfl, rfl⟩)
      | (go_at_call 18; refine (join_any _ _ _ (by assumption) (by assumption)).mono ?_; rintro e w' ⟨rfl, rfl⟩)
      | (go_at_call 20; refine (meet_any _ _ _ (by assumption) (by assumption)).mono ?_; rintro e w' ⟨rfl, rfl⟩))
          go_meet
          exact ⟨rfl, hbw⟩
        case rest =>
          clear hbw q1 q2
          obtain ⟨rfl, hbw⟩ := hcut
          have q3 := hD1.out
          have q4 := hD2.out
          have g1 := or_lt (a &&& b) (a &&& c) hm b2
          have g2 := and_lt (a ||| b) (a ||| c) hj
          go_wp2_with (first
      | (go_at_call 21; refine (less_any _ _ _ (by assumption) (by assumption)).mono ?_; rintro e w' ⟨rfl, rfl⟩)
      | (go_at_call 18; refine (join_any _ _ _ (by assumption) (by assumption)).mono ?_; rintro e w' ⟨rfl, rfl⟩)
      | (go_at_call 20; refine (meet_any _ _ _ (by assumption) (by assumption)).mono ?_; rintro e w' ⟨rfl, rfl⟩))
          go_ret
          exact ⟨rfl, hbw⟩
end Go.Proofs.YtglpkadpohbfmaaDoor
