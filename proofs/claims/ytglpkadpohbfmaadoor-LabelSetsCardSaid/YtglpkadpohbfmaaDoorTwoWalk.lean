/- The law LabelTwo by a walk over the contracts. -/
import Derived.Test.YtglpkadpohbfmaaDoorLbMyList
import Derived.Test.YtglpkadpohbfmaaDoorLbJoin
import Derived.Test.YtglpkadpohbfmaaDoorLbNumbers
namespace Go.Proofs.YtglpkadpohbfmaaDoor
open Go.RowKit

/-- A row of compartments that was made, as a slice that holds them, later on. -/
theorem ints_row {W : World} {B : Nat} {p : Option Addr} {c : Nat} {l : List Nat} (h : W.ownsRow B 3 1 (.slice p l.length c) l.length (ints l)) : NumRow .i64 W p (l.map fun i : Nat => (i : Int)) := by
  intro i hi
  rw [List.length_map] at hi
  rcases h.2 with ⟨hv, h0⟩ | ⟨g, cap, cur, hv, _⟩
  · omega
  · injection hv with e1 e2 e3
    subst e1
    have hc := h.cellAt i (by omega)
    unfold ints at hc
    rw [List.getElem?_map, List.getElem?_eq_getElem hi] at hc
    have hlt := World.block_lt_of_cell? W _ (show W.cell? ⟨g, i, none⟩ = some (.int .i64 (l[i] : Nat)) from hc)
    exact ⟨g, 0, rfl, hlt, by rw [Nat.zero_add, List.getElem_map]; exact hc⟩

/-- A world that has grown out of w. -/
def St (w W : World) : Prop := BTab W ∧ Below w.heap.size w W
theorem St.start {w : World} (h : BTab w) : St w w := ⟨h, Below.refl _ _⟩
theorem St.next {w W W' : World} (h : St w W) (hb : Below W.heap.size W W') : St w W' := ⟨h.1.below hb, h.2.trans (hb.mono h.2.size)⟩
/-- A contract at every world that has grown out of w. -/
def Says (w : World) (f : Nat) (args : Array Value) (v : Value) : Prop := ∀ W, St w W → Calls Tryd.prog f args W fun e w' => e = .returned v ∧ St w w'
theorem says_of {w : World} {f : Nat} {args : Array Value} {v : Value} (h : ∀ W, BTab W → Calls Tryd.prog f args W fun e w' => e = .returned v ∧ Below W.heap.size W w') : Says w f args v :=
  fun W hW => (h W hW.1).mono fun _ _ ⟨h1, h2⟩ => ⟨h1, hW.next h2⟩
theorem says_same {w : World} {f : Nat} {args : Array Value} {v : Value} (h : ∀ W, Calls Tryd.prog f args W fun e w' => e = .returned v ∧ W = w') : Says w f args v :=
  fun W hW => (h W).mono fun _ _ ⟨h1, h2⟩ => ⟨h1, by rw [← h2]; exact hW⟩
/-- A call that gives a row of compartments. -/
def Lists (w : World) (f : Nat) (args : Array Value) (l : List Nat) : Prop := ∀ W, St w W → Calls Tryd.prog f args W fun e w' => ∃ p c, e = .returned (.slice p l.length c) ∧ NumRow .i64 w' p (l.map fun i : Nat => (i : Int)) ∧ St w w' ∧ Below W.heap.size W w'
theorem lists_of {w : World} {f : Nat} {args : Array Value} {l : List Nat} (h : ∀ W, BTab W → Calls Tryd.prog f args W (IntRow W l)) : Lists w f args l :=
  fun W hW => (h W hW.1).mono fun _ _ ⟨p, c, h1, h2, h3⟩ => ⟨p, c, h1, ints_row h3, hW.next h2, h2⟩

set_option maxRecDepth 100000 in
set_option maxHeartbeats 4000000 in
theorem labelTwo_any (a b : Nat) (w : World) (ha : a < 18446744073709551616) (hb : b < 18446744073709551616) (hT : BTab w) :
    Calls Tryd.prog 4 #[.int .u64 a, .int .u64 b] w fun e w' => e = .returned (.bool true) ∧ Below w.heap.size w w' := by
  have hw0 : St w w := St.start hT
  have c1 : Says w 16 #[.int .u64 a, .int .u64 b] _ := says_same fun W => below_any a b W ha hb
  have c2 : Says w 17 #[.int .u64 a, .int .u64 b] _ := says_of fun W _ => refBelow_any a b W ha hb
  have c3 : Says w 18 #[.int .u64 a, .int .u64 b] _ := says_same fun W => join_any a b W ha hb
  have c4 : Says w 19 #[.int .u64 a, .int .u64 b, .int .i64 1] _ := says_of fun W _ => refBoth_any a b 1 W ha hb (.inl rfl)
  have c5 : Says w 20 #[.int .u64 a, .int .u64 b] _ := says_same fun W => meet_any a b W ha hb
  have c6 : Says w 19 #[.int .u64 a, .int .u64 b, .int .i64 2] _ := says_of fun W _ => refBoth_any a b 2 W ha hb (.inr (.inl rfl))
  have c7 : Says w 21 #[.int .u64 a, .int .u64 b] _ := says_same fun W => less_any a b W ha hb
  have c8 : Says w 19 #[.int .u64 a, .int .u64 b, .int .i64 3] _ := says_of fun W _ => refBoth_any a b 3 W ha hb (.inr (.inr rfl))
  have c9 : Lists w 13 #[.int .u64 a] _ := lists_of fun W h => list_any a W ha h
  have c10 : Lists w 14 #[.int .u64 a] _ := lists_of fun W _ => refList_any a W ha
  have c11 : Says w 15 #[.int .u64 a] _ := says_same fun W => count_any a W ha
  rw [both_or a b ha hb] at c4
  rw [both_and a b ha] at c6
  rw [both_less a b ha hb] at c8
  have hlen : cnt a = (listTo a 64).length := rfl
  have hl64 := listTo_len a 64
  rw [hlen] at c11
  generalize belowB a b = x1 at *
  generalize a ||| b = x2 at *
  generalize a &&& b = x3 at *
  generalize lessN a b = x4 at *
  generalize listTo a 64 = l at *
  clear hlen ha hb hT
  go_enter Tryd.func4, Tryd.ntmps4
  go_wp2_with (first
    | (go_at_call 16; refine (c1 _ (by assumption)).mono ?_; rintro e w' ⟨rfl, hw⟩)
    | (go_at_call 17; refine (c2 _ (by assumption)).mono ?_; rintro e w' ⟨rfl, hw⟩)
    | (go_at_call 18; refine (c3 _ (by assumption)).mono ?_; rintro e w' ⟨rfl, hw⟩))
  refine (c4 _ (by assumption)).mono ?_
  rintro e w' ⟨rfl, hw⟩
  go_wp2_with (go_at_call 20; refine (c5 _ (by assumption)).mono ?_; rintro e w' ⟨rfl, hw⟩)
  refine (c6 _ (by assumption)).mono ?_
  rintro e w' ⟨rfl, hw⟩
  go_wp2_with (go_at_call 21; refine (c7 _ (by assumption)).mono ?_; rintro e w' ⟨rfl, hw⟩)
  refine (c8 _ (by assumption)).mono ?_
  rintro e w' ⟨rfl, hw⟩
  go_wp2_with fail
  refine (c9 _ (by assumption)).mono ?_
  rintro e W1 ⟨p, c, rfl, hr1, hw1, _⟩
  go_wp2_with fail
  refine (c10 _ (by assumption)).mono ?_
  rintro e W2 ⟨q, d, rfl, hr2, hw2, hb2⟩
  go_wp2_with fail
  refine (numbers_any W2 p q _ _ c d _ (hr1.later hb2) hr2 (by rw [List.length_map]) (by rw [List.length_map]) (by rw [List.length_map]; omega)).mono ?_
  rintro e W3 ⟨rfl, hb3⟩
  have hw3 := hw2.next hb3
  clear hr1 hr2 hb2 hb3
  go_wp2_with (first
    | (go_at_call 15; refine (c11 _ (by assumption)).mono ?_; rintro e w' ⟨rfl, hw⟩)
    | (go_at_call 14; refine (c10 _ (by assumption)).mono ?_; rintro e w' ⟨q2, d2, rfl, hr2, hw, hb2⟩))
  go_ret
  exact ⟨rfl, hw.2⟩
end Go.Proofs.YtglpkadpohbfmaaDoor
