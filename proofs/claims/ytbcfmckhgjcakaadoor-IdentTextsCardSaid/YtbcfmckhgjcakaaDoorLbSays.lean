/- Contracts at every world that has grown out of the first one. -/
import Derived.Test.YtbcfmckhgjcakaaDoorLbMyList
import Derived.Test.YtbcfmckhgjcakaaDoorLbOf
namespace Go.Proofs.YtbcfmckhgjcakaaDoor
open Go.RowKit

/-- A row of compartments that was made, as a slice that holds them, later on. -/
theorem ints_row {W : World} {B : Nat} {p : Option Addr} {c : Nat} {l : List Nat} (h : W.ownsRow B 3 1 (.slice p l.length c) l.length (ints l)) : NumRow .i64 W p (l.map fun i : Nat => (i : Int)) := by
  intro i hi
  rw [List.length_map] at hi
  rcases h.2 with ⟨hv, h0⟩ | ⟨g, cap, cur, hv, _⟩
  · omega
  · injection hv with e1 e2 e3
    subst e1
    have hc := h.cellAt i (by omega)
    unfold ints at hc
    rw [List.getElem?_map, List.getElem?_eq_getElem hi] at hc
    have hlt := World.block_lt_of_cell? W _ (show W.cell? ⟨g, i, none⟩ = some (.int .i64 (l[i] : Nat)) from hc)
    exact ⟨g, 0, rfl, hlt, by rw [Nat.zero_add, List.getElem_map]; exact hc⟩

/-- A world that has grown out of w. -/
def St (w W : World) : Prop := BTab W ∧ Below w.heap.size w W
theorem St.start {w : World} (h : BTab w) : St w w := ⟨h, Below.refl _ _⟩
theorem St.next {w W W' : World} (h : St w W) (hb : Below W.heap.size W W') : St w W' := ⟨h.1.below hb, h.2.trans (hb.mono h.2.size)⟩
/-- A contract at every world that has grown out of w. -/
def Says (w : World) (f : Nat) (args : Array Value) (v : Value) : Prop := ∀ W, St w W → Calls Tryd.prog f args W fun e w' => e = .returned v ∧ St w w'
theorem says_of {w : World} {f : Nat} {args : Array Value} {v : Value} (h : ∀ W, BTab W → Calls Tryd.prog f args W fun e w' => e = .returned v ∧ Below W.heap.size W w') : Says w f args v :=
  fun W hW => (h W hW.1).mono fun _ _ ⟨h1, h2⟩ => ⟨h1, hW.next h2⟩
theorem says_same {w : World} {f : Nat} {args : Array Value} {v : Value} (h : ∀ W, Calls Tryd.prog f args W fun e w' => e = .returned v ∧ W = w') : Says w f args v :=
  fun W hW => (h W).mono fun _ _ ⟨h1, h2⟩ => ⟨h1, by rw [← h2]; exact hW⟩
/-- A call that gives a row of compartments. -/
def Lists (w : World) (f : Nat) (args : Array Value) (l : List Nat) : Prop := ∀ W, St w W → Calls Tryd.prog f args W fun e w' => ∃ p c, e = .returned (.slice p l.length c) ∧ NumRow .i64 w' p (l.map fun i : Nat => (i : Int)) ∧ St w w' ∧ Below W.heap.size W w'
theorem lists_of {w : World} {f : Nat} {args : Array Value} {l : List Nat} (h : ∀ W, BTab W → Calls Tryd.prog f args W (IntRow W l)) : Lists w f args l :=
  fun W hW => (h W hW.1).mono fun _ _ ⟨p, c, h1, h2, h3⟩ => ⟨p, c, h1, ints_row h3, hW.next h2, h2⟩

end Go.Proofs.YtbcfmckhgjcakaaDoor
