/- The library's Atoi by one contract: a value, or an error. -/
import Derived.Test.YtbcfmckhgjcakaaDoorLbBase
import Derived.Test.YtbcfmckhgjcakaaDoorShelf
import Derived.Lib.SmallJoins
namespace Go.Proofs.YtbcfmckhgjcakaaDoor
open Go.RowKit

/-- An error's variable holds nothing or an error. -/
def EvAt (g : Nat) (w : World) : Prop := ∃ ev, w.cell? ⟨g, 0, none⟩ = some ev ∧ (ev = .nilIface ∨ ∃ te pe, ev = .iface te pe)
def EvW (w : World) : Prop := EvAt 1 w ∧ EvAt 2 w
theorem evAt_below {g : Nat} {w w' : World} (h : EvAt g w) (hb : Below w.heap.size w w') : EvAt g w' := by
  obtain ⟨ev, h1, h2⟩ := h
  exact ⟨ev, (hb.cell (p := ⟨g, 0, none⟩) (World.block_lt_of_cell? w _ h1)).trans h1, h2⟩
theorem EvW.below {w w' : World} (h : EvW w) (hb : Below w.heap.size w w') : EvW w' := ⟨evAt_below h.1 hb, evAt_below h.2 hb⟩
/-- How Atoi ends. -/
def AtoiEnds (x : List UInt8) (v : Int) (er : Value) : Prop := (er = .nilIface ∧ Lib.atoiAll x = .ok v) ∨ ((∃ t p, er = .iface t (.pointer p)) ∧ ∀ u, Lib.atoiAll x ≠ .ok u)
theorem atoi_any (x : ByteArray) (w : World) (hs : x.size ≤ 281474976710656) (hE : EvW w) :
    Calls Tryd.prog 21 #[.string x] w fun e w' => ∃ v er, e = .returned (.tuple #[.int .i64 v, er]) ∧ AtoiEnds x.data.toList v er ∧ Below w.heap.size w w' := by
  obtain ⟨⟨e1, a1, a2⟩, ⟨e2, b1, b2⟩⟩ := hE
  rcases h : Lib.atoiAll x.data.toList with v | _ | _
  · refine (Tryd.strconv_Atoi_ok x (by omega) v h w).mono ?_
    rintro e w' ⟨rfl, hw⟩
    refine ⟨v, _, rfl, .inl ⟨rfl, h⟩, ?_⟩
    rcases hw with rfl | ⟨t, rfl⟩
    · exact Below.refl _ _
    · exact Joins.below_bytesWorld _ w _ _ (Nat.le_refl _)
  · refine (Any.strconv_Atoi_syntax Tryd.laysC172 x hs h e1 w a1 a2).mono ?_
    rintro e w' ⟨N, rfl, _, _, hb⟩
    exact ⟨_, _, rfl, .inr ⟨⟨_, _, rfl⟩, fun u e => by rw [h] at e; cases e⟩, hb⟩
  · refine (Tryd.strconv_Atoi_range x hs h e2 w b1 b2).mono ?_
    rintro e w' ⟨N, rfl, _, _, hb⟩
    exact ⟨_, _, rfl, .inr ⟨⟨_, _, rfl⟩, fun u e => by rw [h] at e; cases e⟩, hb⟩
end Go.Proofs.YtbcfmckhgjcakaaDoor
