/- A region that draws its order, walked once, over any family of worlds that its operations and calls do not leave. No program. -/
import Derived.BigQuiet
import Derived.RowKit
namespace Go.Proofs.Ytglpkadpohbfmaa
open Go Go.RowKit

theorem region_family {P : Program} {id : Nat} {Q : Exit → Act → World → Prop} {a : Act} {w : World} {l : List Oper} {ι : Type} (F : ι → World) (hm : P.follows .mixedOrders = true) (hB : Region.lexB .any l.toArray = true)
    (hC : ∃ n, { w with drawn := w.drawn + 1 } = F n)
    (h : wpQuiet P l.toArray (fun w' => ∃ n, w' = F n) (fun a' => ∀ w', (∃ n, w' = F n) → Q .normal a' w') l a) : (Code.region id l.toArray true).wp P Q a w :=
  wp_region_quiet (C := fun w' => ∃ n, w' = F n) hm hB hC (by simpa using h)
theorem family_of (T : World → Prop) (w : World) (hw : T w) : ∃ (ι : Type) (F : ι → World) (_ : Nonempty ι), (∀ n, T (F n)) ∧ ∀ W, T W → ∃ n, W = F n :=
  ⟨{ W // T W }, (·.1), ⟨⟨w, hw⟩⟩, fun n => n.2, fun W h => ⟨⟨W, h⟩, rfl⟩⟩
end Go.Proofs.Ytglpkadpohbfmaa
