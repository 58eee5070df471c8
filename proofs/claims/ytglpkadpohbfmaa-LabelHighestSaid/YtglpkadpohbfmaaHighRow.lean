/- What a row's uint64 slice gives the walk of LabelHighest. -/
import Derived.Test.YtglpkadpohbfmaaHighWalk
import Derived.Test.YtglpkadpohbfmaaNumOpen
import Derived.Test.YtglpkadpohbfmaaLbOpen
namespace Go.Proofs.Ytglpkadpohbfmaa
open Go.RowKit

def toN64 (z : Int) : Nat64 := ⟨z.toNat % 18446744073709551616, Nat.mod_lt _ (by decide)⟩
theorem rowL_of {W : World} {p : Option Addr} {xs : List Int} (h : NumRow .u64 W p xs) (hw : ∀ x ∈ xs, (Lit.int .u64 x).wf = true) : RowL W p (xs.map toN64) := fun i x hx => by
  rw [List.getElem?_map, Option.map_eq_some_iff] at hx
  obtain ⟨z, hz, rfl⟩ := hx
  obtain ⟨hi, rfl⟩ := List.getElem?_eq_some_iff.1 hz
  obtain ⟨b, off, e, _, hc⟩ := h i hi
  refine ⟨b, off, e, ?_⟩
  obtain ⟨a, ha, hlt⟩ := u64_nat (hw _ (List.getElem_mem hi))
  rw [hc, ha]
  have e2 : (toN64 (a : Int)).val = a := by
    show (a : Int).toNat % 18446744073709551616 = a
    rw [Int.toNat_natCast, Nat.mod_eq_of_lt hlt]
  unfold encL
  rw [e2]
end Go.Proofs.Ytglpkadpohbfmaa
