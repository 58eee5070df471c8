/- slices.Sort over labels: by a contract. -/
import Derived.Test.YtdpikdkhemhmdaaSrPdq
namespace Go.Proofs.Ytdpikdkhemhmdaa
open Go Go.RowKit Go.Sort

set_option maxRecDepth 100000 in
theorem lbSort_any (blk off cap : Nat) (d : Array Nat) (w : World) (hH0 : Holds lbV w blk off d) (hblk : blk < w.heap.size) (hsz : d.size < 4611686018427387904) :
    Calls Try.prog 56 #[.slice (some ⟨blk, off, none⟩) d.size cap] w fun e w' => e = .returned (.tuple #[]) ∧ At lbV w blk off (Sort.sort ltL d) w' := by
  have hH : Hid (Holds lbV w blk off d) := hH0
  clear hH0
  have hk : bitsLen d.size ≤ 62 := (bitsLen_le_iff d.size 62).2 (by omega)
  have cL := fun w => lbLen_any d.size hsz w
  have cP := fun w (h : Holds lbV w blk off d) (hb : blk < w.heap.size) => lbPdq_any (d.size + 1) blk off cap 0 d.size (bitsLen d.size) d w (by omega) h hb (Nat.zero_le _) (Nat.le_refl _) hsz (by omega) (Or.inl rfl)
  go_enter Try.func56, Try.ntmps56
  go_wp2_with (first
    | (go_at_call 69; refine (cL _).mono ?_; rintro e w' ⟨rfl, rfl⟩)
    | (go_at_call 68; refine (cP _ (by exact hH.out) (by exact hblk)).mono ?_; rintro e w' ⟨rfl, hw⟩))
  go_end0
  exact ⟨rfl, hw⟩
end Go.Proofs.Ytdpikdkhemhmdaa
