/- The library's reversal of a range of labels: by a contract. -/
import Derived.Test.YtdpikdkhemhmdaaSrIns
import Derived.Sort.WalkB12
namespace Go.Proofs.Ytdpikdkhemhmdaa
open Go Go.RowKit Go.Sort

set_option maxRecDepth 1000000 in
theorem lbReverse_any (blk off cap : Nat) (d : Array Nat) (a b : Nat) (w : World) (hH : Holds lbV w blk off d) (hab : a ≤ b) (hb : b ≤ d.size) (hsz : d.size < 4611686018427387904) :
    Calls Try.prog 75 #[.slice (some ⟨blk, off, none⟩) d.size cap, .int .i64 a, .int .i64 b] w fun e w' =>
      e = .returned (.tuple #[]) ∧ ∃ n, w' = lbPut w n blk off (reverseRange d a b) := by
  go_enter Try.func75, Try.ntmps75
  go_wp2
  go_loopg [6, 7] (b - a) (fun k v6 v7 W => ∃ (i j : Nat) (z : Int) (E : Array Nat) (n : Nat), v6 = .int .i64 i ∧ v7 = .int .i64 z ∧
    (((i : Int) < z ∧ z = j ∧ j < d.size) ∨ (¬ (i : Int) < z ∧ ¬ i < j)) ∧ j - i ≤ k ∧ E.size = d.size ∧ W = lbPut w n blk off E ∧ reverseLoop i j E = reverseLoop a (b - 1) d)
  case atStart =>
    refine ⟨a, b - 1, (b : Int) - 1, d, 0, rfl, rfl, ?_, by omega, rfl, (putRow_self lbV w blk off d hH).symm, rfl⟩
    by_cases h : (a : Int) < (b : Int) - 1
    · exact .inl ⟨h, by omega, by omega⟩
    · exact .inr ⟨h, by omega⟩
  case round =>
    obtain ⟨i, j, z, E, n, rfl, rfl, hc, hk, hs, hW, he⟩ := hrel
    rcases hc with ⟨hlt, rfl, hj⟩ | ⟨hlt, hij⟩
    · have hij : i < j := by omega
      have hK : Holds lbV wr blk off E := by rw [hW]; exact holds_putRow lbV _ blk off d E (holds_ahead lbV w n blk off d hH) hs
      obtain ⟨ci, fi⟩ := hK i (by omega)
      obtain ⟨cj, fj⟩ := hK j (by omega)
      have A : Aside (wr = lbPut w n blk off E) := hW
      clear hW hK hH
      go_wp2_with fail
      go_region
      go_wp2
      go_roundg (j - 1 - (i + 1))
      case measure => omega
      case rel =>
        rw [reverseLoop, if_pos hij] at he
        refine ⟨i + 1, j - 1, (j : Int) - 1, swp E i j, n + 1, by simp, rfl, ?_, Nat.le_refl _, by rw [size_swp]; exact hs,
          swap_world lbV (by omega) (by omega) A.out (by simp [lbV, getElem!_pos, show j < E.size by omega]) rfl, he⟩
        by_cases h : (i : Int) + 1 < (j : Int) - 1
        · exact .inl ⟨by omega, by omega, by omega⟩
        · exact .inr ⟨by omega, by omega⟩
    · go_wp2
      go_end0
      refine ⟨rfl, n, ?_⟩
      rw [reverseLoop, if_neg hij] at he
      rw [reverseRange, ← he]
end Go.Proofs.Ytdpikdkhemhmdaa
