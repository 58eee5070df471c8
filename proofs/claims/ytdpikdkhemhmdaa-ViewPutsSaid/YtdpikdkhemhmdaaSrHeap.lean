/- The library's heap sort over labels: by a contract. -/
import Derived.Test.YtdpikdkhemhmdaaSrSift
import Derived.Sort.WalkB3
namespace Go.Proofs.Ytdpikdkhemhmdaa
open Go Go.RowKit Go.Sort

set_option maxHeartbeats 3200000 in
set_option maxRecDepth 1000000 in
theorem lbHeap_any (blk off len cap : Nat) (d : Array Nat) (hlen : d.size = len) (a b : Nat) (w : World) (hH : Holds lbV w blk off d) (hab : a ≤ b) (hb : b ≤ d.size) (hsz : d.size < 4611686018427387904) :
    Calls Try.prog 72 #[.slice (some ⟨blk, off, none⟩) len cap, .int .i64 a, .int .i64 b] w fun e w' =>
      e = .returned (.tuple #[]) ∧ ∃ n, w' = lbPut w n blk off (heapSort ltL d a b) := by
  subst hlen
  have ec : ((b - a : Nat) : Int) = (b : Int) - (a : Int) := by omega
  have hsd : ∀ hi F root (E : Array Nat), (siftDown ltL hi F root E).size = E.size := fun hi F root E => size_siftDown ltL _ _ _ _ _ (Nat.le_refl _)
  go_enter Try.func72, Try.ntmps72
  go_wp2
  go_loopg [9] ((b - a - 1) / 2 + 1) (fun k v W => v = .int .i64 ((k : Int) - 1) ∧ k ≤ (b - a - 1) / 2 + 1 ∧ ∃ (E : Array Nat) (n : Nat), E.size = d.size ∧ W = lbPut w n blk off E ∧
    heapBuild ltL (b - a) a k E = heapBuild ltL (b - a) a ((b - a - 1) / 2 + 1) d)
  case atStart => exact ⟨by rw [half_start hab], Nat.le_refl _, d, 0, rfl, (putRow_self lbV w blk off d hH).symm, rfl⟩
  case round =>
    obtain ⟨rfl, hk, E, n, hs, hW, he⟩ := hrel
    have hK : Holds lbV wr blk off E := by rw [hW]; exact holds_putRow lbV _ blk off d E (holds_ahead lbV w n blk off d hH) hs
    have hA : Aside (wr = lbPut w n blk off E) := hW
    clear hW
    cases gk with
    | zero =>
      have hB : E = heapBuild ltL (b - a) a ((b - a - 1) / 2 + 1) d := he
      clear he hK hk
      go_wp2
      go_loopg [10] (b - a) (fun k v W => v = .int .i64 ((k : Int) - 1) ∧ k ≤ b - a ∧ ∃ (D : Array Nat) (m : Nat), D.size = d.size ∧ W = lbPut w m blk off D ∧ heapPop ltL a k D = heapPop ltL a (b - a) E)
      case atStart => exact ⟨by rw [ec], Nat.le_refl _, E, n, hs, hA.out, rfl⟩
      case round =>
        obtain ⟨rfl, hk, D, m, hD, hW2, he2⟩ := hrel
        cases gk with
        | zero =>
          go_wp2
          go_end0
          refine ⟨rfl, m, ?_⟩
          have e : D = heapSort ltL d a b := by rw [heapSort, ← hB, ← he2]; rfl
          rw [← e]
        | succ k =>
          have hK : Holds lbV wr blk off D := by rw [hW2]; exact holds_putRow lbV _ blk off d D (holds_ahead lbV w m blk off d hH) hD
          have hcell : ∀ t, t < d.size → wr.cell? ⟨blk, off + t, none⟩ = some (.int .u64 D[t]!) := fun t ht => (hK t (by omega)).1
          have hfree : ∀ t, t < d.size → wr.frozen? ⟨blk, off + t, none⟩ = false := fun t ht => (hK t (by omega)).2
          have hA2 : Aside (wr = lbPut w m blk off D) := hW2
          clear hW2 hK
          have hnext : ∀ i hi, Holds lbV (lbPut w (m + 1) blk off (swp D a i)) blk off (swp D a i) ∧ (siftDown ltL hi a 0 (swp D a i)).size = d.size := fun i hi =>
            ⟨holds_putRow lbV _ blk off d _ (holds_ahead lbV w (m + 1) blk off d hH) (by rw [size_swp]; exact hD), by rw [hsd, size_swp]; exact hD⟩
          rcases Nat.eq_zero_or_pos k with h0 | h0
          · subst h0
            go_wp2_with fail
            go_region
            go_wp2_with fail
            rw [swap_world lbV (i := a) (j := a) (by omega) (by omega) hA2.out rfl rfl]
            refine (lbSift_any blk off d.size cap (swp D a a) (by rw [size_swp]; exact hD) 0 0 a _ (hnext a 0).1 (Nat.zero_le _) (by rw [size_swp]; omega) (by rw [size_swp]; omega)).mono ?_
            rintro e w1 ⟨rfl, q, hw1⟩
            go_wp2
            go_roundg 0
            case measure => omega
            case rel =>
              refine ⟨by simp, by omega, siftDown ltL 0 a 0 (swp D a a), m + 1 + q, (hnext a 0).2, ?_, he2⟩
              first
                | rw [hw1]; exact putRow_ahead_putRow lbV w (m + 1) q blk off _ _ (hsd ..)
                | exact putRow_ahead_putRow lbV w (m + 1) q blk off _ _ (hsd ..)
          · go_wp2_with fail
            go_region
            go_wp2_with fail
            rw [swap_world lbV (i := a) (j := a + k) (by omega) (by omega) hA2.out rfl rfl]
            refine (lbSift_any blk off d.size cap (swp D a (a + k)) (by rw [size_swp]; exact hD) 0 k a _ (hnext (a + k) k).1 (Nat.zero_le _) (by rw [size_swp]; omega) (by rw [size_swp]; omega)).mono ?_
            rintro e w1 ⟨rfl, q, hw1⟩
            go_wp2
            go_roundg k
            case measure => omega
            case rel =>
              refine ⟨by simp, by omega, siftDown ltL k a 0 (swp D a (a + k)), m + 1 + q, (hnext (a + k) k).2, ?_, he2⟩
              first
                | rw [hw1]; exact putRow_ahead_putRow lbV w (m + 1) q blk off _ _ (hsd ..)
                | exact putRow_ahead_putRow lbV w (m + 1) q blk off _ _ (hsd ..)
    | succ k =>
      have hc := lbSift_any blk off d.size cap E hs k (b - a) a wr hK (by omega) (by omega) (by omega)
      rw [ec] at hc
      go_wp2_with (go_at_call 84; refine hc.mono ?_; rintro e w1 ⟨rfl, q, hw1⟩)
      go_roundg k
      case measure => omega
      case rel =>
        refine ⟨by simp, by omega, siftDown ltL (b - a) a k E, n + q, by rw [hsd]; exact hs, ?_, he⟩
        rw [hA.out]; exact putRow_ahead_putRow lbV w n q blk off E _ (hsd ..)
end Go.Proofs.Ytdpikdkhemhmdaa
