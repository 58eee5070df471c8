/- The library's insertion sort over labels: by a contract. -/
import Derived.Test.YtdpikdkhemhmdaaSrLess
namespace Go.Proofs.Ytdpikdkhemhmdaa
open Go Go.RowKit Go.Sort

/-- the world in which a row of labels is put, n draws on -/
abbrev lbPut (w : World) (n blk off : Nat) (d : Array Nat) : World := putRow lbV (Sort.ahead w n) blk off d

theorem lbInsert_any (blk off cap a b : Nat) (d : Array Nat) (w : World) (hH : Holds lbV w blk off d) (hab : a ≤ b) (hb : b ≤ d.size) (hsz : d.size < 4611686018427387904) :
    Calls Try.prog 71 #[.slice (some ⟨blk, off, none⟩) d.size cap, .int .i64 a, .int .i64 b] w fun e w' =>
      e = .returned (.tuple #[]) ∧ ∃ n, w' = lbPut w n blk off (Sort.insertionSort ltL d a b) := by
  go_enter Try.func71, Try.ntmps71
  go_wp2
  go_loopw [6] (fun v W => ∃ (i n : Nat) (D : Array Nat), v = .int .i64 i ∧ (a < i ∧ i ≤ b + 1) ∧ D.size = d.size ∧ W = lbPut w n blk off D ∧
      insOuter ltL a b i D = insOuter ltL a b (a + 1) d) (fun v _ => b + 1 - (intOf v).toNat)
  case atStart => exact ⟨a + 1, 0, d, by go_num, by omega, rfl, (putRow_self _ _ _ _ _ hH).symm, rfl⟩
  case round =>
    obtain ⟨i, n, D, rfl, hi, hsD, hW, hO0⟩ := hrel
    have hO : Hid (insOuter ltL a b i D = insOuter ltL a b (a + 1) d) := hO0
    clear hO0
    go_wp2
    · have hlt : i < b := by assumption
      go_loopw [7] (fun v W2 => ∃ (j m : Nat) (E : Array Nat), v = .int .i64 j ∧ (a ≤ j ∧ j ≤ i) ∧ E.size = d.size ∧ W2 = lbPut w m blk off E ∧
          insInner ltL a j E = insInner ltL a i D) (fun v _ => (intOf v).toNat)
      case atStart => exact ⟨i, n, D, rfl, by omega, hsD, rfl, rfl⟩
      case round =>
        obtain ⟨j, m, E, rfl, hj, hsE, hW2, hI0⟩ := hrel
        obtain ⟨g, hg0⟩ : ∃ g : Nat → Nat, ∀ t, g t = E[t]! := ⟨_, fun _ => rfl⟩
        have hcell : ∀ t, t < d.size → wr.cell? ⟨blk, off + t, none⟩ = some (.int .u64 (g t)) := fun t ht => by
          rw [hW2, hg0]; exact cell?_putRow lbV _ _ _ d E (holds_ahead _ _ _ _ _ _ hH) hsE t (by omega)
        have hfree : ∀ t, t < d.size → wr.frozen? ⟨blk, off + t, none⟩ = false := fun t ht => by
          rw [hW2]; simp only [lbPut, frozen?_putRow]; exact ((holds_ahead _ _ m _ _ _ hH) t ht).2
        have hWh : Hid (wr = lbPut w m blk off E) := hW2
        have hg : Hid (∀ t, g t = E[t]!) := hg0
        have hI : Hid (insInner ltL a j E = insInner ltL a i D) := hI0
        have hend : Hid ((j ≤ a ∨ ltL E[j]! E[j - 1]! = false) → ∀ q, ∃ i' n' D', Value.int .i64 ((i : Int) + 1) = .int .i64 (i' : Nat) ∧ (a < i' ∧ i' ≤ b + 1) ∧ D'.size = d.size ∧
            wr.drewN q = lbPut w n' blk off D' ∧ insOuter ltL a b i' D' = insOuter ltL a b (a + 1) d) := fun hs q =>
          ⟨i + 1, m + q, E, by go_num, by omega, hsE, by rw [hWh.out]; exact putRow_drewN _ _ _ _ _ _ _,
            by rw [← hO.out, insOuter_go _ _ _ _ _ hlt, ← hI.out, insInner_stop _ _ _ _ hs]⟩
        clear hW2 hg0 hI0 hH
        go_wp2
        by_cases hja : a < j
        · go_quiet (first | (go_at_call 77; refine Calls.quiet_of_same (lbLess_any _ _ _)))
          go_wp2
          · have hl : ltL (g j) (g (j - 1)) = true := decide_eq_true (by assumption)
            go_region
            all_goals go_wp2
            go_roundw
            case rel =>
              refine ⟨j - 1, m + (nq + 1), swp E j (j - 1), by congr 1; omega, by omega, by rw [size_swp]; exact hsE, ?_, ?_⟩
              · rw [hWh.out, hg.out, hg.out]
                exact swap_worldA lbV w m (nq + 1) blk off E j (j - 1) (by omega) (by omega)
              · rw [← hI.out, insInner_go ltL a j E hja (by rw [← hg.out, ← hg.out]; exact hl)]
            case measure => simp [intOf]; omega
          · have hl : ltL (g j) (g (j - 1)) = false := decide_eq_false (by assumption)
            go_roundw
            case rel => exact hend.out (Or.inr (by rw [← hg.out, ← hg.out]; exact hl)) nq
            case measure => simp [intOf]; omega
        · go_quiet (first | (go_at_call 77; refine Calls.quiet_of_same (lbLess_any _ _ _)))
          go_wp2
          go_roundw
          case rel => exact hend.out (Or.inl (by omega)) nq
          case measure => simp [intOf]; omega
    · have hge : ¬ i < b := by assumption
      go_end0
      exact ⟨rfl, n, by unfold Sort.insertionSort; rw [← hO.out, insOuter_stop _ _ _ _ _ hge]⟩
end Go.Proofs.Ytdpikdkhemhmdaa
