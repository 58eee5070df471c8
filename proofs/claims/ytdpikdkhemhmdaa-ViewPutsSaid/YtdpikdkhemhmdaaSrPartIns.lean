/- The library's partial insertion sort over labels: by a contract. -/
import Derived.Test.YtdpikdkhemhmdaaSrIns
import Derived.Sort.WalkA6
namespace Go.Proofs.Ytdpikdkhemhmdaa
open Go Go.RowKit Go.Sort

set_option maxHeartbeats 1600000 in
set_option maxRecDepth 100000 in
theorem lbPartIns_any (blk off cap a b : Nat) (d : Array Nat) (w : World) (hH0 : Holds lbV w blk off d) (hab : a < b) (hb : b ≤ d.size) (hsz : d.size < 4611686018427387904) :
    Calls Try.prog 76 #[.slice (some ⟨blk, off, none⟩) d.size cap, .int .i64 a, .int .i64 b] w fun e w' =>
      e = .returned (.bool (partialInsertionSort ltL d a b).2) ∧ ∃ n, w' = lbPut w n blk off (partialInsertionSort ltL d a b).1 := by
  have hH : Hid (Holds lbV w blk off d) := hH0
  have hS0 : Hid (w = lbPut w 0 blk off d) := (putRow_self _ _ _ _ _ hH0).symm
  clear hH0
  go_enter Try.func76, Try.ntmps76
  go_wp2
  go_loopw [7, 8] (fun vi vs W => ∃ (i s n : Nat) (E : Array Nat), vi = .int .i64 i ∧ vs = .int .i64 s ∧ s ≤ 5 ∧ a < i ∧ i ≤ b ∧ E.size = d.size ∧ W = lbPut w n blk off E ∧
      partialIns ltL a b (5 - s) i E = partialIns ltL a b 5 (a + 1) d) (fun _ vs _ => 5 - (intOf vs).toNat)
  case atStart => exact ⟨a + 1, 0, 0, d, by go_num, rfl, by omega, by omega, by omega, rfl, hS0.out, rfl⟩
  case round =>
    obtain ⟨i, s, n, E, rfl, rfl, hs5, hai, hib, hsE, hwr, hO0⟩ := hrel
    have hO : Hid (partialIns ltL a b (5 - s) i E = partialIns ltL a b 5 (a + 1) d) := hO0
    clear hO0
    go_wp2
    · have hs : s < 5 := by omega
      go_loopw [7] (fun v W2 => ∃ (k m : Nat), v = .int .i64 k ∧ i ≤ k ∧ k ≤ b ∧ W2 = lbPut w m blk off E ∧ scanSorted ltL E b k = scanSorted ltL E b i) (fun v _ => b - (intOf v).toNat)
      case atStart => exact ⟨i, n, rfl, Nat.le_refl _, hib, rfl, rfl⟩
      case round =>
        obtain ⟨k, m, rfl, hik, hkb, we, hS0⟩ := hrel
        have hS : Hid (scanSorted ltL E b k = scanSorted ltL E b i) := hS0
        obtain ⟨g, hg0⟩ : ∃ g : Nat → Nat, ∀ t, g t = E[t]! := ⟨_, fun _ => rfl⟩
        have hcw : ∀ t, t < d.size → wr.cell? ⟨blk, off + t, none⟩ = some (.int .u64 (g t)) := fun t ht => by
          rw [we, hg0]; exact cell?_putRow lbV _ _ _ d E (holds_ahead _ _ _ _ _ _ hH.out) hsE t (by omega)
        have hfw : ∀ t, t < d.size → wr.frozen? ⟨blk, off + t, none⟩ = false := fun t ht => by
          rw [we, lbPut, frozen?_putRow]; exact ((holds_ahead _ _ m _ _ _ hH.out) t ht).2
        have hW : Hid (wr = lbPut w m blk off E) := we
        have hg : Hid (∀ t, g t = E[t]!) := hg0
        clear we hg0 hS0
        go_wp2
        by_cases hkb' : k < b
        · go_quiet (first | (go_at_call 77; refine Calls.quiet_of_same (lbLess_any _ _ _)))
          go_wp2
          all_goals first
            | (at_end
               have hl : ltL (g k) (g (k - 1)) = false := by first | assumption | exact decide_eq_false (by assumption) | exact decide_eq_false (Nat.not_lt.2 (by assumption)) | (have q : (!ltL (g k) (g (k - 1))) = true := (by assumption); simpa using q)
               go_roundw
               case rel => exact ⟨k + 1, m + nq, by go_num, by omega, by omega, by rw [hW.out]; exact putRow_drewN _ _ _ _ _ _ _, by rw [← hS.out, scanSorted_go ltL E b k hkb' (by rw [← hg.out, ← hg.out]; exact hl)]⟩
               case measure => simp [intOf]; omega)
            | (have hl : ltL (g k) (g (k - 1)) = true := by first | assumption | exact decide_eq_true (by assumption) | (have q : (!ltL (g k) (g (k - 1))) = false := (by assumption); simpa using q)
               have hK : Hid (scanSorted ltL E b i = k) := by
                 show scanSorted ltL E b i = k
                 rw [← hS.out, scanSorted_stop ltL E b k (Or.inr (by rw [← hg.out, ← hg.out]; exact hl))]
               first
                 | (at_ret
                    have hv : partialInsertionSort ltL d a b = (E, false) := by
                      unfold partialInsertionSort
                      rw [← hO.out, pi_short ltL a b s i E hs (by rw [hK.out]; omega) (by omega)]
                    rw [hv]
                    go_ret
                    exact ⟨rfl, m + nq, by rw [hW.out]; exact putRow_drewN _ _ _ _ _ _ _⟩)
                 | (at_region 11
                    have h50 : ¬ b - a < 50 := by omega
                    go_region
                    have hsw : ((wr.drewN (nq + 1)).setCell ⟨blk, off + k, none⟩ (.int .u64 (g (k - 1)))).setCell ⟨blk, off + (k - 1), none⟩ (.int .u64 (g k)) = lbPut w (m + (nq + 1)) blk off (swp E k (k - 1)) := by
                      rw [hW.out, hg.out, hg.out]
                      exact swap_worldA lbV w m (nq + 1) blk off E k (k - 1) (by omega) (by omega)
                    have hs1 : (swp E k (k - 1)).size = d.size := by rw [size_swp]; exact hsE
                    go_wp2
                    all_goals first
                      | (at_loop
                         have hka : k - a ≥ 2 := by omega
                         go_loopw [9] (fun v W2 => ∃ (j m2 : Nat) (D : Array Nat), v = .int .i64 j ∧ j ≤ k - 1 ∧ D.size = d.size ∧ W2 = lbPut w m2 blk off D ∧ shiftDown ltL j D = shiftDown ltL (k - 1) (swp E k (k - 1))) (fun v _ => (intOf v).toNat)
                         case atStart => exact ⟨k - 1, _, (swp E k (k - 1)), by congr 1; omega, Nat.le_refl _, hs1, rfl, rfl⟩
                         case round =>
                           obtain ⟨j, m2, D, rfl, hjk, hsD, w2e, hDn0⟩ := hrel
                           have hDn : Hid (shiftDown ltL j D = shiftDown ltL (k - 1) (swp E k (k - 1))) := hDn0
                           obtain ⟨g, hg0⟩ : ∃ g : Nat → Nat, ∀ t, g t = D[t]! := ⟨_, fun _ => rfl⟩
                           have hcw : ∀ t, t < d.size → wr.cell? ⟨blk, off + t, none⟩ = some (.int .u64 (g t)) := fun t ht => by
                             rw [w2e, hg0]; exact cell?_putRow lbV _ _ _ d D (holds_ahead _ _ _ _ _ _ hH.out) hsD t (by omega)
                           have hfw : ∀ t, t < d.size → wr.frozen? ⟨blk, off + t, none⟩ = false := fun t ht => by
                             rw [w2e, lbPut, frozen?_putRow]; exact ((holds_ahead _ _ m2 _ _ _ hH.out) t ht).2
                           have hW : Hid (wr = lbPut w m2 blk off D) := w2e
                           have hg : Hid (∀ t, g t = D[t]!) := hg0
                           clear w2e hg0 hDn0 hsw
                           go_wp2
                           all_goals first
                             | (at_region 16
                                go_quiet (first | (go_at_call 77; refine Calls.quiet_of_same (lbLess_any _ _ _)))
                                go_wp2
                                all_goals first
                                  | (at_region 17
                                     have hl : ltL (g j) (g (j - 1)) = true := by first | assumption | exact decide_eq_true (by assumption) | (have q : (!ltL (g j) (g (j - 1))) = false := (by assumption); simpa using q)
                                     go_region
                                     all_goals go_wp2
                                     go_roundw
                                     case rel =>
                                       refine ⟨j - 1, m2 + (nq + 1), swp D j (j - 1), by congr 1; omega, by omega, by rw [size_swp]; exact hsD, ?_, ?_⟩
                                       · rw [hW.out, hg.out, hg.out]
                                         exact swap_worldA lbV w m2 (nq + 1) blk off D j (j - 1) (by omega) (by omega)
                                       · rw [← hDn.out, shiftDown_go ltL j D (by omega) (by rw [← hg.out, ← hg.out]; exact hl)]
                                     case measure => simp [intOf]; omega)
                                  | (have hl : ltL (g j) (g (j - 1)) = false := by first | assumption | exact decide_eq_false (by assumption) | exact decide_eq_false (Nat.not_lt.2 (by assumption)) | (have q : (!ltL (g j) (g (j - 1))) = true := (by assumption); simpa using q)
                                     have hD : Hid (fixDown ltL a k (swp E k (k - 1)) = D) := by
                                       show fixDown ltL a k (swp E k (k - 1)) = D
                                       unfold fixDown; rw [if_pos hka, ← hDn.out, shiftDown_stop ltL j D (Or.inr (by rw [← hg.out, ← hg.out]; exact hl))]
                                     first
                                       | (at_end
                                          go_roundw
                                          case rel =>
                                            refine ⟨k, s + 1, _, D, rfl, by go_num, by omega, by omega, by omega, hsD, (by first | rfl | exact hW.out | (rw [hW.out]; exact putRow_drewN _ _ _ _ _ _ _)), ?_⟩
                                            rw [← hO.out, pi_go ltL a b s i k E hs hK.out (by omega) (by omega), hD.out, show fixUp ltL b k D = D from by unfold fixUp; rw [if_neg (by omega)]]
                                          case measure => simp [intOf]; omega)
                                       | (at_loop
                                          go_loopw [10] (fun v W2 => ∃ (j m3 : Nat) (U : Array Nat), v = .int .i64 j ∧ k + 1 ≤ j ∧ j ≤ b ∧ U.size = d.size ∧ W2 = lbPut w m3 blk off U ∧ shiftUp ltL b j U = shiftUp ltL b (k + 1) D) (fun v _ => b - (intOf v).toNat)
                                          case atStart => exact ⟨k + 1, _, D, by go_num, Nat.le_refl _, by omega, hsD, (by first | rfl | exact hW.out | (rw [hW.out]; exact putRow_drewN _ _ _ _ _ _ _)), rfl⟩
                                          case round =>
                                            obtain ⟨j, m3, U, rfl, hkj, hjb, hsU, w3e, hU0⟩ := hrel
                                            have hU : Hid (shiftUp ltL b j U = shiftUp ltL b (k + 1) D) := hU0
                                            obtain ⟨g, hg0⟩ : ∃ g : Nat → Nat, ∀ t, g t = U[t]! := ⟨_, fun _ => rfl⟩
                                            have hcw : ∀ t, t < d.size → wr.cell? ⟨blk, off + t, none⟩ = some (.int .u64 (g t)) := fun t ht => by
                                              rw [w3e, hg0]; exact cell?_putRow lbV _ _ _ d U (holds_ahead _ _ _ _ _ _ hH.out) hsU t (by omega)
                                            have hfw : ∀ t, t < d.size → wr.frozen? ⟨blk, off + t, none⟩ = false := fun t ht => by
                                              rw [w3e, lbPut, frozen?_putRow]; exact ((holds_ahead _ _ m3 _ _ _ hH.out) t ht).2
                                            have hW : Hid (wr = lbPut w m3 blk off U) := w3e
                                            have hg : Hid (∀ t, g t = U[t]!) := hg0
                                            clear w3e hg0 hU0
                                            go_wp2
                                            all_goals first
                                              | (at_region 22
                                                 go_quiet (first | (go_at_call 77; refine Calls.quiet_of_same (lbLess_any _ _ _)))
                                                 go_wp2
                                                 all_goals first
                                                   | (at_region 23
                                                      have hl : ltL (g j) (g (j - 1)) = true := by first | assumption | exact decide_eq_true (by assumption) | (have q : (!ltL (g j) (g (j - 1))) = false := (by assumption); simpa using q)
                                                      go_region
                                                      all_goals go_wp2
                                                      go_roundw
                                                      case rel =>
                                                        refine ⟨j + 1, m3 + (nq + 1), swp U j (j - 1), by go_num, by omega, by omega, by rw [size_swp]; exact hsU, ?_, ?_⟩
                                                        · rw [hW.out, hg.out, hg.out]
                                                          exact swap_worldA lbV w m3 (nq + 1) blk off U j (j - 1) (by omega) (by omega)
                                                        · rw [← hU.out, shiftUp_go ltL b j U (by omega) (by rw [← hg.out, ← hg.out]; exact hl)]
                                                      case measure => simp [intOf]; omega)
                                                   | (at_end
                                                      have hl : ltL (g j) (g (j - 1)) = false := by first | assumption | exact decide_eq_false (by assumption) | exact decide_eq_false (Nat.not_lt.2 (by assumption)) | (have q : (!ltL (g j) (g (j - 1))) = true := (by assumption); simpa using q)
                                                      go_roundw
                                                      case rel =>
                                                        refine ⟨k, s + 1, _, U, rfl, by go_num, by omega, by omega, by omega, hsU, (by first | rfl | exact hW.out | (rw [hW.out]; exact putRow_drewN _ _ _ _ _ _ _)), ?_⟩
                                                        rw [← hO.out, pi_go ltL a b s i k E hs hK.out (by omega) (by omega), hD.out, show fixUp ltL b k D = U from by unfold fixUp; rw [if_pos (by omega), ← hU.out, shiftUp_stop ltL b j U (Or.inr (by rw [← hg.out, ← hg.out]; exact hl))]]
                                                      case measure => simp [intOf]; omega))
                                              | (at_end
                                                 go_roundw
                                                 case rel =>
                                                   refine ⟨k, s + 1, _, U, rfl, by go_num, by omega, by omega, by omega, hsU, (by first | rfl | exact hW.out | (rw [hW.out]; exact putRow_drewN _ _ _ _ _ _ _)), ?_⟩
                                                   rw [← hO.out, pi_go ltL a b s i k E hs hK.out (by omega) (by omega), hD.out, show fixUp ltL b k D = U from by unfold fixUp; rw [if_pos (by omega), ← hU.out, shiftUp_stop ltL b j U (Or.inl (by omega))]]
                                                 case measure => simp [intOf]; omega))))
                             | (have hD : Hid (fixDown ltL a k (swp E k (k - 1)) = D) := by
                                  show fixDown ltL a k (swp E k (k - 1)) = D
                                  unfold fixDown; rw [if_pos hka, ← hDn.out, shiftDown_stop ltL j D (Or.inl (by omega))]
                                first
                                  | (at_end
                                     go_roundw
                                     case rel =>
                                       refine ⟨k, s + 1, _, D, rfl, by go_num, by omega, by omega, by omega, hsD, (by first | rfl | exact hW.out | (rw [hW.out]; exact putRow_drewN _ _ _ _ _ _ _)), ?_⟩
                                       rw [← hO.out, pi_go ltL a b s i k E hs hK.out (by omega) (by omega), hD.out, show fixUp ltL b k D = D from by unfold fixUp; rw [if_neg (by omega)]]
                                     case measure => simp [intOf]; omega)
                                  | (at_loop
                                     go_loopw [10] (fun v W2 => ∃ (j m3 : Nat) (U : Array Nat), v = .int .i64 j ∧ k + 1 ≤ j ∧ j ≤ b ∧ U.size = d.size ∧ W2 = lbPut w m3 blk off U ∧ shiftUp ltL b j U = shiftUp ltL b (k + 1) D) (fun v _ => b - (intOf v).toNat)
                                     case atStart => exact ⟨k + 1, _, D, by go_num, Nat.le_refl _, by omega, hsD, (by first | rfl | exact hW.out | (rw [hW.out]; exact putRow_drewN _ _ _ _ _ _ _)), rfl⟩
                                     case round =>
                                       obtain ⟨j, m3, U, rfl, hkj, hjb, hsU, w3e, hU0⟩ := hrel
                                       have hU : Hid (shiftUp ltL b j U = shiftUp ltL b (k + 1) D) := hU0
                                       obtain ⟨g, hg0⟩ : ∃ g : Nat → Nat, ∀ t, g t = U[t]! := ⟨_, fun _ => rfl⟩
                                       have hcw : ∀ t, t < d.size → wr.cell? ⟨blk, off + t, none⟩ = some (.int .u64 (g t)) := fun t ht => by
                                         rw [w3e, hg0]; exact cell?_putRow lbV _ _ _ d U (holds_ahead _ _ _ _ _ _ hH.out) hsU t (by omega)
                                       have hfw : ∀ t, t < d.size → wr.frozen? ⟨blk, off + t, none⟩ = false := fun t ht => by
                                         rw [w3e, lbPut, frozen?_putRow]; exact ((holds_ahead _ _ m3 _ _ _ hH.out) t ht).2
                                       have hW : Hid (wr = lbPut w m3 blk off U) := w3e
                                       have hg : Hid (∀ t, g t = U[t]!) := hg0
                                       clear w3e hg0 hU0
                                       go_wp2
                                       all_goals first
                                         | (at_region 22
                                            go_quiet (first | (go_at_call 77; refine Calls.quiet_of_same (lbLess_any _ _ _)))
                                            go_wp2
                                            all_goals first
                                              | (at_region 23
                                                 have hl : ltL (g j) (g (j - 1)) = true := by first | assumption | exact decide_eq_true (by assumption) | (have q : (!ltL (g j) (g (j - 1))) = false := (by assumption); simpa using q)
                                                 go_region
                                                 all_goals go_wp2
                                                 go_roundw
                                                 case rel =>
                                                   refine ⟨j + 1, m3 + (nq + 1), swp U j (j - 1), by go_num, by omega, by omega, by rw [size_swp]; exact hsU, ?_, ?_⟩
                                                   · rw [hW.out, hg.out, hg.out]
                                                     exact swap_worldA lbV w m3 (nq + 1) blk off U j (j - 1) (by omega) (by omega)
                                                   · rw [← hU.out, shiftUp_go ltL b j U (by omega) (by rw [← hg.out, ← hg.out]; exact hl)]
                                                 case measure => simp [intOf]; omega)
                                              | (at_end
                                                 have hl : ltL (g j) (g (j - 1)) = false := by first | assumption | exact decide_eq_false (by assumption) | exact decide_eq_false (Nat.not_lt.2 (by assumption)) | (have q : (!ltL (g j) (g (j - 1))) = true := (by assumption); simpa using q)
                                                 go_roundw
                                                 case rel =>
                                                   refine ⟨k, s + 1, _, U, rfl, by go_num, by omega, by omega, by omega, hsU, (by first | rfl | exact hW.out | (rw [hW.out]; exact putRow_drewN _ _ _ _ _ _ _)), ?_⟩
                                                   rw [← hO.out, pi_go ltL a b s i k E hs hK.out (by omega) (by omega), hD.out, show fixUp ltL b k D = U from by unfold fixUp; rw [if_pos (by omega), ← hU.out, shiftUp_stop ltL b j U (Or.inr (by rw [← hg.out, ← hg.out]; exact hl))]]
                                                 case measure => simp [intOf]; omega))
                                         | (at_end
                                            go_roundw
                                            case rel =>
                                              refine ⟨k, s + 1, _, U, rfl, by go_num, by omega, by omega, by omega, hsU, (by first | rfl | exact hW.out | (rw [hW.out]; exact putRow_drewN _ _ _ _ _ _ _)), ?_⟩
                                              rw [← hO.out, pi_go ltL a b s i k E hs hK.out (by omega) (by omega), hD.out, show fixUp ltL b k D = U from by unfold fixUp; rw [if_pos (by omega), ← hU.out, shiftUp_stop ltL b j U (Or.inl (by omega))]]
                                            case measure => simp [intOf]; omega))))
                      | (have hD : Hid (fixDown ltL a k (swp E k (k - 1)) = (swp E k (k - 1))) := by
                           show fixDown ltL a k (swp E k (k - 1)) = (swp E k (k - 1))
                           unfold fixDown; rw [if_neg (by omega)]
                         first
                           | (at_end
                              go_roundw
                              case rel =>
                                refine ⟨k, s + 1, _, (swp E k (k - 1)), rfl, by go_num, by omega, by omega, by omega, hs1, (by first | rfl | exact hW.out | (rw [hW.out]; exact putRow_drewN _ _ _ _ _ _ _)), ?_⟩
                                rw [← hO.out, pi_go ltL a b s i k E hs hK.out (by omega) (by omega), hD.out, show fixUp ltL b k (swp E k (k - 1)) = (swp E k (k - 1)) from by unfold fixUp; rw [if_neg (by omega)]]
                              case measure => simp [intOf]; omega)
                           | (at_loop
                              go_loopw [10] (fun v W2 => ∃ (j m3 : Nat) (U : Array Nat), v = .int .i64 j ∧ k + 1 ≤ j ∧ j ≤ b ∧ U.size = d.size ∧ W2 = lbPut w m3 blk off U ∧ shiftUp ltL b j U = shiftUp ltL b (k + 1) (swp E k (k - 1))) (fun v _ => b - (intOf v).toNat)
                              case atStart => exact ⟨k + 1, _, (swp E k (k - 1)), by go_num, Nat.le_refl _, by omega, hs1, (by first | rfl | exact hW.out | (rw [hW.out]; exact putRow_drewN _ _ _ _ _ _ _)), rfl⟩
                              case round =>
                                obtain ⟨j, m3, U, rfl, hkj, hjb, hsU, w3e, hU0⟩ := hrel
                                have hU : Hid (shiftUp ltL b j U = shiftUp ltL b (k + 1) (swp E k (k - 1))) := hU0
                                obtain ⟨g, hg0⟩ : ∃ g : Nat → Nat, ∀ t, g t = U[t]! := ⟨_, fun _ => rfl⟩
                                have hcw : ∀ t, t < d.size → wr.cell? ⟨blk, off + t, none⟩ = some (.int .u64 (g t)) := fun t ht => by
                                  rw [w3e, hg0]; exact cell?_putRow lbV _ _ _ d U (holds_ahead _ _ _ _ _ _ hH.out) hsU t (by omega)
                                have hfw : ∀ t, t < d.size → wr.frozen? ⟨blk, off + t, none⟩ = false := fun t ht => by
                                  rw [w3e, lbPut, frozen?_putRow]; exact ((holds_ahead _ _ m3 _ _ _ hH.out) t ht).2
                                have hW : Hid (wr = lbPut w m3 blk off U) := w3e
                                have hg : Hid (∀ t, g t = U[t]!) := hg0
                                clear w3e hg0 hU0
                                go_wp2
                                all_goals first
                                  | (at_region 22
                                     go_quiet (first | (go_at_call 77; refine Calls.quiet_of_same (lbLess_any _ _ _)))
                                     go_wp2
                                     all_goals first
                                       | (at_region 23
                                          have hl : ltL (g j) (g (j - 1)) = true := by first | assumption | exact decide_eq_true (by assumption) | (have q : (!ltL (g j) (g (j - 1))) = false := (by assumption); simpa using q)
                                          go_region
                                          all_goals go_wp2
                                          go_roundw
                                          case rel =>
                                            refine ⟨j + 1, m3 + (nq + 1), swp U j (j - 1), by go_num, by omega, by omega, by rw [size_swp]; exact hsU, ?_, ?_⟩
                                            · rw [hW.out, hg.out, hg.out]
                                              exact swap_worldA lbV w m3 (nq + 1) blk off U j (j - 1) (by omega) (by omega)
                                            · rw [← hU.out, shiftUp_go ltL b j U (by omega) (by rw [← hg.out, ← hg.out]; exact hl)]
                                          case measure => simp [intOf]; omega)
                                       | (at_end
                                          have hl : ltL (g j) (g (j - 1)) = false := by first | assumption | exact decide_eq_false (by assumption) | exact decide_eq_false (Nat.not_lt.2 (by assumption)) | (have q : (!ltL (g j) (g (j - 1))) = true := (by assumption); simpa using q)
                                          go_roundw
                                          case rel =>
                                            refine ⟨k, s + 1, _, U, rfl, by go_num, by omega, by omega, by omega, hsU, (by first | rfl | exact hW.out | (rw [hW.out]; exact putRow_drewN _ _ _ _ _ _ _)), ?_⟩
                                            rw [← hO.out, pi_go ltL a b s i k E hs hK.out (by omega) (by omega), hD.out, show fixUp ltL b k (swp E k (k - 1)) = U from by unfold fixUp; rw [if_pos (by omega), ← hU.out, shiftUp_stop ltL b j U (Or.inr (by rw [← hg.out, ← hg.out]; exact hl))]]
                                          case measure => simp [intOf]; omega))
                                  | (at_end
                                     go_roundw
                                     case rel =>
                                       refine ⟨k, s + 1, _, U, rfl, by go_num, by omega, by omega, by omega, hsU, (by first | rfl | exact hW.out | (rw [hW.out]; exact putRow_drewN _ _ _ _ _ _ _)), ?_⟩
                                       rw [← hO.out, pi_go ltL a b s i k E hs hK.out (by omega) (by omega), hD.out, show fixUp ltL b k (swp E k (k - 1)) = U from by unfold fixUp; rw [if_pos (by omega), ← hU.out, shiftUp_stop ltL b j U (Or.inl (by omega))]]
                                     case measure => simp [intOf]; omega)))))
        · go_quiet (first | (go_at_call 77; refine Calls.quiet_of_same (lbLess_any _ _ _)))
          go_wp2
          obtain rfl : k = b := by omega
          have hv : partialInsertionSort ltL d a k = (E, true) := by
            unfold partialInsertionSort
            rw [← hO.out, pi_true ltL a k s i E hs (by rw [← hS.out, scanSorted_stop ltL E k k (Or.inl (by omega))])]
          rw [hv]
          go_ret
          exact ⟨rfl, m + nq, by rw [hW.out]; exact putRow_drewN _ _ _ _ _ _ _⟩
    · obtain rfl : s = 5 := by omega
      have hv : partialInsertionSort ltL d a b = (E, false) := by
        unfold partialInsertionSort
        rw [← hO.out, pi_end]
      rw [hv]
      go_ret
      exact ⟨rfl, n, rfl⟩
end Go.Proofs.Ytdpikdkhemhmdaa
