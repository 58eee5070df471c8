/- Texts of the proof, merged: SrPartIns, SrPdq, SrSort, PoCmp, PoClr, PoFit, PoNamesP, PoNamesW, Frame, LbLaid, EvLaid. -/
import Derived.Test.YtfibbjnkicjbpaaGreatDoorNm4
import Derived.Test.YtfibbjnkicjbpaaGreatDoorNm5
import Derived.Test.YtfibbjnkicjbpaaGreatDoorNm6
import Derived.Test.YtfibbjnkicjbpaaGreatDoorNm7
import Derived.Sort.WalkA6
import Derived.Sort.Walk13
import Derived.Sort.AssemblyPlain
import Derived.Lib.OwnBridge
import Derived.Shelf.SlicesE.Compact
import Derived.Laws.IdiomStrings
import Derived.OpenVars
import Derived.ProofKit
import Derived.SizedLaws
import Derived.Test.YtfibbjnkicjbpaaGreatDoorRows
import Derived.Lib.LaidTab
import Derived.LaidSub
import Derived.LaidMore
import Derived.MakeChecks
import Derived.Deep.DeepHandedRow
/- The library's partial insertion sort over labels: by a contract. -/
namespace Go.Proofs.YtfibbjnkicjbpaaGreatDoor
open Go Go.RowKit Go.Sort

set_option maxHeartbeats 1600000 in
set_option maxRecDepth 100000 in
theorem lbPartIns_any (blk off cap a b : Nat) (d : Array Nat) (w : World) (hH0 : Holds lbV w blk off d) (hab : a < b) (hb : b ≤ d.size) (hsz : d.size < 4611686018427387904) :
    Calls Tryz.prog 74 #[.slice (some ⟨blk, off, none⟩) d.size cap, .int .i64 a, .int .i64 b] w fun e w' =>
      e = .returned (.bool (partialInsertionSort ltL d a b).2) ∧ ∃ n, w' = lbPut w n blk off (partialInsertionSort ltL d a b).1 := by
  have hH : Hid (Holds lbV w blk off d) := hH0
  have hS0 : Hid (w = lbPut w 0 blk off d) := (putRow_self _ _ _ _ _ hH0).symm
  clear hH0
  go_enter Tryz.func74, Tryz.ntmps74
  go_wp2
  go_loopw [7, 8] (fun vi vs W => ∃ (i s n : Nat) (E : Array Nat), vi = .int .i64 i ∧ vs = .int .i64 s ∧ s ≤ 5 ∧ a < i ∧ i ≤ b ∧ E.size = d.size ∧ W = lbPut w n blk off E ∧
      partialIns ltL a b (5 - s) i E = partialIns ltL a b 5 (a + 1) d) (fun _ vs _ => 5 - (intOf vs).toNat)
  case atStart => exact ⟨a + 1, 0, 0, d, by go_num, rfl, by omega, by omega, by omega, rfl, hS0.out, rfl⟩
  case round =>
    obtain ⟨i, s, n, E, rfl, rfl, hs5, hai, hib, hsE, hwr, hO0⟩ := hrel
    have hO : Hid (partialIns ltL a b (5 - s) i E = partialIns ltL a b 5 (a + 1) d) := hO0
    clear hO0
    go_wp2
    · have hs : s < 5 := by omega
      go_loopw [7] (fun v W2 => ∃ (k m : Nat), v = .int .i64 k ∧ i ≤ k ∧ k ≤ b ∧ W2 = lbPut w m blk off E ∧ scanSorted ltL E b k = scanSorted ltL E b i) (fun v _ => b - (intOf v).toNat)
      case atStart => exact ⟨i, n, rfl, Nat.le_refl _, hib, rfl, rfl⟩
      case round =>
        obtain ⟨k, m, rfl, hik, hkb, we, hS0⟩ := hrel
        have hS : Hid (scanSorted ltL E b k = scanSorted ltL E b i) := hS0
        obtain ⟨g, hg0⟩ : ∃ g : Nat → Nat, ∀ t, g t = E[t]! := ⟨_, fun _ => rfl⟩
        have hcw : ∀ t, t < d.size → wr.cell? ⟨blk, off + t, none⟩ = some (.int .u64 (g t)) := fun t ht => by
          rw [we, hg0]; exact cell?_putRow lbV _ _ _ d E (holds_ahead _ _ _ _ _ _ hH.out) hsE t (by omega)
        have hfw : ∀ t, t < d.size → wr.frozen? ⟨blk, off + t, none⟩ = false := fun t ht => by
          rw [we, lbPut, frozen?_putRow]; exact ((holds_ahead _ _ m _ _ _ hH.out) t ht).2
        have hW : Hid (wr = lbPut w m blk off E) := we
        have hg : Hid (∀ t, g t = E[t]!) := hg0
        clear we hg0 hS0
        go_wp2
        by_cases hkb' : k < b
        · go_quiet (first | (go_at_call 75; refine Calls.quiet_of_same (lbLess_any _ _ _)))
          go_wp2
          all_goals first
            | (at_end
               have hl : ltL (g k) (g (k - 1)) = false := by first | assumption | exact decide_eq_false (by assumption) | exact decide_eq_false (Nat.not_lt.2 (by assumption)) | (have q : (!ltL (g k) (g (k - 1))) = true := (by assumption); simpa using q)
               go_roundw
               case rel => exact ⟨k + 1, m + nq, by go_num, by omega, by omega, by rw [hW.out]; exact putRow_drewN _ _ _ _ _ _ _, by rw [← hS.out, scanSorted_go ltL E b k hkb' (by rw [← hg.out, ← hg.out]; exact hl)]⟩
               case measure => simp [intOf]; omega)
            | (have hl : ltL (g k) (g (k - 1)) = true := by first | assumption | exact decide_eq_true (by assumption) | (have q : (!ltL (g k) (g (k - 1))) = false := (by assumption); simpa using q)
               have hK : Hid (scanSorted ltL E b i = k) := by
                 show scanSorted ltL E b i = k
                 rw [← hS.out, scanSorted_stop ltL E b k (Or.inr (by rw [← hg.out, ← hg.out]; exact hl))]
               first
                 | (at_ret
                    have hv : partialInsertionSort ltL d a b = (E, false) := by
                      unfold partialInsertionSort
                      rw [← hO.out, pi_short ltL a b s i E hs (by rw [hK.out]; omega) (by omega)]
                    rw [hv]
                    go_ret
                    exact ⟨rfl, m + nq, by rw [hW.out]; exact putRow_drewN _ _ _ _ _ _ _⟩)
                 | (at_region 11
                    have h50 : ¬ b - a < 50 := by omega
                    go_region
                    have hsw : ((wr.drewN (nq + 1)).setCell ⟨blk, off + k, none⟩ (.int .u64 (g (k - 1)))).setCell ⟨blk, off + (k - 1), none⟩ (.int .u64 (g k)) = lbPut w (m + (nq + 1)) blk off (swp E k (k - 1)) := by
                      rw [hW.out, hg.out, hg.out]
                      exact swap_worldA lbV w m (nq + 1) blk off E k (k - 1) (by omega) (by omega)
                    have hs1 : (swp E k (k - 1)).size = d.size := by rw [size_swp]; exact hsE
                    go_wp2
                    all_goals first
                      | (at_loop
                         have hka : k - a ≥ 2 := by omega
                         go_loopw [9] (fun v W2 => ∃ (j m2 : Nat) (D : Array Nat), v = .int .i64 j ∧ j ≤ k - 1 ∧ D.size = d.size ∧ W2 = lbPut w m2 blk off D ∧ shiftDown ltL j D = shiftDown ltL (k - 1) (swp E k (k - 1))) (fun v _ => (intOf v).toNat)
                         case atStart => exact ⟨k - 1, _, (swp E k (k - 1)), by congr 1; omega, Nat.le_refl _, hs1, rfl, rfl⟩
                         case round =>
                           obtain ⟨j, m2, D, rfl, hjk, hsD, w2e, hDn0⟩ := hrel
                           have hDn : Hid (shiftDown ltL j D = shiftDown ltL (k - 1) (swp E k (k - 1))) := hDn0
                           obtain ⟨g, hg0⟩ : ∃ g : Nat → Nat, ∀ t, g t = D[t]! := ⟨_, fun _ => rfl⟩
                           have hcw : ∀ t, t < d.size → wr.cell? ⟨blk, off + t, none⟩ = some (.int .u64 (g t)) := fun t ht => by
                             rw [w2e, hg0]; exact cell?_putRow lbV _ _ _ d D (holds_ahead _ _ _ _ _ _ hH.out) hsD t (by omega)
                           have hfw : ∀ t, t < d.size → wr.frozen? ⟨blk, off + t, none⟩ = false := fun t ht => by
                             rw [w2e, lbPut, frozen?_putRow]; exact ((holds_ahead _ _ m2 _ _ _ hH.out) t ht).2
                           have hW : Hid (wr = lbPut w m2 blk off D) := w2e
                           have hg : Hid (∀ t, g t = D[t]!) := hg0
                           clear w2e hg0 hDn0 hsw
                           go_wp2
                           all_goals first
                             | (at_region 16
                                go_quiet (first | (go_at_call 75; refine Calls.quiet_of_same (lbLess_any _ _ _)))
                                go_wp2
                                all_goals first
                                  | (at_region 17
                                     have hl : ltL (g j) (g (j - 1)) = true := by first | assumption | exact decide_eq_true (by assumption) | (have q : (!ltL (g j) (g (j - 1))) = false := (by assumption); simpa using q)
                                     go_region
                                     all_goals go_wp2
                                     go_roundw
                                     case rel =>
                                       refine ⟨j - 1, m2 + (nq + 1), swp D j (j - 1), by congr 1; omega, by omega, by rw [size_swp]; exact hsD, ?_, ?_⟩
                                       · rw [hW.out, hg.out, hg.out]
                                         exact swap_worldA lbV w m2 (nq + 1) blk off D j (j - 1) (by omega) (by omega)
                                       · rw [← hDn.out, shiftDown_go ltL j D (by omega) (by rw [← hg.out, ← hg.out]; exact hl)]
                                     case measure => simp [intOf]; omega)
                                  | (have hl : ltL (g j) (g (j - 1)) = false := by first | assumption | exact decide_eq_false (by assumption) | exact decide_eq_false (Nat.not_lt.2 (by assumption)) | (have q : (!ltL (g j) (g (j - 1))) = true := (by assumption); simpa using q)
                                     have hD : Hid (fixDown ltL a k (swp E k (k - 1)) = D) := by
                                       show fixDown ltL a k (swp E k (k - 1)) = D
                                       unfold fixDown; rw [if_pos hka, ← hDn.out, shiftDown_stop ltL j D (Or.inr (by rw [← hg.out, ← hg.out]; exact hl))]
                                     first
                                       | (at_end
                                          go_roundw
                                          case rel =>
                                            refine ⟨k, s + 1, _, D, rfl, by go_num, by omega, by omega, by omega, hsD, (by first | rfl | exact hW.out | (rw [hW.out]; exact putRow_drewN _ _ _ _ _ _ _)), ?_⟩
                                            rw [← hO.out, pi_go ltL a b s i k E hs hK.out (by omega) (by omega), hD.out, show fixUp ltL b k D = D from by unfold fixUp; rw [if_neg (by omega)]]
                                          case measure => simp [intOf]; omega)
                                       | (at_loop
                                          go_loopw [10] (fun v W2 => ∃ (j m3 : Nat) (U : Array Nat), v = .int .i64 j ∧ k + 1 ≤ j ∧ j ≤ b ∧ U.size = d.size ∧ W2 = lbPut w m3 blk off U ∧ shiftUp ltL b j U = shiftUp ltL b (k + 1) D) (fun v _ => b - (intOf v).toNat)
                                          case atStart => exact ⟨k + 1, _, D, by go_num, Nat.le_refl _, by omega, hsD, (by first | rfl | exact hW.out | (rw [hW.out]; exact putRow_drewN _ _ _ _ _ _ _)), rfl⟩
                                          case round =>
                                            obtain ⟨j, m3, U, rfl, hkj, hjb, hsU, w3e, hU0⟩ := hrel
                                            have hU : Hid (shiftUp ltL b j U = shiftUp ltL b (k + 1) D) := hU0
                                            obtain ⟨g, hg0⟩ : ∃ g : Nat → Nat, ∀ t, g t = U[t]! := ⟨_, fun _ => rfl⟩
                                            have hcw : ∀ t, t < d.size → wr.cell? ⟨blk, off + t, none⟩ = some (.int .u64 (g t)) := fun t ht => by
                                              rw [w3e, hg0]; exact cell?_putRow lbV _ _ _ d U (holds_ahead _ _ _ _ _ _ hH.out) hsU t (by omega)
                                            have hfw : ∀ t, t < d.size → wr.frozen? ⟨blk, off + t, none⟩ = false := fun t ht => by
                                              rw [w3e, lbPut, frozen?_putRow]; exact ((holds_ahead _ _ m3 _ _ _ hH.out) t ht).2
                                            have hW : Hid (wr = lbPut w m3 blk off U) := w3e
                                            have hg : Hid (∀ t, g t = U[t]!) := hg0
                                            clear w3e hg0 hU0
                                            go_wp2
                                            all_goals first
                                              | (at_region 22
                                                 go_quiet (first | (go_at_call 75; refine Calls.quiet_of_same (lbLess_any _ _ _)))
                                                 go_wp2
                                                 all_goals first
                                                   | (at_region 23
                                                      have hl : ltL (g j) (g (j - 1)) = true := by first | assumption | exact decide_eq_true (by assumption) | (have q : (!ltL (g j) (g (j - 1))) = false := (by assumption); simpa using q)
                                                      go_region
                                                      all_goals go_wp2
                                                      go_roundw
                                                      case rel =>
                                                        refine ⟨j + 1, m3 + (nq + 1), swp U j (j - 1), by go_num, by omega, by omega, by rw [size_swp]; exact hsU, ?_, ?_⟩
                                                        · rw [hW.out, hg.out, hg.out]
                                                          exact swap_worldA lbV w m3 (nq + 1) blk off U j (j - 1) (by omega) (by omega)
                                                        · rw [← hU.out, shiftUp_go ltL b j U (by omega) (by rw [← hg.out, ← hg.out]; exact hl)]
                                                      case measure => simp [intOf]; omega)
                                                   | (at_end
                                                      have hl : ltL (g j) (g (j - 1)) = false := by first | assumption | exact decide_eq_false (by assumption) | exact decide_eq_false (Nat.not_lt.2 (by assumption)) | (have q : (!ltL (g j) (g (j - 1))) = true := (by assumption); simpa using q)
                                                      go_roundw
                                                      case rel =>
                                                        refine ⟨k, s + 1, _, U, rfl, by go_num, by omega, by omega, by omega, hsU, (by first | rfl | exact hW.out | (rw [hW.out]; exact putRow_drewN _ _ _ _ _ _ _)), ?_⟩
                                                        rw [← hO.out, pi_go ltL a b s i k E hs hK.out (by omega) (by omega), hD.out, show fixUp ltL b k D = U from by unfold fixUp; rw [if_pos (by omega), ← hU.out, shiftUp_stop ltL b j U (Or.inr (by rw [← hg.out, ← hg.out]; exact hl))]]
                                                      case measure => simp [intOf]; omega))
                                              | (at_end
                                                 go_roundw
                                                 case rel =>
                                                   refine ⟨k, s + 1, _, U, rfl, by go_num, by omega, by omega, by omega, hsU, (by first | rfl | exact hW.out | (rw [hW.out]; exact putRow_drewN _ _ _ _ _ _ _)), ?_⟩
                                                   rw [← hO.out, pi_go ltL a b s i k E hs hK.out (by omega) (by omega), hD.out, show fixUp ltL b k D = U from by unfold fixUp; rw [if_pos (by omega), ← hU.out, shiftUp_stop ltL b j U (Or.inl (by omega))]]
                                                 case measure => simp [intOf]; omega))))
                             | (have hD : Hid (fixDown ltL a k (swp E k (k - 1)) = D) := by
                                  show fixDown ltL a k (swp E k (k - 1)) = D
                                  unfold fixDown; rw [if_pos hka, ← hDn.out, shiftDown_stop ltL j D (Or.inl (by omega))]
                                first
                                  | (at_end
                                     go_roundw
                                     case rel =>
                                       refine ⟨k, s + 1, _, D, rfl, by go_num, by omega, by omega, by omega, hsD, (by first | rfl | exact hW.out | (rw [hW.out]; exact putRow_drewN _ _ _ _ _ _ _)), ?_⟩
                                       rw [← hO.out, pi_go ltL a b s i k E hs hK.out (by omega) (by omega), hD.out, show fixUp ltL b k D = D from by unfold fixUp; rw [if_neg (by omega)]]
                                     case measure => simp [intOf]; omega)
                                  | (at_loop
                                     go_loopw [10] (fun v W2 => ∃ (j m3 : Nat) (U : Array Nat), v = .int .i64 j ∧ k + 1 ≤ j ∧ j ≤ b ∧ U.size = d.size ∧ W2 = lbPut w m3 blk off U ∧ shiftUp ltL b j U = shiftUp ltL b (k + 1) D) (fun v _ => b - (intOf v).toNat)
                                     case atStart => exact ⟨k + 1, _, D, by go_num, Nat.le_refl _, by omega, hsD, (by first | rfl | exact hW.out | (rw [hW.out]; exact putRow_drewN _ _ _ _ _ _ _)), rfl⟩
                                     case round =>
                                       obtain ⟨j, m3, U, rfl, hkj, hjb, hsU, w3e, hU0⟩ := hrel
                                       have hU : Hid (shiftUp ltL b j U = shiftUp ltL b (k + 1) D) := hU0
                                       obtain ⟨g, hg0⟩ : ∃ g : Nat → Nat, ∀ t, g t = U[t]! := ⟨_, fun _ => rfl⟩
                                       have hcw : ∀ t, t < d.size → wr.cell? ⟨blk, off + t, none⟩ = some (.int .u64 (g t)) := fun t ht => by
                                         rw [w3e, hg0]; exact cell?_putRow lbV _ _ _ d U (holds_ahead _ _ _ _ _ _ hH.out) hsU t (by omega)
                                       have hfw : ∀ t, t < d.size → wr.frozen? ⟨blk, off + t, none⟩ = false := fun t ht => by
                                         rw [w3e, lbPut, frozen?_putRow]; exact ((holds_ahead _ _ m3 _ _ _ hH.out) t ht).2
                                       have hW : Hid (wr = lbPut w m3 blk off U) := w3e
                                       have hg : Hid (∀ t, g t = U[t]!) := hg0
                                       clear w3e hg0 hU0
                                       go_wp2
                                       all_goals first
                                         | (at_region 22
                                            go_quiet (first | (go_at_call 75; refine Calls.quiet_of_same (lbLess_any _ _ _)))
                                            go_wp2
                                            all_goals first
                                              | (at_region 23
                                                 have hl : ltL (g j) (g (j - 1)) = true := by first | assumption | exact decide_eq_true (by assumption) | (have q : (!ltL (g j) (g (j - 1))) = false := (by assumption); simpa using q)
                                                 go_region
                                                 all_goals go_wp2
                                                 go_roundw
                                                 case rel =>
                                                   refine ⟨j + 1, m3 + (nq + 1), swp U j (j - 1), by go_num, by omega, by omega, by rw [size_swp]; exact hsU, ?_, ?_⟩
                                                   · rw [hW.out, hg.out, hg.out]
                                                     exact swap_worldA lbV w m3 (nq + 1) blk off U j (j - 1) (by omega) (by omega)
                                                   · rw [← hU.out, shiftUp_go ltL b j U (by omega) (by rw [← hg.out, ← hg.out]; exact hl)]
                                                 case measure => simp [intOf]; omega)
                                              | (at_end
                                                 have hl : ltL (g j) (g (j - 1)) = false := by first | assumption | exact decide_eq_false (by assumption) | exact decide_eq_false (Nat.not_lt.2 (by assumption)) | (have q : (!ltL (g j) (g (j - 1))) = true := (by assumption); simpa using q)
                                                 go_roundw
                                                 case rel =>
                                                   refine ⟨k, s + 1, _, U, rfl, by go_num, by omega, by omega, by omega, hsU, (by first | rfl | exact hW.out | (rw [hW.out]; exact putRow_drewN _ _ _ _ _ _ _)), ?_⟩
                                                   rw [← hO.out, pi_go ltL a b s i k E hs hK.out (by omega) (by omega), hD.out, show fixUp ltL b k D = U from by unfold fixUp; rw [if_pos (by omega), ← hU.out, shiftUp_stop ltL b j U (Or.inr (by rw [← hg.out, ← hg.out]; exact hl))]]
                                                 case measure => simp [intOf]; omega))
                                         | (at_end
                                            go_roundw
                                            case rel =>
                                              refine ⟨k, s + 1, _, U, rfl, by go_num, by omega, by omega, by omega, hsU, (by first | rfl | exact hW.out | (rw [hW.out]; exact putRow_drewN _ _ _ _ _ _ _)), ?_⟩
                                              rw [← hO.out, pi_go ltL a b s i k E hs hK.out (by omega) (by omega), hD.out, show fixUp ltL b k D = U from by unfold fixUp; rw [if_pos (by omega), ← hU.out, shiftUp_stop ltL b j U (Or.inl (by omega))]]
                                            case measure => simp [intOf]; omega))))
                      | (have hD : Hid (fixDown ltL a k (swp E k (k - 1)) = (swp E k (k - 1))) := by
                           show fixDown ltL a k (swp E k (k - 1)) = (swp E k (k - 1))
                           unfold fixDown; rw [if_neg (by omega)]
                         first
                           | (at_end
                              go_roundw
                              case rel =>
                                refine ⟨k, s + 1, _, (swp E k (k - 1)), rfl, by go_num, by omega, by omega, by omega, hs1, (by first | rfl | exact hW.out | (rw [hW.out]; exact putRow_drewN _ _ _ _ _ _ _)), ?_⟩
                                rw [← hO.out, pi_go ltL a b s i k E hs hK.out (by omega) (by omega), hD.out, show fixUp ltL b k (swp E k (k - 1)) = (swp E k (k - 1)) from by unfold fixUp; rw [if_neg (by omega)]]
                              case measure => simp [intOf]; omega)
                           | (at_loop
                              go_loopw [10] (fun v W2 => ∃ (j m3 : Nat) (U : Array Nat), v = .int .i64 j ∧ k + 1 ≤ j ∧ j ≤ b ∧ U.size = d.size ∧ W2 = lbPut w m3 blk off U ∧ shiftUp ltL b j U = shiftUp ltL b (k + 1) (swp E k (k - 1))) (fun v _ => b - (intOf v).toNat)
                              case atStart => exact ⟨k + 1, _, (swp E k (k - 1)), by go_num, Nat.le_refl _, by omega, hs1, (by first | rfl | exact hW.out | (rw [hW.out]; exact putRow_drewN _ _ _ _ _ _ _)), rfl⟩
                              case round =>
                                obtain ⟨j, m3, U, rfl, hkj, hjb, hsU, w3e, hU0⟩ := hrel
                                have hU : Hid (shiftUp ltL b j U = shiftUp ltL b (k + 1) (swp E k (k - 1))) := hU0
                                obtain ⟨g, hg0⟩ : ∃ g : Nat → Nat, ∀ t, g t = U[t]! := ⟨_, fun _ => rfl⟩
                                have hcw : ∀ t, t < d.size → wr.cell? ⟨blk, off + t, none⟩ = some (.int .u64 (g t)) := fun t ht => by
                                  rw [w3e, hg0]; exact cell?_putRow lbV _ _ _ d U (holds_ahead _ _ _ _ _ _ hH.out) hsU t (by omega)
                                have hfw : ∀ t, t < d.size → wr.frozen? ⟨blk, off + t, none⟩ = false := fun t ht => by
                                  rw [w3e, lbPut, frozen?_putRow]; exact ((holds_ahead _ _ m3 _ _ _ hH.out) t ht).2
                                have hW : Hid (wr = lbPut w m3 blk off U) := w3e
                                have hg : Hid (∀ t, g t = U[t]!) := hg0
                                clear w3e hg0 hU0
                                go_wp2
                                all_goals first
                                  | (at_region 22
                                     go_quiet (first | (go_at_call 75; refine Calls.quiet_of_same (lbLess_any _ _ _)))
                                     go_wp2
                                     all_goals first
                                       | (at_region 23
                                          have hl : ltL (g j) (g (j - 1)) = true := by first | assumption | exact decide_eq_true (by assumption) | (have q : (!ltL (g j) (g (j - 1))) = false := (by assumption); simpa using q)
                                          go_region
                                          all_goals go_wp2
                                          go_roundw
                                          case rel =>
                                            refine ⟨j + 1, m3 + (nq + 1), swp U j (j - 1), by go_num, by omega, by omega, by rw [size_swp]; exact hsU, ?_, ?_⟩
                                            · rw [hW.out, hg.out, hg.out]
                                              exact swap_worldA lbV w m3 (nq + 1) blk off U j (j - 1) (by omega) (by omega)
                                            · rw [← hU.out, shiftUp_go ltL b j U (by omega) (by rw [← hg.out, ← hg.out]; exact hl)]
                                          case measure => simp [intOf]; omega)
                                       | (at_end
                                          have hl : ltL (g j) (g (j - 1)) = false := by first | assumption | exact decide_eq_false (by assumption) | exact decide_eq_false (Nat.not_lt.2 (by assumption)) | (have q : (!ltL (g j) (g (j - 1))) = true := (by assumption); simpa using q)
                                          go_roundw
                                          case rel =>
                                            refine ⟨k, s + 1, _, U, rfl, by go_num, by omega, by omega, by omega, hsU, (by first | rfl | exact hW.out | (rw [hW.out]; exact putRow_drewN _ _ _ _ _ _ _)), ?_⟩
                                            rw [← hO.out, pi_go ltL a b s i k E hs hK.out (by omega) (by omega), hD.out, show fixUp ltL b k (swp E k (k - 1)) = U from by unfold fixUp; rw [if_pos (by omega), ← hU.out, shiftUp_stop ltL b j U (Or.inr (by rw [← hg.out, ← hg.out]; exact hl))]]
                                          case measure => simp [intOf]; omega))
                                  | (at_end
                                     go_roundw
                                     case rel =>
                                       refine ⟨k, s + 1, _, U, rfl, by go_num, by omega, by omega, by omega, hsU, (by first | rfl | exact hW.out | (rw [hW.out]; exact putRow_drewN _ _ _ _ _ _ _)), ?_⟩
                                       rw [← hO.out, pi_go ltL a b s i k E hs hK.out (by omega) (by omega), hD.out, show fixUp ltL b k (swp E k (k - 1)) = U from by unfold fixUp; rw [if_pos (by omega), ← hU.out, shiftUp_stop ltL b j U (Or.inl (by omega))]]
                                     case measure => simp [intOf]; omega)))))
        · go_quiet (first | (go_at_call 75; refine Calls.quiet_of_same (lbLess_any _ _ _)))
          go_wp2
          obtain rfl : k = b := by omega
          have hv : partialInsertionSort ltL d a k = (E, true) := by
            unfold partialInsertionSort
            rw [← hO.out, pi_true ltL a k s i E hs (by rw [← hS.out, scanSorted_stop ltL E k k (Or.inl (by omega))])]
          rw [hv]
          go_ret
          exact ⟨rfl, m + nq, by rw [hW.out]; exact putRow_drewN _ _ _ _ _ _ _⟩
    · obtain rfl : s = 5 := by omega
      have hv : partialInsertionSort ltL d a b = (E, false) := by
        unfold partialInsertionSort
        rw [← hO.out, pi_end]
      rw [hv]
      go_ret
      exact ⟨rfl, n, rfl⟩
end Go.Proofs.YtfibbjnkicjbpaaGreatDoor
/- The library's pattern-defeating quicksort and its sort over labels: by contracts. -/
namespace Go.Proofs.YtfibbjnkicjbpaaGreatDoor
open Go Go.RowKit Go.Sort

theorem swoL : SWO ltL where
  irrefl x := by simp [ltL]
  trans x y z h1 h2 := by simp only [ltL, decide_eq_true_eq] at *; omega
  ntrans x y z h1 h2 := by simp only [ltL, decide_eq_false_iff_not] at *; omega

set_option maxHeartbeats 6400000 in
set_option maxRecDepth 1000000 in
theorem lbPdq_any : ∀ (N blk off cap a b limit : Nat) (d : Array Nat) (w : World), b - a < N → Holds lbV w blk off d → blk < w.heap.size → a ≤ b → b ≤ d.size → d.size < 4611686018427387904 → limit < 4611686018427387904 → Sort.Below ltL a b d →
    Calls Tryz.prog 46 #[.slice (some ⟨blk, off, none⟩) d.size cap, .int .i64 a, .int .i64 b, .int .i64 limit] w fun e w' => e = .returned (.tuple #[]) ∧ At lbV w blk off (pdq ltL d a b limit true true) w' := by
  have pIns : insertionSort_stmt ltL := insertionSort_holds
  have pPar : partialInsertionSort_stmt ltL := partialInsertionSort_holds
  have pPrt : partition_stmt ltL := partition_holds _
  have pPeq : partitionEqual_stmt ltL := partitionEqual_holds _
  have pPdq : pdq_stmt ltL := pdq_sorts _
  intro N
  induction N with
  | zero => intro _ _ _ _ _ _ _ _ h; exact absurd h (Nat.not_lt_zero _)
  | succ N ih =>
    intro blk off cap a b limit d w hN hH hblk hab hb hsz hlimit hBel0
    go_enter Tryz.func46, Tryz.ntmps46
    go_wp2
    go_loopg [1, 2, 3, 8, 9] (b - a) (fun k v1 v2 v3 v8 v9 W => ∃ (x y lim : Nat) (wb wp : Bool) (E : Array Nat), v1 = .int .i64 x ∧ v2 = .int .i64 y ∧ v3 = .int .i64 lim ∧ v8 = .bool wb ∧ v9 = .bool wp ∧
      x ≤ y ∧ y ≤ d.size ∧ y - x ≤ k ∧ k ≤ b - a ∧ lim ≤ limit ∧ E.size = d.size ∧ Sort.Below ltL x y E ∧ At lbV w blk off E W ∧ pdq ltL E x y lim wb wp = pdq ltL d a b limit true true)
    case atStart => exact ⟨a, b, limit, true, true, d, rfl, rfl, rfl, rfl, rfl, hab, hb, Nat.le_refl _, Nat.le_refl _, Nat.le_refl _, rfl, hBel0, At.refl hH, rfl⟩
    case round =>
      obtain ⟨x, y, lim, wb, wp, E, rfl, rfl, rfl, rfl, rfl, hxy, hy, hk, hkN, hlim, hs, hBel, hAt, heq⟩ := hrel
      obtain ⟨hHk, hblk'⟩ := hAt.holds hH hs hblk
      have hA : Aside (pdq ltL E x y lim wb wp = pdq ltL d a b limit true true) := heq
      clear heq
      by_cases h12 : y - x ≤ 12
      · have h12z : (y : Int) - (x : Int) ≤ 12 := by omega
        have hc := lbInsert_any blk off cap x y E wr hHk hxy (by omega) (by omega)
        rw [hs] at hc
        go_wp2_with (go_at_call 69; refine hc.mono ?_; rintro e w1 ⟨rfl, hw1⟩)
        (try simp only [Exit.inBlock, Exit.then]); refine bodyPost_ret (results_none rfl _ _ _) rfl ?_
        refine ⟨rfl, ?_⟩
        rw [← hA.out, pdq_small h12]
        exact hAt.step hblk (pIns swoL E x y hxy (by omega)).1.1 hw1
      · have h12z : ¬ ((y : Int) - (x : Int) ≤ 12) := by omega
        by_cases hl0 : lim = 0
        · subst hl0
          have hc := lbHeap_any blk off d.size cap E hs x y wr hHk hxy (by omega) (by omega)
          go_wp2_with (go_at_call 70; refine hc.mono ?_; rintro e w1 ⟨rfl, hw1⟩)
          (try simp only [Exit.inBlock, Exit.then]); refine bodyPost_ret (results_none rfl _ _ _) rfl ?_
          refine ⟨rfl, ?_⟩
          rw [← hA.out, pdq_heap h12 rfl]
          exact hAt.step hblk (heapSort_holds swoL E x y hxy (by omega)).1.1 hw1
        · have hl0z : ¬ ((lim : Int) = 0) := by omega
          obtain ⟨s1, B1, hc1, s2, B2, hpv, s3, B3⟩ := rd_facts (limit := lim) (wb := wb) (wp := wp) swoL pPar reverseRange_holds (show x < y by omega) (show y ≤ E.size by omega) hBel
          go_upto_if 35 with fail
          go_cut [3] from 19 (fun v3 wc => v3 = .int .i64 (rd ltL E x y lim wb wp).lim ∧ At lbV w blk off (rd ltL E x y lim wb wp).d1 wc)
          case first =>
            cases wb
            · have hc := lbBreak_any blk off cap x y E wr hHk hblk' hxy (by omega) (by omega)
              rw [hs] at hc
              go_wp2_with (go_at_call 71; refine hc.mono ?_; rintro e w1 ⟨rfl, hw1⟩)
              go_meet
              case rel =>
                refine ⟨?_, hAt.stepG hblk s1 hw1⟩
                show Value.int .i64 ((lim : Int) - 1) = Value.int .i64 ((lim - 1 : Nat) : Int)
                congr 1
                omega
            · go_wp2_with fail
              go_meet
              case rel => exact ⟨rfl, hAt⟩
          case rest =>
            obtain ⟨rfl, hAt1⟩ := hcut
            obtain ⟨hH1, hblk1⟩ := hAt1.holds hH (s1.trans hs) hblk
            have hcP : Calls Tryz.prog 72 #[.slice (some ⟨blk, off, none⟩) d.size cap, .int .i64 x, .int .i64 y] wc fun e w' => e = .returned (.tuple #[.int .i64 (rd ltL E x y lim wb wp).c.1, .int .i64 (hintCode (rd ltL E x y lim wb wp).c.2)]) ∧ ∃ n os, w' = grow (Sort.ahead wc n) os := by
              have := lbPivot_any blk off cap x y (rd ltL E x y lim wb wp).d1 wc hH1 hblk1 (by omega) (by omega) (by omega)
              rw [s1, hs] at this
              exact this
            go_upto_if 50 with (go_at_call 72; refine hcP.mono ?_; rintro e w2 ⟨rfl, hw2⟩)
            have hAt2 : At lbV w blk off (rd ltL E x y lim wb wp).d1 w2 := hAt1.same hH (s1.trans hs) hblk hw2
            obtain ⟨hH2, hblk2⟩ := hAt2.holds hH (s1.trans hs) hblk
            go_cut [11, 12] from 19 (fun v11 v12 wc => v11 = .int .i64 (rd ltL E x y lim wb wp).pivot ∧ v12 = .int .i64 (hintCode (rd ltL E x y lim wb wp).hint) ∧ At lbV w blk off (rd ltL E x y lim wb wp).d2 wc)
            case first =>
              by_cases hh : (rd ltL E x y lim wb wp).c.2 = .decreasing
              · have hcode : hintCode (rd ltL E x y lim wb wp).c.2 = 2 := by rw [hh]; rfl
                obtain ⟨e2, epv, eht⟩ := rd_dec hh
                have hcR := lbReverse_any blk off cap (rd ltL E x y lim wb wp).d1 x y w2 hH2 hxy (by omega) (by omega)
                rw [s1, hs] at hcR
                go_wp2_with (go_at_call 73; refine hcR.mono ?_; rintro e w3 ⟨rfl, hw3⟩)
                go_meet
                case rel =>
                  refine ⟨?_, by rw [eht]; rfl, by rw [e2]; exact hAt2.step hblk (by rw [← e2, s2, s1]) hw3⟩
                  rw [epv]
                  congr 1
                  omega
              · have hcode : ¬ (hintCode (rd ltL E x y lim wb wp).c.2 = 2) := fun h => hh (hintCode_two h)
                obtain ⟨e2, epv, eht⟩ := rd_not hh
                go_wp2_with fail
                go_meet
                case rel => exact ⟨by rw [epv], by rw [eht], by rw [e2]; exact hAt2⟩
            case rest =>
              obtain ⟨rfl, rfl, hAt3⟩ := hcut
              obtain ⟨hH3, hblk3⟩ := hAt3.holds hH (s2.trans hs) hblk
              go_upto_region 15 with fail
              go_cut [12, 68] from 19 (fun v12 v68 wx => v12 = .int .i64 (hintCode (rd ltL E x y lim wb wp).hint) ∧ v68 = .bool (wb && wp && decide ((rd ltL E x y lim wb wp).hint = .increasing)) ∧ wx = wc)
              case first =>
                cases wb <;> cases wp <;> cases hh3 : (rd ltL E x y lim _ _).hint <;>
                  (have hcode3 := congrArg hintCode hh3
                   simp only [hintCode] at hcode3
                   go_wp2_with fail
                   go_meet
                   exact ⟨by simp [hh3, hintCode], by simp [hh3, hintCode], rfl⟩)
              case rest =>
                obtain ⟨rfl, rfl, rfl⟩ := hcut
                go_upto_if 68 with fail
                go_cut [] from 19 (fun wx => (rd ltL E x y lim wb wp).pi.2 = false ∧ At lbV w blk off (rd ltL E x y lim wb wp).pi.1 wx)
                case first =>
                  cases h68 : (wb && wp && decide ((rd ltL E x y lim wb wp).hint = .increasing))
                  · have epi := rd_pi_no h68
                    go_wp2_with fail
                    go_meet
                    case rel => exact ⟨by rw [epi], by rw [epi]; exact hAt3⟩
                  · have epi := rd_pi_yes h68
                    have hcI := lbPartIns_any blk off cap x y (rd ltL E x y lim wb wp).d2 wc hH3 (by omega) (by omega) (by omega)
                    rw [s2, hs, ← epi] at hcI
                    go_wp2_with (go_at_call 74; refine hcI.mono ?_; rintro e w4 ⟨rfl, hw4⟩)
                    all_goals first
                      | (have hp2 : (rd ltL E x y lim wb wp).pi.2 = false := by rw [epi]; assumption
                         go_meet
                         exact ⟨hp2, hAt3.step hblk (by rw [s3, s2]) hw4⟩)
                      | (have hp2 : (rd ltL E x y lim wb wp).pi.2 = true := by rw [epi]; assumption
                         (try simp only [Exit.inBlock, Exit.then]); refine bodyPost_ret (results_none rfl _ _ _) rfl ?_
                         refine ⟨rfl, ?_⟩
                         rw [← hA.out, pdq_done h12 hl0 hp2]
                         exact hAt3.step hblk (by rw [s3, s2]) hw4)
                case rest =>
                  obtain ⟨hp2, hAt5⟩ := hcut
                  obtain ⟨hH5, hblk5⟩ := hAt5.holds hH (s3.trans hs) hblk
                  have hcell : ∀ t, t < d.size → wc.cell? ⟨blk, off + t, none⟩ = some (.int .u64 (rd ltL E x y lim wb wp).pi.1[t]!) := fun t ht => (hH5 t (by omega)).1
                  have hfree : ∀ t, t < d.size → wc.frozen? ⟨blk, off + t, none⟩ = false := fun t ht => (hH5 t (by omega)).2
                  go_upto_region 17 with fail
                  go_cut [87] from 19 (fun v87 wx => v87 = .bool (decide (x > 0) && !ltL (rd ltL E x y lim wb wp).pi.1[x - 1]! (rd ltL E x y lim wb wp).pi.1[(rd ltL E x y lim wb wp).pivot]!) ∧ At lbV w blk off (rd ltL E x y lim wb wp).pi.1 wx)
                  case first =>
                    rcases Nat.eq_zero_or_pos x with ha0 | ha0
                    · have ha0z : decide ((x : Int) > 0) = false := decide_eq_false (by omega)
                      go_big_quiet (first | (go_at_call 75; refine Calls.quiet_of_same (lbLess_any _ _ _)))
                      go_wp2_with fail
                      go_meet
                      case rel => exact ⟨by simp [ha0], hAt5.ahead nq⟩
                    · have ha0z : (x : Int) > 0 := by omega
                      go_big_quiet (first | (go_at_call 75; refine Calls.quiet_of_same (lbLess_any _ _ _)))
                      go_wp2_with fail
                      go_meet
                      case rel => exact ⟨by simp [ha0, ltL], hAt5.ahead nq⟩
                  case rest =>
                    obtain ⟨rfl, hAt6⟩ := hcut
                    obtain ⟨hH6, hblk6⟩ := hAt6.holds hH (s3.trans hs) hblk
                    clear hcell hfree
                    cases h87 : (decide (x > 0) && !ltL (rd ltL E x y lim wb wp).pi.1[x - 1]! (rd ltL E x y lim wb wp).pi.1[(rd ltL E x y lim wb wp).pivot]!)
                    · obtain ⟨mid, ap, D, hx⟩ : ∃ mid ap D, partition ltL (rd ltL E x y lim wb wp).pi.1 x y (rd ltL E x y lim wb wp).pivot = (mid, ap, D) := ⟨(partition ltL (rd ltL E x y lim wb wp).pi.1 x y (rd ltL E x y lim wb wp).pivot).1, (partition ltL (rd ltL E x y lim wb wp).pi.1 x y (rd ltL E x y lim wb wp).pivot).2.1, (partition ltL (rd ltL E x y lim wb wp).pi.1 x y (rd ltL E x y lim wb wp).pivot).2.2, rfl⟩
                      obtain ⟨r1, r2, r3, r4, r5, r6, r7⟩ := round_part swoL pPrt hpv.1 hpv.2 (show y ≤ (rd ltL E x y lim wb wp).pi.1.size by omega) B3 hx
                      have hcT := lbPart_any blk off cap x y (rd ltL E x y lim wb wp).pivot (rd ltL E x y lim wb wp).pi.1 wc hH6 hpv.1 hpv.2 (by omega) (by omega)
                      rw [s3, hs, hx] at hcT
                      have X : Aside (partition ltL (rd ltL E x y lim wb wp).pi.1 x y (rd ltL E x y lim wb wp).pivot = (mid, ap, D)) := hx
                      clear hx
                      go_upto_if 113 with (go_at_call 77; refine hcT.mono ?_; rintro e w7 ⟨rfl, hw7⟩)
                      have hx := X.out
                      have hAt7 : At lbV w blk off D w7 := hAt6.step hblk r3 hw7
                      obtain ⟨hH7, hblk7⟩ := hAt7.holds hH (r3.trans (s3.trans hs)) hblk
                      by_cases h4 : mid - x < y - mid
                      · have h4z : (mid : Int) - (x : Int) < (y : Int) - (mid : Int) := by omega
                        have hih := ih blk off cap x mid (rd ltL E x y lim wb wp).lim D w7 (by omega) hH7 hblk7 (by omega) (by omega) (by omega) (Nat.lt_of_le_of_lt (Nat.le_trans rd_lim_le hlim) hlimit) r4
                        rw [r3, s3, hs] at hih
                        obtain ⟨pL, sL⟩ := pPdq swoL D x mid (rd ltL E x y lim wb wp).lim true true (by omega) (by omega) r4
                        go_wp2_with (go_at_call 46; refine hih.mono ?_; rintro e w8 ⟨rfl, hw8⟩)
                        go_roundg (y - (mid + 1))
                        case measure => omega
                        case rel =>
                          refine ⟨mid + 1, y, (rd ltL E x y lim wb wp).lim, decide (mid - x ≥ (y - x) / 8), ap, pdq ltL D x mid (rd ltL E x y lim wb wp).lim true true, by simp, rfl, rfl, ?_, rfl, by omega, by omega, Nat.le_refl _, by omega, Nat.le_trans rd_lim_le hlim, by rw [pL.1, r3, s3, hs], (r6 _ pL sL).1, hAt7.stepG hblk pL.1 hw8, ?_⟩
                          · exact congrArg Value.bool (eighth (by omega) (by omega))
                          · rw [← hA.out, pdq_left h12 hl0 hp2 h87 (by rw [hx]; exact ⟨r1, r2⟩) (by rw [hx]; exact h4), hx]
                      · have h4z : ¬ ((mid : Int) - (x : Int) < (y : Int) - (mid : Int)) := by omega
                        have hih := ih blk off cap (mid + 1) y (rd ltL E x y lim wb wp).lim D w7 (by omega) hH7 hblk7 (by omega) (by omega) (by omega) (Nat.lt_of_le_of_lt (Nat.le_trans rd_lim_le hlim) hlimit) r5
                        rw [r3, s3, hs] at hih
                        obtain ⟨pL, sL⟩ := pPdq swoL D (mid + 1) y (rd ltL E x y lim wb wp).lim true true (by omega) (by omega) r5
                        go_wp2_with (go_at_call 46; refine hih.mono ?_; rintro e w8 ⟨rfl, hw8⟩)
                        go_roundg (mid - x)
                        case measure => omega
                        case rel =>
                          refine ⟨x, mid, (rd ltL E x y lim wb wp).lim, decide (y - mid ≥ (y - x) / 8), ap, pdq ltL D (mid + 1) y (rd ltL E x y lim wb wp).lim true true, rfl, rfl, rfl, ?_, rfl, by omega, by omega, Nat.le_refl _, by omega, Nat.le_trans rd_lim_le hlim, by rw [pL.1, r3, s3, hs], (r7 _ pL sL).1, hAt7.stepG hblk pL.1 hw8, ?_⟩
                          · exact congrArg Value.bool (eighth (by omega) (by omega))
                          · rw [← hA.out, pdq_right h12 hl0 hp2 h87 (by rw [hx]; exact ⟨r1, r2⟩) (by rw [hx]; exact h4), hx]
                    · have h87' := h87
                      simp only [Bool.and_eq_true, decide_eq_true_eq, Bool.not_eq_true'] at h87'
                      obtain ⟨mid, D, hx⟩ : ∃ mid D, partitionEqual ltL (rd ltL E x y lim wb wp).pi.1 x y (rd ltL E x y lim wb wp).pivot = (mid, D) := ⟨(partitionEqual ltL (rd ltL E x y lim wb wp).pi.1 x y (rd ltL E x y lim wb wp).pivot).1, (partitionEqual ltL (rd ltL E x y lim wb wp).pi.1 x y (rd ltL E x y lim wb wp).pivot).2, rfl⟩
                      obtain ⟨r1, r2, r3, r4, _⟩ := round_eq swoL pPeq h87'.1 hpv.1 hpv.2 (show y ≤ (rd ltL E x y lim wb wp).pi.1.size by omega) B3 h87'.2 hx
                      have hcE := lbPartEq_any blk off cap x y (rd ltL E x y lim wb wp).pivot (rd ltL E x y lim wb wp).pi.1 wc hH6 hpv.1 hpv.2 (by omega) (by omega)
                      rw [s3, hs, hx] at hcE
                      have X : Aside (partitionEqual ltL (rd ltL E x y lim wb wp).pi.1 x y (rd ltL E x y lim wb wp).pivot = (mid, D)) := hx
                      clear hx
                      go_wp2_with (go_at_call 76; refine hcE.mono ?_; rintro e w7 ⟨rfl, hw7⟩)
                      go_roundg (y - mid)
                      case measure => omega
                      case rel =>
                        have hx := X.out
                        exact ⟨mid, y, (rd ltL E x y lim wb wp).lim, wb, wp, D, rfl, rfl, rfl, rfl, rfl, r2, hy, Nat.le_refl _, by omega, Nat.le_trans rd_lim_le hlim, by rw [r3, s3, hs], r4, hAt6.step hblk r3 hw7, by rw [← hA.out, pdq_eq h12 hl0 hp2 h87 (by rw [hx]; exact ⟨r1, r2⟩), hx]⟩
end Go.Proofs.YtfibbjnkicjbpaaGreatDoor
/- slices.Sort over labels: by a contract. -/
namespace Go.Proofs.YtfibbjnkicjbpaaGreatDoor
open Go Go.RowKit Go.Sort

set_option maxRecDepth 100000 in
theorem lbSort_any (blk off cap : Nat) (d : Array Nat) (w : World) (hH0 : Holds lbV w blk off d) (hblk : blk < w.heap.size) (hsz : d.size < 4611686018427387904) :
    Calls Tryz.prog 24 #[.slice (some ⟨blk, off, none⟩) d.size cap] w fun e w' => e = .returned (.tuple #[]) ∧ At lbV w blk off (Sort.sort ltL d) w' := by
  have hH : Hid (Holds lbV w blk off d) := hH0
  clear hH0
  have hk : bitsLen d.size ≤ 62 := (bitsLen_le_iff d.size 62).2 (by omega)
  have cL := fun w => lbLen_any d.size hsz w
  have cP := fun w (h : Holds lbV w blk off d) (hb : blk < w.heap.size) => lbPdq_any (d.size + 1) blk off cap 0 d.size (bitsLen d.size) d w (by omega) h hb (Nat.zero_le _) (Nat.le_refl _) hsz (by omega) (Or.inl rfl)
  go_enter Tryz.func24, Tryz.ntmps24
  go_wp2_with (first
    | (go_at_call 47; refine (cL _).mono ?_; rintro e w' ⟨rfl, rfl⟩)
    | (go_at_call 46; refine (cP _ (by exact hH.out) (by exact hblk)).mono ?_; rintro e w' ⟨rfl, hw⟩))
  go_end0
  exact ⟨rfl, hw⟩
end Go.Proofs.YtfibbjnkicjbpaaGreatDoor
/- slices.Sort and slices.Compact over a row of labels that the call owns, by contracts. -/
namespace Go.Proofs.YtfibbjnkicjbpaaGreatDoor
open Go Go.RowKit Go.Maps Go.Sort Go.Lib Go.Shelf

theorem below_grow {B : Nat} {w0 w : World} (h : Below B w0 w) (os : Array Obj) (hB : B ≤ w.heap.size) : Below B w0 (grow w os) :=
  ⟨h.os, h.tape, h.output, by rw [Sort.size_grow]; have := h.size; omega, fun k hk => by rw [← h.block k hk, Sort.heap_grow_old w os (by omega)]⟩

def cmp_ren : Go.Shelf.Ren := ⟨fun | 43 => 25 | n => n, fun | 0 => 0 | 3 => 3 | 4 => 4 | 22 => 31 | 23 => 25 | n => n, fun n => n⟩
theorem cmp43 : SlLaysE.n43 Tryz.prog cmp_ren where
  mixed := by kernel_rfl
  f43 := ⟨"slices.Compact[[]scrim/api.Label,scrim/api.Label]", by decide, Tryz.func25.trans (congrArg some (by kernel_rfl))⟩
  t0 := Tryz.underlying0
  a0 := Tryz.isAgg0
  z0 := Tryz.sizeOf0
  v0 := Tryz.zeroValue0
  t3 := Tryz.underlying3
  a3 := Tryz.isAgg3
  z3 := Tryz.sizeOf3
  v3 := Tryz.zeroValue3
  t4 := Tryz.underlying4
  a4 := Tryz.isAgg4
  z4 := Tryz.sizeOf4
  v4 := Tryz.zeroValue4
  t22 := Tryz.underlying31
  a22 := Tryz.isAgg31
  z22 := Tryz.sizeOf31
  v22 := Tryz.zeroValue31
  a23 := Tryz.isAgg25
  z23 := Tryz.sizeOf25

theorem lbV_one : OneCell lbV := by intro _; rfl
theorem lbV_guard (T : TypeId) : GuardAt Tryz.prog T lbV := fun op a b x y w => (EqlAt.intD Tryz.prog T .u64).2 op a b (x : Int) (y : Int) w
theorem nat_dec (x y : Nat) : decide ((x : Int) = (y : Int)) = decide (x = y) := by rw [Bool.eq_iff_iff, decide_eq_true_eq, decide_eq_true_eq]; omega
theorem lbV_eq (T : TypeId) : EqlAt Tryz.prog T lbV (fun x y => decide (x = y)) :=
  ⟨fun x y w => ((EqlAt.intD Tryz.prog T .u64).1 (x : Int) (y : Int) w).trans (by show Result.ok (Value.bool (decide ((x : Int) = (y : Int)))) w = _; rw [nat_dec]), lbV_guard T⟩
theorem lbV_neq (T : TypeId) : NeqAt Tryz.prog T lbV (fun x y => decide (x = y)) :=
  ⟨fun x y w => ((NeqAt.intD Tryz.prog T .u64).1 (x : Int) (y : Int) w).trans (by show Result.ok (Value.bool (!decide ((x : Int) = (y : Int)))) w = _; rw [nat_dec]), lbV_guard T⟩

theorem lbInsert_none (cap : Nat) (w : World) : Calls Tryz.prog 69 #[.slice none 0 cap, .int .i64 0, .int .i64 0] w fun e w' => e = .returned (.tuple #[]) ∧ w' = w := by
  go_enter Tryz.func69, Tryz.ntmps69
  go_wp2
  go_loopg [6] 0 (fun g vi wr => g = 0 ∧ vi = .int .i64 1 ∧ w = wr)
  case atStart => exact ⟨rfl, rfl, rfl⟩
  case round =>
    obtain ⟨rfl, rfl, rfl⟩ := hrel
    go_wp2
    go_end0
    exact ⟨rfl, rfl⟩
set_option maxRecDepth 100000 in
theorem lbPdq_none (cap lim : Nat) (w : World) : Calls Tryz.prog 46 #[.slice none 0 cap, .int .i64 0, .int .i64 0, .int .i64 lim] w fun e w' => e = .returned (.tuple #[]) ∧ w' = w := by
  have cI := fun W => lbInsert_none cap W
  go_enter Tryz.func46, Tryz.ntmps46
  go_wp2
  go_loopg [1, 2, 3, 8, 9] 0 (fun k v1 v2 v3 v8 v9 W => v1 = .int .i64 0 ∧ v2 = .int .i64 0 ∧ v3 = .int .i64 lim ∧ v8 = .bool true ∧ v9 = .bool true ∧ w = W)
  case atStart => exact ⟨rfl, rfl, rfl, rfl, rfl, rfl⟩
  case round =>
    obtain ⟨rfl, rfl, rfl, rfl, rfl, rfl⟩ := hrel
    go_wp2_with (go_at_call 69; refine (cI _).mono ?_; rintro e w1 ⟨rfl, rfl⟩)
    (try simp only [Exit.inBlock, Exit.then]); refine bodyPost_ret (results_none rfl _ _ _) rfl ?_
    exact ⟨rfl, rfl⟩
theorem lbSort_none (cap : Nat) (w : World) : Calls Tryz.prog 24 #[.slice none 0 cap] w fun e w' => e = .returned (.tuple #[]) ∧ w' = w := by
  have cL := fun w => lbLen_any 0 (by decide) w
  have cP := fun (k : Nat) w => lbPdq_none cap k w
  go_enter Tryz.func24, Tryz.ntmps24
  go_wp2_with (first
    | (go_at_call 47; refine (cL _).mono ?_; rintro e w' ⟨rfl, rfl⟩)
    | (go_at_call 46; refine (cP _ _).mono ?_; rintro e w' ⟨rfl, rfl⟩))
  go_end0
  exact ⟨rfl, rfl⟩
theorem lbComp_none (cap : Nat) (w : World) : Calls Tryz.prog 25 #[.slice none 0 cap] w fun e w' => e = .returned (.slice none 0 cap) ∧ w' = w := by
  go_enter Tryz.func25, Tryz.ntmps25
  go_wp2
  go_ret
  exact ⟨rfl, rfl⟩
theorem own_none {W : World} {B : Nat} {e : TypeId} {n : Nat} {cs : List Value} (h : W.ownsRow B e 1 (.slice none 0 0) n cs) : n = 0 := by
  rcases h.2 with ⟨_, h0⟩ | ⟨g, cap, cur, hv, _⟩
  · exact h0
  · cases hv
/-- slices.Sort over a row of labels of the call's own. -/
theorem sortOwn_any (B : Nat) (cs : List Nat) (v : Value) (n : Nat) (w : World) (hn : cs.length = n) (hsz : n < 4611686018427387904) (hown : w.ownsRow B 25 1 v n (labVals cs)) :
    Calls Tryz.prog 24 #[v] w fun e w' => e = .returned (.tuple #[]) ∧ w'.ownsRow B 25 1 v n (labVals (Sort.sort ltL cs.toArray).toList) ∧ (∀ w0, Below B w0 w → Below B w0 w') := by
  by_cases hv : v = .slice none 0 0
  · subst hv
    have h0 := own_none hown
    subst h0
    have hc : cs = [] := List.eq_nil_of_length_eq_zero hn
    subst hc
    refine (lbSort_none 0 w).mono ?_
    rintro e w' ⟨rfl, rfl⟩
    have hp := sortL_perm #[]
    have hs : (Sort.sort ltL #[]).toList = [] := List.eq_nil_of_length_eq_zero (by rw [hp.length_eq]; rfl)
    exact ⟨rfl, by rw [show ([] : List Nat).toArray = #[] from rfl, hs]; exact hown, fun _ h => h⟩
  · obtain ⟨g, cap, rfl, hBg, hg, hnc, hcm, hl, hH⟩ := holds_of_ownsRow hown hv
    have hz : cs.toArray.size = n := by simpa using hn
    have c := lbSort_any g 0 cap cs.toArray w hH hg (by omega)
    rw [hz] at c
    refine c.mono ?_
    rintro e w' ⟨rfl, q, os, rfl⟩
    have hp := sortL_perm cs.toArray
    have hlen : (Sort.sort ltL cs.toArray).toList.length = n := by rw [hp.length_eq]; simpa using hn
    have ho := ownsRow_putRow (q := q) (ys := (Sort.sort ltL cs.toArray).toList) hown hlen (Nat.le_refl n)
    rw [List.take_of_length_le (by omega)] at ho
    refine ⟨rfl, ?_, fun w0 hb => ?_⟩
    · exact ownsAny_later ho (below_grow (Below.refl _ _) os (Nat.le_refl _))
    · exact below_grow (below_putRow hb hBg) os (by simp; omega)
/-- slices.Compact over a row of labels of the call's own. -/
theorem compOwn_any (B : Nat) (cs : List Nat) (v : Value) (n : Nat) (w : World) (hn : cs.length = n) (hsz : n < 4611686018427387904) (hown : w.ownsRow B 25 1 v n (labVals cs)) :
    Calls Tryz.prog 25 #[v] w fun e w' => ∃ p c k, e = .returned (.slice p k c) ∧ k = (compactUpTo cs.toArray n).length ∧ w'.ownsRow B 25 1 (.slice p k c) k (labVals (compactUpTo cs.toArray n)) ∧ (∀ w0, Below B w0 w → Below B w0 w') := by
  by_cases hv : v = .slice none 0 0
  · subst hv
    have h0 := own_none hown
    subst h0
    have hc : cs = [] := List.eq_nil_of_length_eq_zero hn
    subst hc
    refine (lbComp_none 0 w).mono ?_
    rintro e w' ⟨rfl, rfl⟩
    exact ⟨none, 0, 0, rfl, rfl, hown, fun _ h => h⟩
  · obtain ⟨g, cap, rfl, hBg, hg, hnc, hcm, hl, hH⟩ := holds_of_ownsRow hown hv
    have hz : cs.toArray.size = n := by simpa using hn
    have c := AnyE.slices_Compact cmp43 lbV lbV_one (lbV_eq _) (lbV_neq _) 0 (fun w => Tryz.zeroValue25 w) g 0 cap cs.toArray w hH (by omega) (by omega)
    rw [hz] at c
    refine c.mono ?_
    rintro e w' ⟨rfl, q, rfl⟩
    have hk : (compactUpTo cs.toArray n).length ≤ n := by
      unfold compactUpTo
      rw [List.length_map]
      exact Nat.le_trans (List.length_filter_le _ _) (by simp)
    have ho := ownsRow_putRow (q := q) (ys := compactUpTo cs.toArray n ++ List.replicate (n - (compactUpTo cs.toArray n).length) 0) hown (by simp; omega) hk
    rw [List.take_left' rfl] at ho
    exact ⟨_, _, _, rfl, rfl, ho, fun w0 hb => below_putRow hb hBg⟩
end Go.Proofs.YtfibbjnkicjbpaaGreatDoor
/- policy.Clearances, by its contract. -/
namespace Go.Proofs.YtfibbjnkicjbpaaGreatDoor
open Go Go.RowKit Go.Maps Go.Lib

/-- A list of labels handed out. -/
def GivesLab (w : World) (cs : List Nat) (e : Ending) (w' : World) : Prop := Below w.heap.size w w' ∧ ∃ p c, e = .returned (.slice p cs.length c) ∧ LabRow w' p cs ∧ w'.ownsRow w.heap.size 25 1 (.slice p cs.length c) cs.length (labVals cs)
def cls (l : List Vw) : List Nat := l.map (·.c)
theorem cls_snoc {l : List Vw} {k : Nat} (hk : k < l.length) : cls (l.take (k + 1)) = cls (l.take k) ++ [l[k].c] := by
  unfold cls
  rw [List.take_succ_eq_append_getElem hk, List.map_append]; rfl
theorem labInfo : (Tryz.prog.info? 25).map (fun i => (i.zero, i.size, i.bytes)) = some (some (.int .u64 0), 1, 8) := by kernel_rfl

set_option maxRecDepth 100000 in
set_option maxHeartbeats 2000000 in
theorem clearances_any (v : Value) (l : List Vw) (w : World) (hp : PolAt w v l) : Calls Tryz.prog 9 #[v] w (GivesLab w (clrL l)) := by
  have cV := viewers_any v l w hp
  have h64 := hp.ok.1
  obtain ⟨i0, hi, hz0, hz1, hz2⟩ := info_parts labInfo
  obtain ⟨p, b, rfl, _⟩ := hp.at'
  clear hp
  obtain ⟨n, hn⟩ : ∃ n, l.length = n := ⟨_, rfl⟩
  have HN := Lib.hid hn
  unfold GivesVw at cV
  rw [hn] at h64 cV
  clear hn
  have cS := fun W v ho => sortOwn_any w.heap.size (cls l) v n W (by unfold cls; rw [List.length_map]; exact HN.out) (by omega) ho
  have cC := fun W v ho => compOwn_any w.heap.size (Sort.sort ltL (cls l).toArray).toList v n W (by rw [(sortL_perm _).length_eq]; unfold cls; simp; exact HN.out) (by omega) ho
  have hfin := Lib.hid (show compactUpTo (Sort.sort ltL (cls l).toArray) n = clrL l from by
    have := compact_sorted (cls l)
    rw [show (cls l).length = n by unfold cls; rw [List.length_map]; exact HN.out] at this
    exact this)
  rw [Array.toArray_toList] at cC
  rw [hfin.out] at cC
  have CS : Aside _ := cS
  have CC : Aside _ := cC
  clear cS cC
  go_enter Tryz.func9, Tryz.ntmps9
  go_wp2_with (go_at_call 8; refine cV.mono ?_; rintro e w1 ⟨hb1, p1, c1, rfl, hr, ho⟩)
  have hs1 := hb1.size
  clear ho cV
  go_loopg [3, 9] n (fun g u vi wr => ∃ k : Nat, k + g = n ∧ vi = .int .i64 k ∧ Below w1.heap.size w1 wr ∧ Hid (wr.ownsRow w1.heap.size 25 1 u k (labVals (cls (l.take k)))))
  case atStart => exact ⟨0, by omega, rfl, Below.refl _ _, by rw [List.take_zero]; exact World.ownsRow_nil _ _ _ _⟩
  case round =>
    obtain ⟨k, hk, rfl, hbr, HO⟩ := hrel
    have hsr := hbr.size
    by_cases hlt : k < n
    · have hlt' : k < l.length := by rw [HN.out]; exact hlt
      obtain ⟨b1, o1, rfl, hb1', h1c⟩ := hr.at k hlt'
      obtain ⟨g1, g2⟩ := h1c wr hbr
      have hsn : Hid (labVals (cls (l.take (k + 1))) = labVals (cls (l.take k)) ++ [lbV l[k].c]) := by
        show labVals (cls (l.take (k + 1))) = _
        rw [cls_snoc hlt', labVals_snoc]
      generalize l[k] = x at *
      have ho' := HO.out.alloc (.cells #[.string (bs x.s), .int .u64 x.c] 40)
      have HB := Lib.hid hbr
      clear h1c hbr HO
      go_wp2_with (first
        | (at_builtin; refine wpList_append_own _ rfl _ _ 31 rfl w1.heap.size 25 i0 (.int .u64 0) 1 8 Tryz.underlying31 hi hz0 hz1 hz2 rfl (by decide) _ _ _ rfl (ho'.alloc _) ⟨wr.heap.size + 1, 0, none⟩ 1 1 [.int .u64 x.c] rfl rfl ?c1 ?c2 ?c3 ?c4 ?c5 ?_))
      case c1 =>
        intro j u hj
        match j, hj with
        | 0, hj => simp at hj; subst hj; simp [Addr.add]
      case c2 => intro u hu; simp at hu; subst hu; rfl
      case c3 => unfold maxLen; omega
      case c4 => omega
      case c5 => simp; omega
      intro u' w3 hown' hgrow _
      have hb3 : Below w1.heap.size w1 w3 := ((HB.out.alloc (by omega) _).alloc (by simp; omega) _).grown hgrow (by simp; omega) (fun g hg => (ho'.lt g hg).1)
      have HO2 : Hid (w3.ownsRow w1.heap.size 25 1 u' (k + 1) (labVals (cls (l.take (k + 1))))) := by rw [hsn.out]; exact hown'
      clear ho' hown' hgrow hsn
      go_wp2_with fail
      go_roundg (gk - 1)
      case rel => exact ⟨k + 1, by omega, by go_num, hb3, HO2⟩
      case measure => omega
    · obtain rfl : k = n := by omega
      have hall : l.take k = l := by rw [← HN.out]; exact List.take_length
      have HO2 := Lib.hid (base_le HO.out hs1)
      rw [hall] at HO2
      have HB := Lib.hid (hb1.trans (hbr.mono hs1))
      clear HO hbr hall hb1 hr
      go_wp2_with (first
        | (go_at_call 24; refine (CS.out _ _ (by exact HO2.out)).mono ?_; rintro e w4 ⟨rfl, HO4, HB4⟩; have HO5 := Lib.hid HO4; have HB5 := Lib.hid (HB4 _ HB.out); clear HO4 HB4)
        | (go_at_call 25; refine (CC.out _ _ (by exact HO5.out)).mono ?_; rintro e w6 ⟨p6, c6, k6, rfl, hk6, HO6, HB6⟩; have HO7 := Lib.hid HO6; have HK := Lib.hid hk6; have HB7 := Lib.hid (HB6 _ HB5.out); clear HO6 HB6 hk6))
      go_ret
      have hK := HK.out
      subst hK
      obtain ⟨p8, c8, e8, hrow⟩ := lab_owned rfl HO7.out
      injection e8 with e1 _ e3
      subst e1; subst e3
      exact ⟨HB7.out, _, _, rfl, hrow, HO7.out⟩
end Go.Proofs.YtfibbjnkicjbpaaGreatDoor
/- scrimlaw03.fit, by its contract. -/
namespace Go.Proofs.YtfibbjnkicjbpaaGreatDoor
open Go Go.RowKit Go.Maps

/-- The i-th name. -/
def nameF (i : Nat) : List UInt8 := [UInt8.ofNat (97 + i % 26), UInt8.ofNat (97 + i / 26)]
def fitTo (cs : List Nat) (k : Nat) : List Vw := (List.range k).map fun i => ⟨nameF i, cs.getD i 0⟩
def fitL (cs : List Nat) : List Vw := fitTo cs (min cs.length 64)
theorem fitTo_len (cs : List Nat) (k : Nat) : (fitTo cs k).length = k := by simp [fitTo]
theorem fitTo_step (cs : List Nat) (k : Nat) (h : k < cs.length) : fitTo cs (k + 1) = fitTo cs k ++ [⟨nameF k, cs[k]⟩] := by
  unfold fitTo
  rw [List.range_succ, List.map_append]
  simp [List.getD_eq_getElem?_getD, List.getElem?_eq_getElem h]
theorem names_fit (cs : List Nat) (k : Nat) : names (fitTo cs k) = (List.range k).map nameF := by
  unfold names fitTo
  rw [List.map_map]; rfl
theorem nameF_nodup : ((List.range 64).map nameF).Nodup := by decide +kernel
theorem nameF_ok : ∀ i : Fin 64, nameL (nameF i.val) = true := by decide +kernel
theorem fit_ok (cs : List Nat) (k : Nat) (hk : k ≤ 64) : okL (fitTo cs k) := by
  refine ⟨by rw [fitTo_len]; exact hk, ?_, fun x hx => ?_⟩
  · rw [names_fit]
    exact nameF_nodup.sublist ((List.range_sublist.2 hk).map _)
  · unfold fitTo at hx
    obtain ⟨i, hi, rfl⟩ := List.mem_map.1 hx
    exact nameF_ok ⟨i, by have := List.mem_range.1 hi; omega⟩
theorem fit_lo (cs : List Nat) (k : Nat) (h : ∀ c ∈ cs, c < 18446744073709551616) : Lo64 (fitTo cs k) := fun x hx => by
  unfold fitTo at hx
  obtain ⟨i, _, rfl⟩ := List.mem_map.1 hx
  show cs.getD i 0 < _
  rw [List.getD_eq_getElem?_getD]
  cases e : cs[i]? with
  | none => decide
  | some c => exact h c (List.mem_of_getElem? e)
theorem fit_text (W : World) (b k : Nat) (hk : k < 64) (h0 : W.cell? ⟨b, 0, none⟩ = some (.int .u8 (97 + ((k % 26 : Nat) : Int)))) (h1 : W.cell? ⟨b, 1, none⟩ = some (.int .u8 (97 + ((k / 26 : Nat) : Int)))) :
    (convert 64 9 (.slice (some ⟨b, 0, none⟩) 2 2)).run Tryz.prog W = .ok (.string (bs (nameF k))) W := by
  refine run_convert_bytes_back (P := Tryz.prog) _ 64 9 5 ⟨b, 0, none⟩ 2 (nameF k) Tryz.underlying64 Tryz.underlying5 Tryz.underlying9 (fun j hj => ?_)
  have e1 : (UInt8.ofNat (97 + k % 26)).toNat = 97 + k % 26 := by rw [UInt8.toNat_ofNat']; omega
  have e2 : (UInt8.ofNat (97 + k / 26)).toNat = 97 + k / 26 := by rw [UInt8.toNat_ofNat']; omega
  rcases (by have : j < 2 := hj; omega : j = 0 ∨ j = 1) with rfl | rfl
  · rw [show (⟨b, 0, none⟩ : Addr).add 0 = ⟨b, 0, none⟩ from rfl, h0]
    show some (Value.int .u8 (97 + ((k % 26 : Nat) : Int))) = some (Value.int .u8 ((UInt8.ofNat (97 + k % 26)).toNat : Int))
    rw [e1]; simp
  · rw [show (⟨b, 0, none⟩ : Addr).add 1 = ⟨b, 1, none⟩ from rfl, h1]
    show some (Value.int .u8 (97 + ((k / 26 : Nat) : Int))) = some (Value.int .u8 ((UInt8.ofNat (97 + k / 26)).toNat : Int))
    rw [e2]; simp
theorem fit_conv (w : World) (k : Nat) (hk : k < 64) :
    (convert 64 9 (.slice (some ⟨w.heap.size, 0, none⟩) 2 2)).run Tryz.prog (w.alloc (.cells #[.int .u8 (IntKind.u8.wrap (IntKind.i64.wrap (97 + (k : Int) % 26))), .int .u8 (IntKind.u8.wrap (IntKind.i64.wrap (97 + IntKind.i64.wrap ((k : Int) / 26))))] 5)).drew = .ok (.string (bs (nameF k))) (w.alloc (.cells #[.int .u8 (IntKind.u8.wrap (IntKind.i64.wrap (97 + (k : Int) % 26))), .int .u8 (IntKind.u8.wrap (IntKind.i64.wrap (97 + IntKind.i64.wrap ((k : Int) / 26))))] 5)).drew := by
  have e1 : IntKind.u8.wrap (IntKind.i64.wrap (97 + (k : Int) % 26)) = 97 + ((k % 26 : Nat) : Int) := by rw [IntKind.wrap_i64, IntKind.wrap_u8]; omega
  have e2 : IntKind.u8.wrap (IntKind.i64.wrap (97 + IntKind.i64.wrap ((k : Int) / 26))) = 97 + ((k / 26 : Nat) : Int) := by rw [IntKind.wrap_i64, IntKind.wrap_i64, IntKind.wrap_u8]; omega
  rw [e1, e2]
  refine fit_text _ _ k hk ?_ ?_
  · show (w.alloc _).cell? _ = _
    rw [World.cell?_alloc_mark]; rfl
  · show (w.alloc _).cell? _ = _
    rw [World.cell?_alloc_mark]; rfl
theorem cells_two (w : World) (x y : Value) (T : TypeId) : ∀ j u, [x, y][j]? = some u → (w.alloc (.cells #[x, y] T)).cell? ((⟨w.heap.size, 0, none⟩ : Addr).add j) = some u := by
  intro j u hj
  match j, hj with
  | 0, hj => simp at hj; subst hj; simp [Addr.add]
  | 1, hj => simp at hj; subst hj; simp [Addr.add]

theorem cells_two2 (w : World) (o : Obj) (x y : Value) (T : TypeId) : ∀ j u, [x, y][j]? = some u → ((w.alloc o).alloc (.cells #[x, y] T)).drew.cell? ((⟨w.heap.size + 1, 0, none⟩ : Addr).add j) = some u := by
  intro j u hj
  have h := cells_two (w.alloc o) x y T j u hj
  rw [show (w.alloc o).heap.size = w.heap.size + 1 by simp] at h
  exact h

set_option maxRecDepth 100000 in
set_option maxHeartbeats 4000000 in
theorem fit_any (w : World) (p : Option Addr) (n c : Nat) (cs : List Nat) (hn : cs.length = n) (hr : LabRow w p cs) :
    Calls Tryz.prog 16 #[.slice p n c] w (GivesVw w (fitL cs)) := by
  obtain ⟨i0, hi, hz0, hz1, hz2⟩ := info_parts vwInfo
  have HN := Lib.hid hn
  clear hn
  go_enter Tryz.func16, Tryz.ntmps16
  go_wp2
  go_loopg [3, 4] (64 - 0) (fun g u vi wr => ∃ k : Nat, k + g = 64 ∧ k ≤ n ∧ vi = .int .i64 k ∧ Below w.heap.size w wr ∧ Hid (wr.ownsRow w.heap.size 40 2 u k (flat (fitTo cs k))))
  case atStart => exact ⟨0, by omega, by omega, rfl, Below.refl _ _, World.ownsRow_nil _ _ _ _⟩
  case round =>
    obtain ⟨k, hk, hkn, rfl, hbr, HO⟩ := hrel
    have hsr := hbr.size
    by_cases hlt : k < n
    · by_cases h64 : k < 64
      · have hlt' : k < cs.length := by rw [HN.out]; exact hlt
        obtain ⟨b1, o1, rfl, hb1, h1c⟩ := hr.at k hlt'
        have g1 := h1c wr hbr
        have g0 := h1c w (Below.refl _ _)
        have hst := Lib.hid (fitTo_step cs k hlt')
        generalize cs[k] = y at *
        have cT := fit_conv wr k h64
        have e1 : Int.tmod (k : Int) 26 = ((k % 26 : Nat) : Int) := by rw [Int.tmod_eq_emod_of_nonneg (by omega)]; omega
        have e2 : Int.tdiv (k : Int) 26 = ((k / 26 : Nat) : Int) := by rw [Int.tdiv_eq_ediv_of_nonneg (by omega)]; omega
        have hk0 : (0 : Int) ≤ (k : Int) := by omega
        have hkI : (k : Int) < (n : Int) := by omega
        have h64I : (k : Int) < 64 := by omega
        have ho0 := HO.out
        have HB := Lib.hid hbr
        have G0 := Lib.hid g0
        clear h1c HO hbr g0
        go_wp2_with fail
        have gA : ∀ o, (wr.alloc o).cell? ⟨b1, o1 + k, none⟩ = some (.int .u64 y) := fun o => (World.cell?_alloc_some wr _ o (by rw [g1]; rfl)).trans g1
        go_region_law (first | (refine step_append_own rfl _ _ 29 rfl w.heap.size 40 i0 (.agg #[.string ⟨#[]⟩, .int .u64 0]) 2 24 Tryz.underlying29 hi hz0 hz1 hz2 rfl (by decide) _ k _ rfl ((ho0.alloc _).alloc _) ⟨wr.heap.size + 1, 0, none⟩ 1 1 [.string (bs (nameF k)), .int .u64 y] rfl rfl (by exact cells_two2 wr _ _ _ _) (by simp [Value.oneCell']) (by unfold maxLen; omega) (by omega) (by simp; omega) ?_; intro u' w3 hown' hgr'; have hB3 : Below w.heap.size w w3 := ((HB.out.alloc hsr _).alloc (by simp; omega) _).drew.grown hgr' (by simp; omega) (fun g hg => (ho0.lt g hg).1)))
        all_goals
          have HO2 : Hid (w3.ownsRow w.heap.size 40 2 u' (k + 1) (flat (fitTo cs (k + 1)))) := by
            show w3.ownsRow _ _ _ _ _ _
            rw [hst.out, flat_snoc]; exact hown'
          clear hown' hgr' ho0 cT
          go_wp2_with fail
          go_roundg (gk - 1)
        all_goals first
          | exact ⟨k + 1, by omega, by omega, by go_num, hB3, HO2⟩
          | omega
      · have hk64 : k = 64 := by omega
        have HB := Lib.hid hbr
        have hmin : fitL cs = fitTo cs k := by unfold fitL; rw [HN.out, Nat.min_eq_right (by omega), hk64]
        have HM := Lib.hid hmin
        clear hbr hmin
        go_wp2_with fail
        go_ret
        obtain ⟨p1, c1, hu, hrow⟩ := vw_owned (fitTo_len cs k) HO.out
        have ho := HO.out
        refine ⟨HB.out, p1, c1, ?_, ?_, ?_⟩
        · rw [HM.out, fitTo_len, hu]; rfl
        · rw [HM.out]; exact hrow
        · rw [HM.out, fitTo_len, ← hu]; exact ho
    · have hkn' : k = n := by omega
      have HB := Lib.hid hbr
      have hmin : fitL cs = fitTo cs k := by unfold fitL; rw [HN.out, Nat.min_eq_left (by omega), hkn']
      have HM := Lib.hid hmin
      clear hbr hmin
      go_wp2_with fail
      go_ret
      obtain ⟨p1, c1, hu, hrow⟩ := vw_owned (fitTo_len cs k) HO.out
      have ho := HO.out
      refine ⟨HB.out, p1, c1, ?_, ?_, ?_⟩
      · rw [HM.out, fitTo_len, hu]; rfl
      · rw [HM.out]; exact hrow
      · rw [HM.out, fitTo_len, ← hu]; exact ho
end Go.Proofs.YtfibbjnkicjbpaaGreatDoor
/- What the closed law PolicyNames asks: plain facts, and Clearances of a nil policy. -/
namespace Go.Proofs.YtfibbjnkicjbpaaGreatDoor
open Go Go.RowKit Go.Maps Go.Lib

theorem reads_to (l : List Vw) (hn : ∀ x ∈ l, nameL x.s = true) (hl : Lo64 l) : ∀ k, k ≤ l.length → Reads ((l.take k).map lineOf) (l.take k)
  | 0, _ => by rw [List.take_zero]; exact .nil
  | k + 1, hk => by
    have h1 := reads_to l hn hl k (by omega)
    have hm := List.getElem_mem (l := l) (n := k) (by omega)
    have hx := name_line (hn _ hm)
    have h2 := Reads.snoc (t := lineOf l[k]) h1 (hl _ hm) hx.2.symm
    rw [hx.1] at h2
    rw [List.take_succ_eq_append_getElem (by omega), List.map_append]
    exact h2
theorem reads_self (l : List Vw) (hn : ∀ x ∈ l, nameL x.s = true) (hl : Lo64 l) : Reads (l.map lineOf) l := by
  have := reads_to l hn hl l.length (Nat.le_refl _)
  rwa [List.take_length] at this
theorem none_of_print {l : List Vw} (hn : ∀ x ∈ l, nameL x.s = true) (hl : Lo64 l) (h : ¬ (okL l ∧ Rising l)) : ¬ ∃ l', Spells (printL l) l' := by
  rintro ⟨l', hs⟩
  have hr : Reads (cutL (printL l)) l := by rw [(cut_print hn).1]; exact reads_self l hn hl
  have := one_of_reads hr hs
  subst this
  exact h ⟨hs.1, hs.2.1⟩
theorem text8 : textN 8 = [51] := by
  unfold textN
  rw [if_neg (by decide), show listTo 8 64 = [3] by decide +kernel, List.map_cons, List.map_nil, Lib.join_one, dec_lt 3 (by decide)]
  decide +kernel
theorem print_lw : printL lw = [98, 111, 98, 32, 51, 10, 97, 110, 110, 32, 45, 10] := by
  unfold printL lw
  simp only [List.map_cons, List.map_nil, lineOf, text8, show textN 0 = [45] from rfl]
  rfl
theorem none_lw : ¬ ∃ l', Spells [98, 111, 98, 32, 51, 10, 97, 110, 110, 32, 45, 10] l' := by
  rw [← print_lw]
  refine none_of_print lw_ok.2.2 (fun x hx => (lw_fit x hx).1) fun h => ?_
  have : ¬ Rising lw := by unfold Rising lw; decide
  exact this h.2
def la : List Vw := [⟨annN, 0⟩, ⟨annN, 0⟩]
theorem print_la : printL la = [97, 110, 110, 32, 45, 10, 97, 110, 110, 32, 45, 10] := by
  unfold printL la
  simp only [List.map_cons, List.map_nil, lineOf, show textN 0 = [45] from rfl]
  rfl
theorem none_la : ¬ ∃ l', Spells [97, 110, 110, 32, 45, 10, 97, 110, 110, 32, 45, 10] l' := by
  rw [← print_la]
  refine none_of_print (by decide) (fun x hx => ?_) fun h => ?_
  · simp only [la, List.mem_cons, List.not_mem_nil, or_false] at hx
    rcases hx with rfl | rfl <;> decide
  · have : ¬ okL la := by decide
    exact this h.1
def lbb : List Vw := [⟨bobN, 1⟩, ⟨bobN, 1⟩]
theorem lbb_no : ¬ okL lbb := by decide
theorem lbb_fit : Fit64 lbb := fun x hx => by
  simp only [lbb, List.mem_cons, List.not_mem_nil, or_false] at hx
  rcases hx with rfl | rfl <;> exact ⟨by decide, by unfold maxLen; simp [bobN]⟩
theorem lbb_row (w : World) (T : TypeId) : VwRow (w.alloc (.cells #[.string ⟨#[98, 111, 98]⟩, .int .u64 1, .string ⟨#[98, 111, 98]⟩, .int .u64 1] T)) (some ⟨w.heap.size, 0, none⟩) lbb := fun i hi => by
  refine ⟨w.heap.size, 0, rfl, by simp, ?_⟩
  match i, hi with
  | 0, _ => exact ⟨by rw [World.cell?_alloc_mark]; rfl, by rw [World.cell?_alloc_mark]; rfl⟩
  | 1, _ => exact ⟨by rw [World.cell?_alloc_mark]; rfl, by rw [World.cell?_alloc_mark]; rfl⟩
theorem spells_none : Spells [] [] := ⟨by decide, List.Pairwise.nil, fun x hx => by simp at hx, rfl⟩
theorem spells_empty {l : List Vw} (h : Spells [] l) : l = [] := spells_one h spells_none
/-- The sixty-four viewers. -/
def l64 : List Vw := fitL (List.replicate 64 0)
theorem l64_zero : ∀ x ∈ l64, x.c = 0 := fun x hx => by
  unfold l64 fitL fitTo at hx
  obtain ⟨i, hi, rfl⟩ := List.mem_map.1 hx
  show (List.replicate 64 0).getD i 0 = 0
  rw [List.getD_eq_getElem?_getD, List.getElem?_replicate]
  split <;> rfl
theorem l64_len : l64.length = 64 := by unfold l64 fitL; rw [fitTo_len]; simp
theorem l64_ok : okL l64 := fit_ok _ _ (by simp)
theorem l64_lo : Lo64 l64 := fit_lo _ _ fun c hc => by rw [List.eq_of_mem_replicate hc]; decide
theorem zero_below (c : Nat) : belowB 0 c = true := (below_iff 0 c).2 fun i _ h => by rw [Nat.zero_testBit] at h; cases h
theorem all_below (l : List Vw) (h : ∀ x ∈ l, x.c = 0) : l.filter (fun x => belowB x.c 0) = l := List.filter_eq_self.2 fun x hx => by rw [h x hx]; exact zero_below 0
theorem clr_one (l : List Vw) (h : ∀ x ∈ l, x.c = 0) (h1 : l ≠ []) : clrL l = [0] := by
  unfold clrL
  refine (onceC_of (List.pairwise_singleton _ _) fun c => ?_).symm
  rw [List.mem_singleton, List.mem_map]
  constructor
  · rintro rfl
    obtain ⟨x, hx⟩ := List.exists_mem_of_ne_nil l h1
    exact ⟨x, hx, h x hx⟩
  · rintro ⟨x, hx, rfl⟩
    exact h x hx

theorem clearances_nil (w : World) : Calls Tryz.prog 9 #[.pointer none] w fun e w' => e = .returned (.slice none 0 0) ∧ w = w' := by
  have cV := viewers_nil w
  have cS := fun W => lbSort_none 0 W
  have cC := fun W => lbComp_none 0 W
  go_enter Tryz.func9, Tryz.ntmps9
  go_wp2_with (go_at_call 8; refine cV.mono ?_; rintro e w1 ⟨rfl, rfl⟩)
  go_loopg [3, 9] 0 (fun g u vi wr => g = 0 ∧ u = .slice none 0 0 ∧ vi = .int .i64 0 ∧ w = wr)
  case atStart => exact ⟨rfl, rfl, rfl, rfl⟩
  case round =>
    obtain ⟨rfl, rfl, rfl, rfl⟩ := hrel
    go_wp2_with (first
      | (go_at_call 24; refine (cS _).mono ?_; rintro e w4 ⟨rfl, rfl⟩)
      | (go_at_call 25; refine (cC _).mono ?_; rintro e w6 ⟨rfl, rfl⟩))
    go_ret
    exact ⟨rfl, rfl⟩
end Go.Proofs.YtfibbjnkicjbpaaGreatDoor
/- The closed law PolicyNames by a walk over the contracts. -/
namespace Go.Proofs.YtfibbjnkicjbpaaGreatDoor
open Go Go.RowKit Go.Maps Go.Lib

set_option maxRecDepth 100000 in
theorem made64 (w : World) : ∃ w', (Instr.makeSlice 31 (.int .i64 64) (.int .i64 64)).run Tryz.prog w = .ok (.slice (some ⟨w.heap.size, 0, none⟩) 64 64) w' ∧ Below w.heap.size w w' ∧ LabRow w' (some ⟨w.heap.size, 0, none⟩) (List.replicate 64 0) := by
  obtain ⟨i0, hi, hz0, hz1, hz2⟩ := info_parts labInfo
  have hr := run_make (P := Tryz.prog) w 31 25 i0 (.int .u64 0) Tryz.underlying31 hi hz0 .i64 .i64 64 64 (by decide) (by decide) (by rw [hz2]; decide) (by decide)
  refine ⟨_, hr, (Below.refl _ _).alloc (Nat.le_refl _) _, fun j hj => ⟨w.heap.size, 0, rfl, by simp, ?_⟩⟩
  rw [World.cell?_alloc_mark, Nat.zero_add]
  rw [List.length_replicate] at hj
  rw [List.getElem_replicate, hz1]
  show (madeCells #[.int .u64 0] 64)[j]? = _
  have hs : (madeCells #[.int .u64 0] 64).size = 64 := size_madeCells _ _
  rw [Array.getElem?_eq_getElem (by omega)]
  unfold madeCells
  simp [Nat.mod_one]
theorem PolAt.grown {w W : World} {v : Value} {l : List Vw} {row : Option Nat} (h : PolAt w v l) (hg : w.grownBy W row) (hr : ∀ g, row = some g → ∃ s, w.cell? ⟨g, 0, none⟩ = some (.string s)) : PolAt W v l := by
  obtain ⟨p, b, e, hp, hc, n, D, hn, ⟨es, clock, hb, F, hs, hD⟩, hm⟩ := h.at'
  have h1 : row ≠ some p := fun e => by
    obtain ⟨s, hs⟩ := hr p e
    rw [hc] at hs; cases hs
  have h2 : row ≠ some b := fun e => by
    obtain ⟨s, hs⟩ := hr b e
    unfold World.cell? at hs
    rw [hb] at hs
    simp at hs
  have hbl : b < w.heap.size := (Array.getElem?_eq_some_iff.1 hb).1
  exact ⟨h.ok, h.up, h.lo, p, b, e, Nat.lt_of_lt_of_le hp hg.size, hg.cell hc (fun e => h1 e.symm), n, D, hn, ⟨es, clock, (hg.block b hbl (fun e => h2 e.symm)).trans hb, F, hs, hD⟩, hm⟩
theorem l64_fit : Fit64 l64 := fit_of l64_ok l64_lo
def zz : Vw := ⟨[122, 122, 57], 0⟩
theorem l65_no : ¬ okL (l64 ++ [zz]) := okL_long (by rw [List.length_append, l64_len]; decide)
theorem l65_fit : Fit64 (l64 ++ [zz]) := fun x hx => by
  rw [List.mem_append, List.mem_singleton] at hx
  rcases hx with hx | rfl
  · exact l64_fit x hx
  · exact ⟨by decide, by unfold maxLen; simp [zz]⟩
set_option maxRecDepth 100000 in
set_option maxHeartbeats 4000000 in
theorem policyNames_any (w : World) (hM : MaxS w) (hT : BTab w) (hE : EvW w) :
    Calls Tryz.prog 3 #[] w fun e w' => e = .returned (.bool true) ∧ Below w.heap.size w w' := by
  have cW := works_pol w hM hT hE
  have HM := Lib.hid hM; have HT := Lib.hid hT; have HE := Lib.hid hE
  clear hM hT hE
  go_enter Tryz.func3, Tryz.ntmps3
  go_wp2_with fail
  refine cW.mono ?_
  rintro e w1 ⟨rfl, hb1⟩
  clear cW
  go_wp2_with fail
  refine (clearance_nil _ _).mono ?_
  rintro e w' ⟨rfl, rfl⟩
  go_wp2_with fail
  refine (viewers_nil _).mono ?_
  rintro e w' ⟨rfl, rfl⟩
  go_wp2_with fail
  refine (clearances_nil _).mono ?_
  rintro e w' ⟨rfl, rfl⟩
  go_wp2_with fail
  refine (polBelow_nil 0 _).mono ?_
  rintro e w2 ⟨⟨p2, k2, rfl⟩, hx⟩
  have hb2 := hb1.trans (hx.mono hb1.size)
  clear hx hb1
  go_wp2_with fail
  refine (polAbove_nil 0 _).mono ?_
  rintro e w3 ⟨⟨p3, k3, rfl⟩, hx⟩
  have hb3 := hb2.trans (hx.mono hb2.size)
  clear hx hb2
  go_wp2_with fail
  refine (print_nil _).mono ?_
  rintro e w4 ⟨rfl, hx⟩
  have hb4 := hb3.trans (hx.mono hb3.size)
  clear hx hb3
  go_wp2_with fail
  refine (erase_nil 0 _).mono ?_
  rintro e w' ⟨rfl, rfl⟩
  have HB4 := Lib.hid hb4
  clear hb4
  go_wp2_with fail
  refine (new_any _ _ 2 2 lbb rfl (by unfold maxLen; omega) (lbb_row w4 _) lbb_fit).mono ?_
  rintro e w5 ⟨hx, ⟨hok, _⟩ | ⟨_, rfl⟩⟩
  · exact absurd hok lbb_no
  have hb5 := (HB4.out.alloc HB4.out.size _).trans (hx.mono (by have := HB4.out.size; simp; omega))
  clear hx HB4
  go_wp2_with fail
  have c6 := parse_pol ⟨#[98, 111, 98, 32, 51, 10, 97, 110, 110, 32, 45, 10]⟩ w5 (by decide) (HM.out.below hb5) (HT.out.below hb5) (HE.out.below hb5)
  refine c6.mono ?_
  rintro e w6 ⟨hx, ⟨a, l, _, _, hsp⟩ | ⟨_, rfl⟩⟩
  · exact absurd ⟨l, hsp⟩ none_lw
  have hb6 := hb5.trans (hx.mono hb5.size)
  clear hx hb5 c6
  go_wp2_with fail
  have c7 := parse_pol ⟨#[97, 110, 110, 32, 45, 10, 97, 110, 110, 32, 45, 10]⟩ w6 (by decide) (HM.out.below hb6) (HT.out.below hb6) (HE.out.below hb6)
  refine c7.mono ?_
  rintro e w7 ⟨hx, ⟨a, l, _, _, hsp⟩ | ⟨_, rfl⟩⟩
  · exact absurd ⟨l, hsp⟩ none_la
  have hb7 := hb6.trans (hx.mono hb6.size)
  have HB7 := Lib.hid hb7
  clear hx hb6 c7 hb7
  obtain ⟨w8, hrun, hx, hrow8⟩ := made64 w7
  have HB8 := Lib.hid (HB7.out.trans (hx.mono HB7.out.size))
  clear hx HB7
  go_wp2_with fail
  have c9 := fit_any w8 (some ⟨w7.heap.size, 0, none⟩) 64 64 (List.replicate 64 0) (by simp) hrow8
  change Calls Tryz.prog _ _ w8 (GivesVw w8 l64) at c9
  unfold GivesVw at c9
  rw [l64_len] at c9
  refine c9.mono ?_
  rintro e w9 ⟨hx, p9, k9, rfl, hr9, ho9⟩
  have hb9 := HB8.out.trans (hx.mono HB8.out.size)
  have hs8 := HB8.out.size
  have hs9 := hx.size
  clear hrun hx HB8 c9 hrow8
  have c10 := new_any w9 p9 64 k9 l64 l64_len (by unfold maxLen; omega) hr9 l64_fit
  have HB9 := Lib.hid hb9
  have HO9 := Lib.hid ho9
  clear hb9 ho9 hr9
  go_wp2_with fail
  refine c10.mono ?_
  rintro e w10 ⟨hx, ⟨_, v10, rfl, hp10, a10, rfl⟩ | ⟨hno, _⟩⟩
  rotate_left
  · exact absurd l64_ok hno
  have HB10 := Lib.hid (HB9.out.trans (hx.mono HB9.out.size))
  have hs10 := hx.size
  have ho10 := ownsAny_later HO9.out hx
  have HP10 : Aside _ := hp10
  clear hx HB9 hp10 c10 HO9
  obtain ⟨i0, hi, hz0, hz1, hz2⟩ := info_parts vwInfo
  go_wp2_with (first
    | (at_builtin; refine wpList_append_own _ rfl _ _ 29 rfl w8.heap.size 40 i0 (.agg #[.string ⟨#[]⟩, .int .u64 0]) 2 24 Tryz.underlying29 hi hz0 hz1 hz2 rfl (by decide) _ _ _ rfl (ho10.alloc _) ⟨w10.heap.size, 0, none⟩ 1 1 zz.vals rfl rfl ?c1 ?c2 ?c3 ?c4 ?c5 ?_))
  case c1 => exact cells_two _ _ _ _
  case c2 => intro u hu; simp [Vw.vals] at hu; rcases hu with rfl | rfl <;> rfl
  case c3 => unfold maxLen; omega
  case c4 => omega
  case c5 => simp; omega
  intro u' w11 hown' hgrow _
  have hb11 : Below w8.heap.size w10 w11 := ((Below.refl _ _).alloc (by omega) _).grown hgrow (by simp; omega) (fun g hg => (ho10.lt g hg).1)
  have hpW := PolAt.grown (PolAt.later HP10.out ((Below.refl _ w10).alloc (Nat.le_refl _) (.cells zz.vals.toArray 40))) hgrow (by
    intro g hg
    have hcell := (ho10.alloc (.cells zz.vals.toArray 40))
    rcases hcell.2 with ⟨_, h0⟩ | ⟨g', cap, cur, hv, _⟩
    · omega
    · rw [hv] at hg hcell
      have hg' : g' = g := by simpa [Value.ownBlock] using hg
      subst hg'
      have h0 := hcell.cellAt 0 (by omega)
      have hfl := flat_at l64 0 0 (by rw [l64_len]; omega) (by omega)
      rw [Nat.zero_mul, Nat.zero_add] at hfl
      rw [hfl] at h0
      exact ⟨_, h0⟩)
  have hown65 : w11.ownsRow w8.heap.size 40 2 u' 65 (flat (l64 ++ [zz])) := by rw [flat_snoc]; exact hown'
  obtain ⟨p11, k11, rfl, hr11⟩ := vw_owned (by rw [List.length_append, l64_len]; rfl) hown65
  have c12 := new_any w11 p11 65 k11 (l64 ++ [zz]) (by rw [List.length_append, l64_len]; rfl) (by unfold maxLen; omega) hr11 l65_fit
  have HB11 := Lib.hid (HB10.out.trans (hb11.mono hs8))
  have HP11 : Aside _ := hpW
  clear hown' hgrow hb11 hpW hown65 hr11 ho10 HP10 HB10 hi hz0 hz1 hz2
  go_wp2_with fail
  refine c12.mono ?_
  rintro e w12 ⟨hx, ⟨hok, _⟩ | ⟨_, rfl⟩⟩
  · exact absurd hok l65_no
  have HB12 := Lib.hid (HB11.out.trans (hx.mono HB11.out.size))
  have HP12 : Aside _ := PolAt.later HP11.out hx
  clear hx HB11 HP11 c12
  have c13 := parse_pol ⟨#[]⟩ w12 (by decide) (HM.out.below HB12.out) (HT.out.below HB12.out) (HE.out.below HB12.out)
  go_wp2_with fail
  refine c13.mono ?_
  rintro e w13 ⟨hx, ⟨a13, l, rfl, hq13, hsp⟩ | ⟨hno, _⟩⟩
  rotate_left
  · exact absurd ⟨[], spells_none⟩ hno
  have hl := spells_empty hsp
  subst hl
  have HB13 := Lib.hid (HB12.out.trans (hx.mono HB12.out.size))
  have HP13 : Aside _ := PolAt.later HP12.out hx
  have HQ13 : Aside _ := hq13
  clear hx HB12 HP12 c13 hq13 hsp
  have hz64 : ∀ x ∈ sortV l64, x.c = 0 := fun x hx => l64_zero x ((sortV_perm l64).mem_iff.1 hx)
  have c14 := polBelow_any _ (sortV l64) 0 w13 HP13.out (by decide)
  rw [all_below _ hz64] at c14
  unfold GivesNm at c14
  rw [show (names (sortV l64)).length = 64 by unfold names; rw [List.length_map, (sortV_perm l64).length_eq, l64_len]] at c14
  have HZ : Aside _ := hz64
  clear hz64
  go_wp2_with fail
  refine c14.mono ?_
  rintro e w14 ⟨hx, p14, k14, rfl, _, _⟩
  have HB14 := Lib.hid (HB13.out.trans (hx.mono HB13.out.size))
  have HP14 : Aside _ := PolAt.later HP13.out hx
  have HQ14 : Aside _ := PolAt.later HQ13.out hx
  clear hx HB13 HP13 HQ13 c14
  have c15 := clearances_any _ (sortV l64) w14 HP14.out
  rw [clr_one _ HZ.out (by intro e; have := (sortV_perm l64).length_eq; rw [e, l64_len] at this; cases this)] at c15
  unfold GivesLab at c15
  rw [show ([0] : List Nat).length = 1 from rfl] at c15
  go_wp2_with fail
  refine c15.mono ?_
  rintro e w15 ⟨hx, p15, k15, rfl, _, _⟩
  have HB15 := Lib.hid (HB14.out.trans (hx.mono HB14.out.size))
  have HQ15 : Aside _ := PolAt.later HQ14.out hx
  clear hx HB14 HP14 HQ14 c15
  have c16 := viewers_any _ [] w15 HQ15.out
  unfold GivesVw at c16
  rw [show ([] : List Vw).length = 0 from rfl] at c16
  go_wp2_with fail
  refine c16.mono ?_
  rintro e w16 ⟨hx, p16, k16, rfl, _, _⟩
  have HB16 := Lib.hid (HB15.out.trans (hx.mono HB15.out.size))
  clear hx HB15 HQ15 c16
  go_wp2_with fail
  go_ret
  exact ⟨rfl, HB16.out⟩
end Go.Proofs.YtfibbjnkicjbpaaGreatDoor
/- A law's frame, of whatever program: where the call returns true and nothing that was there has turned, the row's post holds. -/
namespace Go.Proofs.YtfibbjnkicjbpaaGreatDoor
open Go Go.RowKit Go.ChangeShapes Go.WideShapes Go.ChangeAt

section
variable {H : Type} {enc : TypeId × Value → H} {P : Program}

/-- One closed fact: each type can be read and is a row of the table. -/
def typesRead (P : Program) (ts : List TypeId) : Bool := ts.all fun t => P.readableRec t && decide (t < P.types.size)

theorem below_trodAll (hl : laidOutB P = true) {W W' : World} (hb : Below W.heap.size W W') :
    ∀ {ts : List TypeId} {vs : List Value} {ds : List (DataW H)} {ps : List MemPlace}, typesRead P ts = true → DataW.TrodAll enc P W 0 (fun _ => true) true ts vs ds ps →
      DataW.TrodAll enc P W' 0 (fun b => decide (b < W.heap.size)) true ts vs ds ps
  | [], [], [], _, _, h => h
  | [], [], _ :: _, _, _, h => h.elim
  | [], _ :: _, _, _, _, h => h.elim
  | _ :: _, [], _, _, _, h => h.elim
  | _ :: _, _ :: _, [], _, _, h => h.elim
  | t :: ts, v :: vs, d :: ds, ps, hr, h => by
    obtain ⟨p, q, h1, h2, e⟩ := h
    simp only [typesRead, List.all_cons, Bool.and_eq_true] at hr
    have hlt : ∀ x ∈ p, x.block < W.heap.size := by obtain ⟨m, hm⟩ := h1; exact DataW.trod_lt m _ _ _ hm
    exact ⟨p, q, Below.trod hl hr.1.1 (of_decide_eq_true hr.1.2) h1 hb hlt, below_trodAll hl hb (by simpa [typesRead] using hr.2) h2, e⟩

theorem trodAll_len {W : World} {b : Nat} {sp : Nat → Bool} {hd : Bool} : ∀ {ts : List TypeId} {vs : List Value} {ds : List (DataW H)} {ps : List MemPlace}, DataW.TrodAll enc P W b sp hd ts vs ds ps → ds.length = ts.length
  | [], [], [], _, _ => rfl
  | [], [], _ :: _, _, h => h.elim
  | [], _ :: _, _, _, h => h.elim
  | _ :: _, [], _, _, h => h.elim
  | _ :: _, _ :: _, [], _, h => h.elim
  | _ :: _, _ :: _, _ :: _, _, h => by
    obtain ⟨_, _, _, h2, _⟩ := h
    simp only [List.length_cons, trodAll_len h2]

theorem trodAll_nil' {W : World} {b : Nat} {sp : Nat → Bool} {hd : Bool} {args : Array Value} {ds : List (DataW H)} {ps : List MemPlace} (h : DataW.TrodAll enc P W b sp hd [] args.toList ds ps) : args = #[] ∧ ds = [] ∧ ps = [] := by
  obtain ⟨h1, h2, h3⟩ := trodAll_nil h
  exact ⟨by cases args; simp_all, by assumption, by assumption⟩

/-- What a law's specification says, as one closed fact for its number of parameters. -/
def LawSpec (s : ChangeSpec) (n : Nat) : Prop := s.vars = [] ∧ ∀ (H : Type) (ds : List (DataW H)), ds.length = n → (s.fn H ds).results = [.lit (.bool true)] ∧ (s.fn H ds).args = ds ∧ (s.fn H ds).vars = []

theorem law_post (hl : laidOutB P = true) {f : Func} {s : ChangeSpec} {tb : TypeId} (hread : typesRead P f.params.toList = true) (hres : f.resultTypes = #[tb]) (hbool : P.underlying tb = some .bool)
    (hs : LawSpec s f.params.toList.length) {W W' : World} {args : Array Value} {ds gs : List (DataW H)} {before : List MemPlace}
    (hW : DataW.Whole enc P f.params.toList s.vars false W args.toList ds gs before) (bel : Below W.heap.size W W') :
    s.post enc P f false true false false W args (.bool true) W' := by
  have hW' := hW
  obtain ⟨p, q, hA, hV, rfl, hfz, hnd⟩ := hW
  have hn := trodAll_len hA
  obtain ⟨hs1, hs2⟩ := hs
  rw [hs1] at hV
  obtain ⟨rfl, rfl⟩ := trodVars_none hV
  obtain ⟨e1, e2, e3⟩ := hs2 H ds hn
  refine ⟨ds, [], _, [], p, [], hW', ?_, ?_, ?_, bel.frame _, fun h => by cases h⟩
  · rw [List.append_nil, e1, hres]
    exact trodAll_mk1 (shut_bool hbool _)
  · rw [List.append_nil, e2]
    exact below_trodAll hl bel hread hA
  · rw [List.append_nil, e3, hs1]
    rfl
end
end Go.Proofs.YtfibbjnkicjbpaaGreatDoor
/- What a row's listed variables give the walks: the library's table for counting zeros. -/
namespace Go.Proofs.YtfibbjnkicjbpaaGreatDoor
open Go.RowKit

theorem bt_data : (Rows.laid_math_bits_deBruijn64tab : DataW Unit) = Lib.tabData .u8 (Lib.deBruijn64tab.map fun n : Nat => (n : Int)) := by kernel_rfl
theorem gBtType : (Tryz.prog.globals[0]?).map (·.type) = some 133 := by kernel_rfl

/-- Out of whatever list that has the table. -/
theorem btab_of {W : World} {l : List (String × DataW Unit)} (hl : (l.filter fun x => x.1 == "math/bits.deBruijn64tab") = [("math/bits.deBruijn64tab", Rows.laid_math_bits_deBruijn64tab)]) (h : laidMetH Tryz.prog l W) : BTab W := by
  have h1 := h.filter (fun x => x.1 == "math/bits.deBruijn64tab")
  rw [hl, bt_data, MakeChecks.laidMetH_plain _ _ _ (by kernel_rfl)] at h1
  exact Lib.tabIs_of_head (rest := []) gBt gBtType Tryz.underlying133 Tryz.underlying5 (by kernel_rfl) (by kernel_rfl) h1
end Go.Proofs.YtfibbjnkicjbpaaGreatDoor
/- What a row's listed variables give: strconv's two errors are values of the interface. -/
namespace Go.Proofs.YtfibbjnkicjbpaaGreatDoor
open Go.RowKit

theorem iface_of_trod {H : Type} {enc : TypeId × Value → H} {P : Program} {w : World} {base : Nat} {spare : Nat → Bool} {held : Bool} {fuel : Nat} {t : TypeId} {cs : List Value} {x : DataW H × List MemPlace} {ms}
    (ht : P.underlying t = some (.interface ms)) (h : DataW.trod enc P w base spare held fuel t cs = some x) : cs = [.nilIface] ∨ ∃ u v, cs = [.iface u v] := by
  cases fuel with
  | zero => simp [DataW.trod] at h
  | succ n =>
    unfold DataW.trod at h
    rw [ht] at h
    split at h <;> simp_all

theorem ev_of_head {W : World} {name : String} {d : DataW Unit} {g : Nat} {t : TypeId} {ms} (hg : Tryz.prog.globalNamed name = some g) (hty : (Tryz.prog.globals[g]?).map (·.type) = some t) (ht : Tryz.prog.underlying t = some (.interface ms))
    (h : laidMet Tryz.prog [(name, d)] W) : EvAt g W := by
  obtain ⟨ps, ⟨g', t', cs, fuel, p, q, hg', ht', hvar, hd, _, _⟩, _⟩ := h
  obtain rfl := Option.some.inj (hg.symm.trans hg')
  obtain rfl := Option.some.inj (hty.symm.trans ht')
  have hc := World.var?_cell hg hvar 0
  rcases iface_of_trod ht hd with h1 | ⟨u, v, h1⟩
  · exact ⟨.nilIface, by rw [hc, ← Array.getElem?_toList, h1]; rfl, Or.inl rfl⟩
  · exact ⟨.iface u v, by rw [hc, ← Array.getElem?_toList, h1]; rfl, Or.inr ⟨u, v, rfl⟩⟩

theorem gEs : Tryz.prog.globalNamed "strconv.ErrSyntax" = some 3 := by kernel_rfl
theorem gEsT : (Tryz.prog.globals[3]?).map (·.type) = some 91 := by kernel_rfl
theorem gEr : Tryz.prog.globalNamed "strconv.ErrRange" = some 4 := by kernel_rfl
theorem gErT : (Tryz.prog.globals[4]?).map (·.type) = some 91 := by kernel_rfl

/-- Out of whatever list that has the two. -/
theorem evw_of {W : World} {l : List (String × DataW Unit)} (hs : (l.filter fun x => x.1 == "strconv.ErrSyntax") = [("strconv.ErrSyntax", Rows.laid_strconv_ErrSyntax)]) (hr : (l.filter fun x => x.1 == "strconv.ErrRange") = [("strconv.ErrRange", Rows.laid_strconv_ErrRange)]) (h : laidMetH Tryz.prog l W) : EvW W := by
  have h1 := h.filter (fun x => x.1 == "strconv.ErrSyntax")
  have h2 := h.filter (fun x => x.1 == "strconv.ErrRange")
  rw [hs, MakeChecks.laidMetH_plain _ _ _ (by kernel_rfl)] at h1
  rw [hr, MakeChecks.laidMetH_plain _ _ _ (by kernel_rfl)] at h2
  exact ⟨ev_of_head gEs gEsT Tryz.underlying91 h1, ev_of_head gEr gErT Tryz.underlying91 h2⟩
end Go.Proofs.YtfibbjnkicjbpaaGreatDoor
