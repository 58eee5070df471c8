/- The library's partition over labels: by a contract. -/
import Derived.Test.YtdpikdkhemhmdaaSrIns
import Derived.Sort.WalkC4
namespace Go.Proofs.Ytdpikdkhemhmdaa
open Go Go.RowKit Go.Sort

set_option maxHeartbeats 12800000 in
set_option maxRecDepth 100000 in
theorem lbPart_any (blk off cap a b pivot : Nat) (d : Array Nat) (w : World) (hH : Holds lbV w blk off d) (hap : a ≤ pivot) (hpb : pivot < b) (hb : b ≤ d.size) (hsz : d.size < 4611686018427387904) :
    Calls Try.prog 79 #[.slice (some ⟨blk, off, none⟩) d.size cap, .int .i64 a, .int .i64 b, .int .i64 pivot] w fun e w' =>
      e = .returned (.tuple #[.int .i64 (partition ltL d a b pivot).1, .bool (partition ltL d a b pivot).2.1]) ∧ ∃ n, w' = lbPut w n blk off (partition ltL d a b pivot).2.2 := by
  show Calls _ _ _ _ fun e w' => _ ∧ ∃ n, w' = (putRow lbV w blk off (partition ltL d a b pivot).2.2).drewN n
  have hla : a < d.size := by omega
  have hlp : pivot < d.size := by omega
  obtain ⟨g0, hg0⟩ : ∃ g : Nat → Nat, ∀ j, g j = d[j]! := ⟨_, fun _ => rfl⟩
  have ca : w.cell? ⟨blk, off + a, none⟩ = some (.int .u64 (g0 a)) := by rw [hg0]; exact (hH a hla).1
  have fa := (hH a hla).2
  have cp : w.cell? ⟨blk, off + pivot, none⟩ = some (.int .u64 (g0 pivot)) := by rw [hg0]; exact (hH pivot hlp).1
  have fp := (hH pivot hlp).2
  obtain ⟨v0, hy0⟩ := cell?_setCell_some (w := w) (p := ⟨blk, off + a, none⟩) (x := .int .u64 (g0 pivot)) (q := ⟨blk, off + pivot, none⟩) cp
  have hw : ((w.setCell ⟨blk, off + a, none⟩ (.int .u64 (g0 pivot))).setCell ⟨blk, off + pivot, none⟩ (.int .u64 (g0 a))).drew = (putRow lbV w blk off (swp d a pivot)).drewN 1 := by
    have e := swap_worldC lbV w blk off d 0 a pivot hla hlp
    rw [putRow_self _ w blk off d hH] at e
    rw [hg0 a, hg0 pivot]
    exact e
  have aH : Hid (Holds lbV w blk off d) := hH
  have hW0 := Hid.mk' hw
  clear hg0 hH hw
  go_enter Try.func79, Try.ntmps79
  go_wp2
  go_region
  go_wp2
  clear ca fa cp fp hy0 v0
  have hw := hW0.out
  clear hW0
  generalize ((w.setCell ⟨blk, off + a, none⟩ (.int .u64 (g0 pivot))).setCell ⟨blk, off + pivot, none⟩ (.int .u64 (g0 a))).drew = W1 at hw ⊢
  obtain ⟨E, hE0⟩ : ∃ E, E = swp d a pivot := ⟨_, rfl⟩
  obtain ⟨n, hn⟩ : ∃ n : Nat, n = 1 := ⟨_, rfl⟩
  rw [← hE0, ← hn] at hw
  clear hn
  have hs : E.size = d.size := by rw [hE0, size_swp]
  rw [show ((a : Int) + 1) = ((a + 1 : Nat) : Int) by omega, show ((b : Int) - 1) = ((b - 1 : Nat) : Int) by omega]
  obtain ⟨i, hi⟩ : ∃ i, i = a + 1 := ⟨_, rfl⟩
  obtain ⟨j, hj⟩ : ∃ j, j = b - 1 := ⟨_, rfl⟩
  rw [← hi, ← hj]
  have hai : a < i := by omega
  have hij : i ≤ j + 1 := by omega
  have hjb : j < b := by omega
  have hI := Hid.mk' hi
  have hJ := Hid.mk' hj
  have hD := Hid.mk' hE0
  clear hi hj hE0
  have hK : Holds lbV W1 blk off E := by rw [hw]; exact holds_putRow lbV w blk off d E aH.out hs
  obtain ⟨g, hg0⟩ : ∃ g : Nat → Nat, ∀ t, g t = E[t]! := ⟨_, fun _ => rfl⟩
  have hc : ∀ t, t < d.size → W1.cell? ⟨blk, off + t, none⟩ = some (.int .u64 (g t)) := fun t ht => by rw [hg0]; exact (hK t (by omega)).1
  have hf : ∀ t, t < d.size → W1.frozen? ⟨blk, off + t, none⟩ = false := fun t ht => (hK t (by omega)).2
  have hg : Hid (∀ t, g t = E[t]!) := hg0
  have hW : Hid (W1 = (putRow lbV w blk off E).drewN n) := hw
  clear hg0 hw hK
  go_loopw [10] (fun v w1 => ∃ (i' n1 : Nat), v = .int .i64 i' ∧ i ≤ i' ∧ i' ≤ j + 1 ∧ w1 = W1.drewN n1 ∧ Hid (scanUp (fun x => ltL x E[a]!) E j i' = scanUp (fun x => ltL x E[a]!) E j i)) (fun v _ => j + 1 - (intOf v).toNat)
  case atStart => exact ⟨i, 0, rfl, Nat.le_refl _, hij, rfl, rfl⟩
  case round =>
    obtain ⟨i', n1, rfl, hii, hij', w1e, hsc⟩ := hrel
    have hcw : ∀ t, t < d.size → wr.cell? ⟨blk, off + t, none⟩ = some (.int .u64 (g t)) := fun t ht => by rw [w1e]; exact hc t ht
    have hW1 : Hid (wr = W1.drewN n1) := w1e
    clear w1e
    by_cases hle : i' ≤ j
    · go_wp2_with fail
      go_big_quiet (first | (go_at_call 77; refine Calls.quiet_of_same (lbLess_any _ _ _)))
      go_wp2
      · have ht : ltL (g i') (g a) = true := by first | assumption | exact decide_eq_true (by assumption) | (have q : (!ltL (g i') (g a)) = false := (by assumption); simpa using q)
        go_roundw
        case rel => exact ⟨i' + 1, n1 + nq, by go_num, by omega, by omega, by rw [hW1.out, World.drewN_drewN], (scanUp_go (fun x => ltL x E[a]!) E j i' hle (by show ltL E[i']! E[a]! = true; rw [← hg.out a, ← hg.out i', ht])).symm.trans hsc.out⟩
        case measure => simp [intOf]; omega
      · have ht : ltL (g i') (g a) = false := by first | assumption | exact decide_eq_false (by assumption) | exact decide_eq_false (Nat.not_lt.2 (by assumption)) | (have q : (!ltL (g i') (g a)) = true := (by assumption); simpa using q)
        have hi2 : Hid (i' = scanUp (fun x => ltL x E[a]!) E j i) := (scanUp_end (fun x => ltL x E[a]!) E j i' (Or.inr (by show ltL E[i']! E[a]! = false; rw [← hg.out a, ← hg.out i', ht]))).symm.trans hsc.out
        clear ht
        have w2e : wr.drewN nq = W1.drewN (n1 + nq) := by rw [hW1.out, World.drewN_drewN]
        clear hcw hW1 hsc
        go_loopw [11] (fun v w2 => ∃ (j' n2 : Nat), v = .int .i64 j' ∧ j' ≤ j ∧ i' ≤ j' + 1 ∧ w2 = W1.drewN n2 ∧ Hid (scanDown (fun x => !ltL x E[a]!) E i' j' = scanDown (fun x => !ltL x E[a]!) E i' j)) (fun v _ => (intOf v).toNat)
        case atStart => exact ⟨j, n1 + nq, rfl, Nat.le_refl _, hij', w2e, rfl⟩
        case round =>
          clear w2e
          obtain ⟨j', n2, rfl, hjj, hij2, w2e, hsd⟩ := hrel
          have hcw : ∀ t, t < d.size → wr.cell? ⟨blk, off + t, none⟩ = some (.int .u64 (g t)) := fun t ht => by rw [w2e]; exact hc t ht
          have hW2 : Hid (wr = W1.drewN n2) := w2e
          clear w2e
          by_cases hle2 : i' ≤ j'
          · go_wp2_with fail
            go_big_quiet (first | (go_at_call 77; refine Calls.quiet_of_same (lbLess_any _ _ _)))
            go_wp2
            · have ht : ltL (g j') (g a) = false := by first | assumption | exact decide_eq_false (by assumption) | exact decide_eq_false (Nat.not_lt.2 (by assumption)) | (have q : (!ltL (g j') (g a)) = true := (by assumption); simpa using q)
              go_roundw
              case rel => exact ⟨j' - 1, n2 + nq, by go_num, by omega, by omega, by rw [hW2.out, World.drewN_drewN], (scanDown_go (fun x => !ltL x E[a]!) E i' j' hle2 (by omega) (by show (!ltL E[j']! E[a]!) = true; rw [← hg.out a, ← hg.out j', ht]; rfl)).symm.trans hsd.out⟩
              case measure => simp [intOf]; omega
            · have ht : ltL (g j') (g a) = true := by first | assumption | exact decide_eq_true (by assumption) | (have q : (!ltL (g j') (g a)) = false := (by assumption); simpa using q)
              have hj2 : Hid (j' = scanDown (fun x => !ltL x E[a]!) E i' j) := (scanDown_end (fun x => !ltL x E[a]!) E i' j' (Or.inr (by show (!ltL E[j']! E[a]!) = false; rw [← hg.out a, ← hg.out j', ht]; rfl))).symm.trans hsd.out
              clear hcw hsd ht
              have w3e : wr.drewN nq = W1.drewN (n2 + nq) := by rw [hW2.out, World.drewN_drewN]
              generalize wr.drewN nq = W3 at w3e ⊢
              have hc3 : ∀ t, t < d.size → W3.cell? ⟨blk, off + t, none⟩ = some (.int .u64 (g t)) := fun t ht => by rw [w3e]; exact hc t ht
              have hf3 : ∀ t, t < d.size → W3.frozen? ⟨blk, off + t, none⟩ = false := fun t ht => by rw [w3e]; exact hf t ht
              have hW3 : Hid (W3 = W1.drewN (n2 + nq)) := w3e
              clear w3e
              obtain ⟨v3, hy3⟩ := cell?_setCell_some (w := W3) (p := ⟨blk, off + i', none⟩) (x := .int .u64 (g j')) (q := ⟨blk, off + j', none⟩) (hc3 j' (by omega))
              have hlt3 := part_scans_lt ltL a i j E (by omega) hi2.out hj2.out hle2
              go_wp2
              go_region
              all_goals go_wp2
              obtain ⟨R, hR0⟩ : ∃ R, R = partLoop ltL a (i' + 1) (j' - 1) (swp E i' j') := ⟨_, rfl⟩
              have hP : Hid (partition ltL d a b pivot = (R.1, false, swp R.2 R.1 a)) := by rw [hR0]; exact part_first_go ltL d a b pivot hI.out hJ.out hD.out hi2.out hj2.out (by omega)
              have w0e : ((W3.setCell ⟨blk, off + i', none⟩ (.int .u64 (g j'))).setCell ⟨blk, off + j', none⟩ (.int .u64 (g i'))).drew = (putRow lbV w blk off (swp E i' j')).drewN (n + (n2 + nq) + 1) := by
                rw [hW3.out, hW.out, World.drewN_drewN, hg.out i', hg.out j']
                exact swap_worldC lbV w blk off E _ i' j' (by omega) (by omega)
              have hR : Hid (R = partLoop ltL a (i' + 1) (j' - 1) (swp E i' j')) := hR0
              clear hR0 hc hf hc3 hf3 hy3 hW3 hW hg hi2 hj2
              go_loopw [10, 11] (fun vi vj W => ∃ (i j n : Nat) (E : Array Nat), vi = .int .i64 i ∧ vj = .int .i64 j ∧ a < i ∧ i ≤ j + 1 ∧ j < b ∧ E.size = d.size ∧ W = (putRow lbV w blk off E).drewN n ∧ partLoop ltL a i j E = R)
                (fun vi vj _ => (intOf vj).toNat + 1 - (intOf vi).toNat)
              case atStart => exact ⟨i' + 1, j' - 1, _, swp E i' j', by go_num, by go_num, by omega, by omega, by omega, by rw [size_swp]; exact hs, w0e, hR.out.symm⟩
              case round =>
                clear w0e hR
                obtain ⟨i, j, n, E, rfl, rfl, hai, hij, hjb, hs, hw, heq⟩ := hrel
                rename World => W1
                have hE : Hid (partLoop ltL a i j E = R) := heq
                clear heq
                have hK : Holds lbV W1 blk off E := by rw [hw]; exact holds_putRow lbV w blk off d E aH.out hs
                obtain ⟨g, hg0⟩ : ∃ g : Nat → Nat, ∀ t, g t = E[t]! := ⟨_, fun _ => rfl⟩
                have hc : ∀ t, t < d.size → W1.cell? ⟨blk, off + t, none⟩ = some (.int .u64 (g t)) := fun t ht => by rw [hg0]; exact (hK t (by omega)).1
                have hf : ∀ t, t < d.size → W1.frozen? ⟨blk, off + t, none⟩ = false := fun t ht => (hK t (by omega)).2
                have hg : Hid (∀ t, g t = E[t]!) := hg0
                have hW : Hid (W1 = (putRow lbV w blk off E).drewN n) := hw
                clear hg0 hw hK
                go_wp2
                go_loopw [10] (fun v w1 => ∃ (i' n1 : Nat), v = .int .i64 i' ∧ i ≤ i' ∧ i' ≤ j + 1 ∧ w1 = W1.drewN n1 ∧ Hid (scanUp (fun x => ltL x E[a]!) E j i' = scanUp (fun x => ltL x E[a]!) E j i)) (fun v _ => j + 1 - (intOf v).toNat)
                case atStart => exact ⟨i, 0, rfl, Nat.le_refl _, hij, rfl, rfl⟩
                case round =>
                  obtain ⟨i', n1, rfl, hii, hij', w1e, hsc⟩ := hrel
                  have hcw : ∀ t, t < d.size → wr.cell? ⟨blk, off + t, none⟩ = some (.int .u64 (g t)) := fun t ht => by rw [w1e]; exact hc t ht
                  have hW1 : Hid (wr = W1.drewN n1) := w1e
                  clear w1e
                  by_cases hle : i' ≤ j
                  · go_wp2_with fail
                    go_big_quiet (first | (go_at_call 77; refine Calls.quiet_of_same (lbLess_any _ _ _)))
                    go_wp2
                    · have ht : ltL (g i') (g a) = true := by first | assumption | exact decide_eq_true (by assumption) | (have q : (!ltL (g i') (g a)) = false := (by assumption); simpa using q)
                      go_roundw
                      case rel => exact ⟨i' + 1, n1 + nq, by go_num, by omega, by omega, by rw [hW1.out, World.drewN_drewN], (scanUp_go (fun x => ltL x E[a]!) E j i' hle (by show ltL E[i']! E[a]! = true; rw [← hg.out a, ← hg.out i', ht])).symm.trans hsc.out⟩
                      case measure => simp [intOf]; omega
                    · have ht : ltL (g i') (g a) = false := by first | assumption | exact decide_eq_false (by assumption) | exact decide_eq_false (Nat.not_lt.2 (by assumption)) | (have q : (!ltL (g i') (g a)) = true := (by assumption); simpa using q)
                      have hi2 : Hid (i' = scanUp (fun x => ltL x E[a]!) E j i) := (scanUp_end (fun x => ltL x E[a]!) E j i' (Or.inr (by show ltL E[i']! E[a]! = false; rw [← hg.out a, ← hg.out i', ht]))).symm.trans hsc.out
                      clear ht
                      have w2e : wr.drewN nq = W1.drewN (n1 + nq) := by rw [hW1.out, World.drewN_drewN]
                      clear hcw hW1 hsc
                      go_loopw [11] (fun v w2 => ∃ (j' n2 : Nat), v = .int .i64 j' ∧ j' ≤ j ∧ i' ≤ j' + 1 ∧ w2 = W1.drewN n2 ∧ Hid (scanDown (fun x => !ltL x E[a]!) E i' j' = scanDown (fun x => !ltL x E[a]!) E i' j)) (fun v _ => (intOf v).toNat)
                      case atStart => exact ⟨j, n1 + nq, rfl, Nat.le_refl _, hij', w2e, rfl⟩
                      case round =>
                        clear w2e
                        obtain ⟨j', n2, rfl, hjj, hij2, w2e, hsd⟩ := hrel
                        have hcw : ∀ t, t < d.size → wr.cell? ⟨blk, off + t, none⟩ = some (.int .u64 (g t)) := fun t ht => by rw [w2e]; exact hc t ht
                        have hW2 : Hid (wr = W1.drewN n2) := w2e
                        clear w2e
                        by_cases hle2 : i' ≤ j'
                        · go_wp2_with fail
                          go_big_quiet (first | (go_at_call 77; refine Calls.quiet_of_same (lbLess_any _ _ _)))
                          go_wp2
                          · have ht : ltL (g j') (g a) = false := by first | assumption | exact decide_eq_false (by assumption) | exact decide_eq_false (Nat.not_lt.2 (by assumption)) | (have q : (!ltL (g j') (g a)) = true := (by assumption); simpa using q)
                            go_roundw
                            case rel => exact ⟨j' - 1, n2 + nq, by go_num, by omega, by omega, by rw [hW2.out, World.drewN_drewN], (scanDown_go (fun x => !ltL x E[a]!) E i' j' hle2 (by omega) (by show (!ltL E[j']! E[a]!) = true; rw [← hg.out a, ← hg.out j', ht]; rfl)).symm.trans hsd.out⟩
                            case measure => simp [intOf]; omega
                          · have ht : ltL (g j') (g a) = true := by first | assumption | exact decide_eq_true (by assumption) | (have q : (!ltL (g j') (g a)) = false := (by assumption); simpa using q)
                            have hj2 : Hid (j' = scanDown (fun x => !ltL x E[a]!) E i' j) := (scanDown_end (fun x => !ltL x E[a]!) E i' j' (Or.inr (by show (!ltL E[j']! E[a]!) = false; rw [← hg.out a, ← hg.out j', ht]; rfl))).symm.trans hsd.out
                            clear hcw hsd ht
                            have w3e : wr.drewN nq = W1.drewN (n2 + nq) := by rw [hW2.out, World.drewN_drewN]
                            generalize wr.drewN nq = W3 at w3e ⊢
                            have hc3 : ∀ t, t < d.size → W3.cell? ⟨blk, off + t, none⟩ = some (.int .u64 (g t)) := fun t ht => by rw [w3e]; exact hc t ht
                            have hf3 : ∀ t, t < d.size → W3.frozen? ⟨blk, off + t, none⟩ = false := fun t ht => by rw [w3e]; exact hf t ht
                            have hW3 : Hid (W3 = W1.drewN (n2 + nq)) := w3e
                            clear w3e
                            obtain ⟨v3, hy3⟩ := cell?_setCell_some (w := W3) (p := ⟨blk, off + i', none⟩) (x := .int .u64 (g j')) (q := ⟨blk, off + j', none⟩) (hc3 j' (by omega))
                            have hlt3 := part_scans_lt ltL a i j E (by omega) hi2.out hj2.out hle2
                            go_wp2
                            go_region
                            all_goals go_wp2
                            all_goals go_roundw
                            case rel =>
                              refine ⟨i' + 1, j' - 1, n + (n2 + nq) + 1, swp E i' j', by go_num, by go_num, by omega, by omega, by omega, by rw [size_swp]; exact hs, ?_, ?_⟩
                              · rw [hW3.out, hW.out, World.drewN_drewN, hg.out i', hg.out j']
                                exact swap_worldC lbV w blk off E _ i' j' (by omega) (by omega)
                              · exact (part_go ltL a i j E hi2.out hj2.out (by omega)).symm.trans hE.out
                            case measure => simp [intOf]; omega
                        · go_wp2_with fail
                          go_big_quiet (first | (go_at_call 77; refine Calls.quiet_of_same (lbLess_any _ _ _)))
                          have hj2 : Hid (j' = scanDown (fun x => !ltL x E[a]!) E i' j) := (scanDown_end (fun x => !ltL x E[a]!) E i' j' (Or.inl hle2)).symm.trans hsd.out
                          clear hcw hsd
                          have w3e : wr.drewN nq = W1.drewN (n2 + nq) := by rw [hW2.out, World.drewN_drewN]
                          generalize wr.drewN nq = W3 at w3e ⊢
                          have hc3 : ∀ t, t < d.size → W3.cell? ⟨blk, off + t, none⟩ = some (.int .u64 (g t)) := fun t ht => by rw [w3e]; exact hc t ht
                          have hf3 : ∀ t, t < d.size → W3.frozen? ⟨blk, off + t, none⟩ = false := fun t ht => by rw [w3e]; exact hf t ht
                          have hW3 : Hid (W3 = W1.drewN (n2 + nq)) := w3e
                          clear w3e
                          obtain ⟨v3, hy3⟩ := cell?_setCell_some (w := W3) (p := ⟨blk, off + j', none⟩) (x := .int .u64 (g a)) (q := ⟨blk, off + a, none⟩) (hc3 a (by omega))
                          have hlj : j' < d.size := by omega
                          go_wp2
                          go_region
                          all_goals go_wp2
                          all_goals go_ret2
                          have e : partition ltL d a b pivot = (j', false, swp E j' a) := by
                            have e0 := (part_break ltL a i j E hi2.out hj2.out (by omega)).symm.trans hE.out
                            rw [hP.out, ← e0]
                          refine ⟨?_, n + (n2 + nq) + 1, ?_⟩
                          · rw [e]; rfl
                          · rw [e, hW3.out, hW.out, World.drewN_drewN, hg.out a, hg.out j']
                            exact swap_worldC lbV w blk off E _ j' a (by omega) (by omega)
                  · go_wp2_with fail
                    go_big_quiet (first | (go_at_call 77; refine Calls.quiet_of_same (lbLess_any _ _ _)))
                    go_wp2
                    have hi2 : Hid (i' = scanUp (fun x => ltL x E[a]!) E j i) := (scanUp_end (fun x => ltL x E[a]!) E j i' (Or.inl hle)).symm.trans hsc.out
                    have w2e : wr.drewN nq = W1.drewN (n1 + nq) := by rw [hW1.out, World.drewN_drewN]
                    clear hcw hW1 hsc
                    go_loopw [11] (fun v w2 => ∃ (j' n2 : Nat), v = .int .i64 j' ∧ j' ≤ j ∧ i' ≤ j' + 1 ∧ w2 = W1.drewN n2 ∧ Hid (scanDown (fun x => !ltL x E[a]!) E i' j' = scanDown (fun x => !ltL x E[a]!) E i' j)) (fun v _ => (intOf v).toNat)
                    case atStart => exact ⟨j, n1 + nq, rfl, Nat.le_refl _, hij', w2e, rfl⟩
                    case round =>
                      clear w2e
                      obtain ⟨j', n2, rfl, hjj, hij2, w2e, hsd⟩ := hrel
                      have hcw : ∀ t, t < d.size → wr.cell? ⟨blk, off + t, none⟩ = some (.int .u64 (g t)) := fun t ht => by rw [w2e]; exact hc t ht
                      have hW2 : Hid (wr = W1.drewN n2) := w2e
                      clear w2e
                      by_cases hle2 : i' ≤ j'
                      · exfalso; omega
                      · go_wp2_with fail
                        go_big_quiet (first | (go_at_call 77; refine Calls.quiet_of_same (lbLess_any _ _ _)))
                        have hj2 : Hid (j' = scanDown (fun x => !ltL x E[a]!) E i' j) := (scanDown_end (fun x => !ltL x E[a]!) E i' j' (Or.inl hle2)).symm.trans hsd.out
                        clear hcw hsd
                        have w3e : wr.drewN nq = W1.drewN (n2 + nq) := by rw [hW2.out, World.drewN_drewN]
                        generalize wr.drewN nq = W3 at w3e ⊢
                        have hc3 : ∀ t, t < d.size → W3.cell? ⟨blk, off + t, none⟩ = some (.int .u64 (g t)) := fun t ht => by rw [w3e]; exact hc t ht
                        have hf3 : ∀ t, t < d.size → W3.frozen? ⟨blk, off + t, none⟩ = false := fun t ht => by rw [w3e]; exact hf t ht
                        have hW3 : Hid (W3 = W1.drewN (n2 + nq)) := w3e
                        clear w3e
                        obtain ⟨v3, hy3⟩ := cell?_setCell_some (w := W3) (p := ⟨blk, off + j', none⟩) (x := .int .u64 (g a)) (q := ⟨blk, off + a, none⟩) (hc3 a (by omega))
                        have hlj : j' < d.size := by omega
                        go_wp2
                        go_region
                        all_goals go_wp2
                        all_goals go_ret2
                        have e : partition ltL d a b pivot = (j', false, swp E j' a) := by
                          have e0 := (part_break ltL a i j E hi2.out hj2.out (by omega)).symm.trans hE.out
                          rw [hP.out, ← e0]
                        refine ⟨?_, n + (n2 + nq) + 1, ?_⟩
                        · rw [e]; rfl
                        · rw [e, hW3.out, hW.out, World.drewN_drewN, hg.out a, hg.out j']
                          exact swap_worldC lbV w blk off E _ j' a (by omega) (by omega)
          · go_wp2_with fail
            go_big_quiet (first | (go_at_call 77; refine Calls.quiet_of_same (lbLess_any _ _ _)))
            have hj2 : Hid (j' = scanDown (fun x => !ltL x E[a]!) E i' j) := (scanDown_end (fun x => !ltL x E[a]!) E i' j' (Or.inl hle2)).symm.trans hsd.out
            clear hcw hsd
            have w3e : wr.drewN nq = W1.drewN (n2 + nq) := by rw [hW2.out, World.drewN_drewN]
            generalize wr.drewN nq = W3 at w3e ⊢
            have hc3 : ∀ t, t < d.size → W3.cell? ⟨blk, off + t, none⟩ = some (.int .u64 (g t)) := fun t ht => by rw [w3e]; exact hc t ht
            have hf3 : ∀ t, t < d.size → W3.frozen? ⟨blk, off + t, none⟩ = false := fun t ht => by rw [w3e]; exact hf t ht
            have hW3 : Hid (W3 = W1.drewN (n2 + nq)) := w3e
            clear w3e
            obtain ⟨v3, hy3⟩ := cell?_setCell_some (w := W3) (p := ⟨blk, off + j', none⟩) (x := .int .u64 (g a)) (q := ⟨blk, off + a, none⟩) (hc3 a (by omega))
            have hlj : j' < d.size := by omega
            go_wp2
            go_region
            all_goals go_wp2
            all_goals go_ret2
            have e : partition ltL d a b pivot = (j', true, swp E j' a) := part_first_break ltL d a b pivot hI.out hJ.out hD.out hi2.out hj2.out (by omega)
            refine ⟨?_, n + (n2 + nq) + 1, ?_⟩
            · rw [e]; rfl
            · rw [e, hW3.out, hW.out, World.drewN_drewN, hg.out a, hg.out j']
              exact swap_worldC lbV w blk off E _ j' a (by omega) (by omega)
    · go_wp2_with fail
      go_big_quiet (first | (go_at_call 77; refine Calls.quiet_of_same (lbLess_any _ _ _)))
      go_wp2
      have hi2 : Hid (i' = scanUp (fun x => ltL x E[a]!) E j i) := (scanUp_end (fun x => ltL x E[a]!) E j i' (Or.inl hle)).symm.trans hsc.out
      have w2e : wr.drewN nq = W1.drewN (n1 + nq) := by rw [hW1.out, World.drewN_drewN]
      clear hcw hW1 hsc
      go_loopw [11] (fun v w2 => ∃ (j' n2 : Nat), v = .int .i64 j' ∧ j' ≤ j ∧ i' ≤ j' + 1 ∧ w2 = W1.drewN n2 ∧ Hid (scanDown (fun x => !ltL x E[a]!) E i' j' = scanDown (fun x => !ltL x E[a]!) E i' j)) (fun v _ => (intOf v).toNat)
      case atStart => exact ⟨j, n1 + nq, rfl, Nat.le_refl _, hij', w2e, rfl⟩
      case round =>
        clear w2e
        obtain ⟨j', n2, rfl, hjj, hij2, w2e, hsd⟩ := hrel
        have hcw : ∀ t, t < d.size → wr.cell? ⟨blk, off + t, none⟩ = some (.int .u64 (g t)) := fun t ht => by rw [w2e]; exact hc t ht
        have hW2 : Hid (wr = W1.drewN n2) := w2e
        clear w2e
        by_cases hle2 : i' ≤ j'
        · exfalso; omega
        · go_wp2_with fail
          go_big_quiet (first | (go_at_call 77; refine Calls.quiet_of_same (lbLess_any _ _ _)))
          have hj2 : Hid (j' = scanDown (fun x => !ltL x E[a]!) E i' j) := (scanDown_end (fun x => !ltL x E[a]!) E i' j' (Or.inl hle2)).symm.trans hsd.out
          clear hcw hsd
          have w3e : wr.drewN nq = W1.drewN (n2 + nq) := by rw [hW2.out, World.drewN_drewN]
          generalize wr.drewN nq = W3 at w3e ⊢
          have hc3 : ∀ t, t < d.size → W3.cell? ⟨blk, off + t, none⟩ = some (.int .u64 (g t)) := fun t ht => by rw [w3e]; exact hc t ht
          have hf3 : ∀ t, t < d.size → W3.frozen? ⟨blk, off + t, none⟩ = false := fun t ht => by rw [w3e]; exact hf t ht
          have hW3 : Hid (W3 = W1.drewN (n2 + nq)) := w3e
          clear w3e
          obtain ⟨v3, hy3⟩ := cell?_setCell_some (w := W3) (p := ⟨blk, off + j', none⟩) (x := .int .u64 (g a)) (q := ⟨blk, off + a, none⟩) (hc3 a (by omega))
          have hlj : j' < d.size := by omega
          go_wp2
          go_region
          all_goals go_wp2
          all_goals go_ret2
          have e : partition ltL d a b pivot = (j', true, swp E j' a) := part_first_break ltL d a b pivot hI.out hJ.out hD.out hi2.out hj2.out (by omega)
          refine ⟨?_, n + (n2 + nq) + 1, ?_⟩
          · rw [e]; rfl
          · rw [e, hW3.out, hW.out, World.drewN_drewN, hg.out a, hg.out j']
            exact swap_worldC lbV w blk off E _ j' a (by omega) (by omega)
end Go.Proofs.Ytdpikdkhemhmdaa
