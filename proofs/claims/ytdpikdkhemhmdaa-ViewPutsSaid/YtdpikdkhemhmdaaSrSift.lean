/- The library's sifting down over labels: by a contract. -/
import Derived.Test.YtdpikdkhemhmdaaSrIns
import Derived.Sort.WalkB2
namespace Go.Proofs.Ytdpikdkhemhmdaa
open Go Go.RowKit Go.Sort

set_option maxHeartbeats 3200000 in
set_option maxRecDepth 1000000 in
theorem lbSift_any (blk off len cap : Nat) (d : Array Nat) (hlen : d.size = len) (lo hi first : Nat) (w : World) (hH : Holds lbV w blk off d) (hlo : lo ≤ hi) (hb : first + hi ≤ d.size) (hsz : d.size < 4611686018427387904) :
    Calls Try.prog 84 #[.slice (some ⟨blk, off, none⟩) len cap, .int .i64 lo, .int .i64 hi, .int .i64 first] w fun e w' =>
      e = .returned (.tuple #[]) ∧ ∃ n, w' = lbPut w n blk off (siftDown ltL hi first lo d) := by
  subst hlen
  go_enter Try.func84, Try.ntmps84
  go_wp2
  go_loopg [8] (hi - lo) (fun k v W => ∃ (root : Nat) (E : Array Nat) (n : Nat), v = .int .i64 root ∧ root ≤ hi ∧ hi - root ≤ k ∧ E.size = d.size ∧ W = lbPut w n blk off E ∧ siftDown ltL hi first root E = siftDown ltL hi first lo d)
  case atStart => exact ⟨lo, d, 0, rfl, hlo, Nat.le_refl _, rfl, (putRow_self lbV w blk off d hH).symm, rfl⟩
  case round =>
    obtain ⟨root, E, n, rfl, hr, hk, hs, hW, he⟩ := hrel
    have hK : Holds lbV wr blk off E := by rw [hW]; exact holds_putRow lbV _ blk off d E (holds_ahead lbV w n blk off d hH) hs
    have hcell : ∀ t, t < d.size → wr.cell? ⟨blk, off + t, none⟩ = some (.int .u64 E[t]!) := fun t ht => (hK t (by omega)).1
    have hfree : ∀ t, t < d.size → wr.frozen? ⟨blk, off + t, none⟩ = false := fun t ht => (hK t (by omega)).2
    have hA : Aside (wr = lbPut w n blk off E) := hW
    clear hW hH hK
    by_cases h0 : hi ≤ 2 * root + 1
    · have h0z : (hi : Int) ≤ 2 * (root : Int) + 1 := by omega
      go_wp2
      go_end0
      refine ⟨rfl, n, ?_⟩
      rw [hA.out, ← he, sd_end ltL E h0]
    · have h0z : ¬ ((hi : Int) ≤ 2 * (root : Int) + 1) := by omega
      by_cases h1 : 2 * root + 2 < hi
      · have h1z : 2 * (root : Int) + 1 + 1 < (hi : Int) := by omega
        go_wp2_with fail
        go_big_quiet (first | (go_at_call 77; refine Calls.quiet_of_same (lbLess_any _ _ _)))
        go_wp2_with fail
        · have hL : ltL E[first + 2 * root + 1]! E[first + 2 * root + 2]! = true := by first | exact decide_eq_true (by assumption) | (have q : (!ltL E[first + 2 * root + 1]! E[first + 2 * root + 2]!) = false := (by assumption); simpa using q)
          revert nq; intro m1
          have hcell2 : ∀ t, t < d.size → (wr.drewN m1).cell? ⟨blk, off + t, none⟩ = some (.int .u64 E[t]!) := hcell
          have hfree2 : ∀ t, t < d.size → (wr.drewN m1).frozen? ⟨blk, off + t, none⟩ = false := hfree
          have hA2 : Aside (wr.drewN m1 = lbPut w (n + m1) blk off E) := drewN_world lbV hA.out m1
          clear hcell hfree hA
          generalize wr.drewN m1 = w2 at hcell2 hfree2 hA2 ⊢
          go_big_quiet (first | (go_at_call 77; refine Calls.quiet_of_same (lbLess_any _ _ _)))
          go_wp2_with fail
          · have hS : ltL E[first + root]! E[first + 2 * root + 2]! = false := by first | exact decide_eq_false (by assumption) | (have q : (!ltL E[first + root]! E[first + 2 * root + 2]!) = true := (by assumption); simpa using q) | (have q : E[first + 2 * root + 2]! ≤ E[first + root]! := (by assumption); exact decide_eq_false (by omega))
            (try simp only [Exit.inBlock, Exit.then]); refine bodyPost_ret (results_none rfl _ _ _) rfl ?_
            refine ⟨rfl, n + m1 + nq, ?_⟩
            rw [drewN_world lbV hA2.out nq, ← he, sd_right_stop ltL E h1 hL hS]
          · have hG : ltL E[first + root]! E[first + 2 * root + 2]! = true := by first | exact decide_eq_true (by assumption) | (have q : (!ltL E[first + root]! E[first + 2 * root + 2]!) = false := (by assumption); simpa using q)
            have hcell3 : ∀ t, t < d.size → (w2.drewN nq).cell? ⟨blk, off + t, none⟩ = some (.int .u64 E[t]!) := hcell2
            have hfree3 : ∀ t, t < d.size → (w2.drewN nq).frozen? ⟨blk, off + t, none⟩ = false := hfree2
            have hA3 : Aside (w2.drewN nq = lbPut w (n + m1 + nq) blk off E) := drewN_world lbV hA2.out nq
            clear hcell2 hfree2 hA2
            generalize w2.drewN nq = w3 at hcell3 hfree3 hA3 ⊢
            go_region
            go_wp2
            go_roundg (hi - (2 * root + 2))
            case measure => omega
            case rel =>
              refine ⟨2 * root + 2, swp E (first + root) (first + (2 * root + 1 + 1)), n + m1 + nq + 1, by simp <;> omega, by omega, Nat.le_refl _, by rw [size_swp]; exact hs, swap_world lbV (by omega) (by omega) hA3.out rfl rfl, ?_⟩
              rw [← he, sd_right_go ltL E h1 hL hG]
        · have hL : ltL E[first + 2 * root + 1]! E[first + 2 * root + 2]! = false := by first | exact decide_eq_false (by assumption) | (have q : (!ltL E[first + 2 * root + 1]! E[first + 2 * root + 2]!) = true := (by assumption); simpa using q) | (have q : E[first + 2 * root + 2]! ≤ E[first + 2 * root + 1]! := (by assumption); exact decide_eq_false (by omega))
          revert nq; intro m1
          have hcell2 : ∀ t, t < d.size → (wr.drewN m1).cell? ⟨blk, off + t, none⟩ = some (.int .u64 E[t]!) := hcell
          have hfree2 : ∀ t, t < d.size → (wr.drewN m1).frozen? ⟨blk, off + t, none⟩ = false := hfree
          have hA2 : Aside (wr.drewN m1 = lbPut w (n + m1) blk off E) := drewN_world lbV hA.out m1
          clear hcell hfree hA
          generalize wr.drewN m1 = w2 at hcell2 hfree2 hA2 ⊢
          go_big_quiet (first | (go_at_call 77; refine Calls.quiet_of_same (lbLess_any _ _ _)))
          go_wp2_with fail
          · have hS : ltL E[first + root]! E[first + 2 * root + 1]! = false := by first | exact decide_eq_false (by assumption) | (have q : (!ltL E[first + root]! E[first + 2 * root + 1]!) = true := (by assumption); simpa using q) | (have q : E[first + 2 * root + 1]! ≤ E[first + root]! := (by assumption); exact decide_eq_false (by omega))
            (try simp only [Exit.inBlock, Exit.then]); refine bodyPost_ret (results_none rfl _ _ _) rfl ?_
            refine ⟨rfl, n + m1 + nq, ?_⟩
            rw [drewN_world lbV hA2.out nq, ← he, sd_left_stop ltL E (by omega) (fun _ => hL) hS]
          · have hG : ltL E[first + root]! E[first + 2 * root + 1]! = true := by first | exact decide_eq_true (by assumption) | (have q : (!ltL E[first + root]! E[first + 2 * root + 1]!) = false := (by assumption); simpa using q)
            have hcell3 : ∀ t, t < d.size → (w2.drewN nq).cell? ⟨blk, off + t, none⟩ = some (.int .u64 E[t]!) := hcell2
            have hfree3 : ∀ t, t < d.size → (w2.drewN nq).frozen? ⟨blk, off + t, none⟩ = false := hfree2
            have hA3 : Aside (w2.drewN nq = lbPut w (n + m1 + nq) blk off E) := drewN_world lbV hA2.out nq
            clear hcell2 hfree2 hA2
            generalize w2.drewN nq = w3 at hcell3 hfree3 hA3 ⊢
            go_region
            go_wp2
            go_roundg (hi - (2 * root + 1))
            case measure => omega
            case rel =>
              refine ⟨2 * root + 1, swp E (first + root) (first + (2 * root + 1)), n + m1 + nq + 1, by simp <;> omega, by omega, Nat.le_refl _, by rw [size_swp]; exact hs, swap_world lbV (by omega) (by omega) hA3.out rfl rfl, ?_⟩
              rw [← he, sd_left_go ltL E (by omega) (fun _ => hL) hG]
      · have h1z : decide (2 * (root : Int) + 1 + 1 < (hi : Int)) = false := decide_eq_false (by omega)
        go_wp2_with fail
        go_big_quiet (first | (go_at_call 77; refine Calls.quiet_of_same (lbLess_any _ _ _)))
        go_wp2_with fail
        revert nq; intro m1
        have hcell2 : ∀ t, t < d.size → (wr.drewN m1).cell? ⟨blk, off + t, none⟩ = some (.int .u64 E[t]!) := hcell
        have hfree2 : ∀ t, t < d.size → (wr.drewN m1).frozen? ⟨blk, off + t, none⟩ = false := hfree
        have hA2 : Aside (wr.drewN m1 = lbPut w (n + m1) blk off E) := drewN_world lbV hA.out m1
        clear hcell hfree hA
        generalize wr.drewN m1 = w2 at hcell2 hfree2 hA2 ⊢
        go_big_quiet (first | (go_at_call 77; refine Calls.quiet_of_same (lbLess_any _ _ _)))
        go_wp2_with fail
        · have hS : ltL E[first + root]! E[first + 2 * root + 1]! = false := by first | exact decide_eq_false (by assumption) | (have q : (!ltL E[first + root]! E[first + 2 * root + 1]!) = true := (by assumption); simpa using q) | (have q : E[first + 2 * root + 1]! ≤ E[first + root]! := (by assumption); exact decide_eq_false (by omega))
          (try simp only [Exit.inBlock, Exit.then]); refine bodyPost_ret (results_none rfl _ _ _) rfl ?_
          refine ⟨rfl, n + m1 + nq, ?_⟩
          rw [drewN_world lbV hA2.out nq, ← he, sd_left_stop ltL E (by omega) (fun h => absurd h h1) hS]
        · have hG : ltL E[first + root]! E[first + 2 * root + 1]! = true := by first | exact decide_eq_true (by assumption) | (have q : (!ltL E[first + root]! E[first + 2 * root + 1]!) = false := (by assumption); simpa using q)
          have hcell3 : ∀ t, t < d.size → (w2.drewN nq).cell? ⟨blk, off + t, none⟩ = some (.int .u64 E[t]!) := hcell2
          have hfree3 : ∀ t, t < d.size → (w2.drewN nq).frozen? ⟨blk, off + t, none⟩ = false := hfree2
          have hA3 : Aside (w2.drewN nq = lbPut w (n + m1 + nq) blk off E) := drewN_world lbV hA2.out nq
          clear hcell2 hfree2 hA2
          generalize w2.drewN nq = w3 at hcell3 hfree3 hA3 ⊢
          go_region
          go_wp2
          go_roundg (hi - (2 * root + 1))
          case measure => omega
          case rel =>
            refine ⟨2 * root + 1, swp E (first + root) (first + (2 * root + 1)), n + m1 + nq + 1, by simp <;> omega, by omega, Nat.le_refl _, by rw [size_swp]; exact hs, swap_world lbV (by omega) (by omega) hA3.out rfl rfl, ?_⟩
            rw [← he, sd_left_go ltL E (by omega) (fun h => absurd h h1) hG]
end Go.Proofs.Ytdpikdkhemhmdaa
