/- The library's choice of a pivot over labels: by a contract. -/
import Derived.Test.YtdpikdkhemhmdaaSrMed
import Derived.Sort.Walk11
namespace Go.Proofs.Ytdpikdkhemhmdaa
open Go Go.RowKit Go.Sort

theorem lbCounter (w : World) (N S : Nat) : ∃ os, putRow (Value.int .i64) (Sort.ahead (w.alloc (.cells #[.int .i64 0] 3)) N) w.heap.size 0 (one S) = grow (Sort.ahead w N) os := by
  rw [alloc_eq_grow, ahead_grow]
  obtain ⟨os, _, h⟩ := putRow_grow_new (Value.int .i64) (Sort.ahead w N) #[.cells #[.int .i64 0] 3] w.heap.size 0 (one S) (Nat.le_refl _)
  exact ⟨os, h⟩
theorem lbPivotWorld (blk off cap : Nat) (d : Array Nat) (w : World) (hH : Holds lbV w blk off d) (hblk : blk < w.heap.size) (hsz : d.size < 4611686018427387904) :
    ∃ F : Nat → Nat → World, w.alloc (.cells #[.int .i64 0] 3) = F 0 0 ∧
      (∀ N S : Nat, (F N S).cell? ⟨w.heap.size, 0, none⟩ = some (.int .i64 (S : Int))) ∧ (∀ N S : Nat, ∃ os, F N S = grow (Sort.ahead w N) os) ∧
      (∀ x s N : Nat, 1 ≤ x → x + 1 < d.size → s + 3 < 4611686018427387904 → Calls Try.prog 87 #[Value.slice (some ⟨blk, off, none⟩) d.size cap, .int .i64 (x : Int), Value.pointer (some ⟨w.heap.size, 0, none⟩)] (F N s) fun e w' =>
        e = .returned (.int .i64 ((medianAdjacent ltL d x s).1 : Int)) ∧ ∃ M, w' = F M (medianAdjacent ltL d x s).2) ∧
      (∀ x y z s N : Nat, x < d.size → y < d.size → z < d.size → s + 3 < 4611686018427387904 → Calls Try.prog 88 #[Value.slice (some ⟨blk, off, none⟩) d.size cap, .int .i64 (x : Int), .int .i64 (y : Int), .int .i64 (z : Int), Value.pointer (some ⟨w.heap.size, 0, none⟩)] (F N s) fun e w' =>
        e = .returned (.int .i64 ((median ltL d x y z s).1 : Int)) ∧ ∃ M, w' = F M (median ltL d x y z s).2) := by
  have hne : w.heap.size ≠ blk := by omega
  have h0 : Holds lbV (w.alloc (.cells #[.int .i64 0] 3)) blk off d := by rw [alloc_eq_grow]; exact holds_grow _ _ _ _ _ _ hblk hH
  have s0 : Holds (Value.int .i64) (w.alloc (.cells #[.int .i64 0] 3)) w.heap.size 0 (one 0) := fun j hj => by
    obtain rfl : j = 0 := by simpa using hj
    simp
  refine ⟨fun N S => putRow (Value.int .i64) (Sort.ahead (w.alloc (.cells #[.int .i64 0] 3)) N) w.heap.size 0 (one S), (putRow_self _ _ _ _ _ s0).symm, fun N S => (one_cell (lb_one (n := N) (t := S) s0)).1, fun N S => lbCounter w N S, ?_, ?_⟩
  · intro x s N h1 h2 hs
    refine (lbMedianAdj_any d _ rfl blk off cap x w.heap.size 0 s _ (lb_aside h0 hne) h1 h2 (by omega) hne (lb_one s0) (by omega)).mono ?_
    rintro e w' ⟨he, n, hw⟩
    exact ⟨he, N + n, by rw [hw, one_one]⟩
  · intro x y z s N h1 h2 h3 hs
    refine (lbMedian_any d _ rfl blk off cap x y z w.heap.size 0 s _ (lb_aside h0 hne) h1 h2 h3 hne (lb_one s0) (by omega)).mono ?_
    rintro e w' ⟨he, n, hw⟩
    exact ⟨he, N + n, by rw [hw, one_one]⟩

set_option maxHeartbeats 1000000 in
set_option maxRecDepth 100000 in
theorem lbPivot_any (blk off cap a b : Nat) (d : Array Nat) (w : World) (hH : Holds lbV w blk off d) (hblk : blk < w.heap.size) (hab : a < b) (hb : b ≤ d.size) (hsz : d.size < 4611686018427387904) :
    Calls Try.prog 74 #[.slice (some ⟨blk, off, none⟩) d.size cap, .int .i64 a, .int .i64 b] w fun e w' =>
      e = .returned (.tuple #[.int .i64 (choosePivot ltL d a b).1, .int .i64 (hintCode (choosePivot ltL d a b).2)]) ∧ ∃ n os, w' = grow (Sort.ahead w n) os := by
  obtain ⟨F, f0, fS, hG, cMA, cMD⟩ := lbPivotWorld blk off cap d w hH hblk hsz
  clear hH
  rw [choosePivot_eq]
  obtain ⟨I, hI⟩ : ∃ I : Nat, I = a + (b - a) / 4 * 1 := ⟨_, rfl⟩
  obtain ⟨J, hJ⟩ : ∃ J : Nat, J = a + (b - a) / 4 * 2 := ⟨_, rfl⟩
  obtain ⟨K, hK⟩ : ∃ K : Nat, K = a + (b - a) / 4 * 3 := ⟨_, rfl⟩
  have eI : ((a : Int) + ((b : Int) - (a : Int)) / 4) = (I : Int) := by omega
  have eJ : ((a : Int) + ((b : Int) - (a : Int)) / 4 * 2) = (J : Int) := by omega
  have eK : ((a : Int) + ((b : Int) - (a : Int)) / 4 * 3) = (K : Int) := by omega
  by_cases h8 : b - a ≥ 8
  · by_cases h50 : b - a ≥ 50
    · obtain ⟨i1, s1, h1⟩ : ∃ i1 s1, medianAdjacent ltL d I 0 = (i1, s1) := ⟨_, _, rfl⟩
      obtain ⟨j1, s2, h2⟩ : ∃ j1 s2, medianAdjacent ltL d J s1 = (j1, s2) := ⟨_, _, rfl⟩
      obtain ⟨k1, s3, h3⟩ : ∃ k1 s3, medianAdjacent ltL d K s2 = (k1, s3) := ⟨_, _, rfl⟩
      obtain ⟨p, s, h4⟩ : ∃ p s, median ltL d i1 j1 k1 s3 = (p, s) := ⟨_, _, rfl⟩
      have hraw : rawPivot ltL d a b = (p, s) := by simp only [rawPivot, if_pos h8, if_pos h50, ← hI, ← hJ, ← hK, h1, h2, h3, h4]
      have m1 := medianAdjacent_mem ltL d I 0; rw [h1] at m1
      have m2 := medianAdjacent_mem ltL d J s1; rw [h2] at m2
      have m3 := medianAdjacent_mem ltL d K s2; rw [h3] at m3
      have n1 := medianAdjacent_count ltL d I 0; rw [h1] at n1
      have n2 := medianAdjacent_count ltL d J s1; rw [h2] at n2
      have n3 := medianAdjacent_count ltL d K s2; rw [h3] at n3
      simp only [] at m1 m2 m3 n1 n2 n3
      have c1 := cMA I 0 0 (by omega) (by omega) (by omega)
      have c2 := fun N => cMA J s1 N (by omega) (by omega) (by omega)
      have c3 := fun N => cMA K s2 N (by omega) (by omega) (by omega)
      have c4 := fun N => cMD i1 j1 k1 s3 N (by omega) (by omega) (by omega) (by omega)
      simp only [h1] at c1
      simp only [h2] at c2
      simp only [h3] at c3
      simp only [h4] at c4
      rw [hraw]
      obtain ⟨q, hq⟩ : ∃ q : Int, q = hintCode (hintOf s) := ⟨_, rfl⟩
      have x0 : s = 0 → q = 1 := fun h => by rw [hq, h]; rfl
      have x12 : s = 12 → q = 2 := fun h => by rw [hq, h]; rfl
      have xx : s ≠ 0 → s ≠ 12 → q = 0 := fun h1 h2 => by rw [hq]; unfold hintOf; rw [if_neg h1, if_neg h2]; rfl
      show Calls Try.prog 74 _ w fun e w' => e = .returned (.tuple #[.int .i64 (p : Int), .int .i64 (hintCode (hintOf s))]) ∧ ∃ n os, w' = grow (Sort.ahead w n) os
      rw [← hq]
      clear hq hraw
      clear h1 h2 h3 h4 cMA cMD hI hJ hK m1 m2 m3
      go_enter Try.func74, Try.ntmps74
      go_wp2_with (first
        | (go_at_call_has 87 (Value.int .i64 (I : Int)); refine c1.mono ?_; rintro e w' ⟨rfl, N1, rfl⟩)
        | (go_at_call_has 87 (Value.int .i64 (J : Int)); refine (c2 _).mono ?_; rintro e w' ⟨rfl, N2, rfl⟩)
        | (go_at_call_has 87 (Value.int .i64 (K : Int)); refine (c3 _).mono ?_; rintro e w' ⟨rfl, N3, rfl⟩)
        | (go_at_call 88; refine (c4 _).mono ?_; rintro e w' ⟨rfl, N4, rfl⟩))
      all_goals
        go_ret2
        refine ⟨?_, _, hG _ _⟩
        first
          | (have e0 : (s : Int) = 0 := of_beq_int (by assumption)
             rw [x0 (by omega)]; rfl)
          | (have e1 : (s : Int) = 12 := of_beq_int (by assumption)
             rw [x12 (by omega)]; rfl)
          | (have e0 : (s : Int) ≠ 0 := of_bne_int (by assumption)
             have e1 : (s : Int) ≠ 12 := of_bne_int (by assumption)
             rw [xx (by omega) (by omega)]; rfl)
          | (rw [x0 (by omega)]; rfl)
    · obtain ⟨p, s, h4⟩ : ∃ p s, median ltL d I J K 0 = (p, s) := ⟨_, _, rfl⟩
      have hraw : rawPivot ltL d a b = (p, s) := by simp only [rawPivot, if_pos h8, if_neg h50, ← hI, ← hJ, ← hK, h4]
      have c4 := cMD I J K 0 0 (by omega) (by omega) (by omega) (by omega)
      simp only [h4] at c4
      rw [hraw]
      obtain ⟨q, hq⟩ : ∃ q : Int, q = hintCode (hintOf s) := ⟨_, rfl⟩
      have x0 : s = 0 → q = 1 := fun h => by rw [hq, h]; rfl
      have x12 : s = 12 → q = 2 := fun h => by rw [hq, h]; rfl
      have xx : s ≠ 0 → s ≠ 12 → q = 0 := fun h1 h2 => by rw [hq]; unfold hintOf; rw [if_neg h1, if_neg h2]; rfl
      show Calls Try.prog 74 _ w fun e w' => e = .returned (.tuple #[.int .i64 (p : Int), .int .i64 (hintCode (hintOf s))]) ∧ ∃ n os, w' = grow (Sort.ahead w n) os
      rw [← hq]
      clear hq hraw
      clear h4 cMA cMD hI hJ hK
      go_enter Try.func74, Try.ntmps74
      go_wp2_with (first | (go_at_call 88; refine c4.mono ?_; rintro e w' ⟨rfl, N4, rfl⟩))
      all_goals
        go_ret2
        refine ⟨?_, _, hG _ _⟩
        first
          | (have e0 : (s : Int) = 0 := of_beq_int (by assumption)
             rw [x0 (by omega)]; rfl)
          | (have e1 : (s : Int) = 12 := of_beq_int (by assumption)
             rw [x12 (by omega)]; rfl)
          | (have e0 : (s : Int) ≠ 0 := of_bne_int (by assumption)
             have e1 : (s : Int) ≠ 12 := of_bne_int (by assumption)
             rw [xx (by omega) (by omega)]; rfl)
          | (rw [x0 (by omega)]; rfl)
  · obtain ⟨p, hp⟩ : ∃ p : Nat, p = J := ⟨_, rfl⟩
    obtain ⟨s, hs⟩ : ∃ s : Nat, s = 0 := ⟨_, rfl⟩
    have hraw : rawPivot ltL d a b = (p, s) := by simp only [rawPivot, if_neg h8, ← hJ, hp, hs]
    rw [hraw]
    obtain ⟨q, hq⟩ : ∃ q : Int, q = hintCode (hintOf s) := ⟨_, rfl⟩
    have x0 : s = 0 → q = 1 := fun h => by rw [hq, h]; rfl
    have x12 : s = 12 → q = 2 := fun h => by rw [hq, h]; rfl
    have xx : s ≠ 0 → s ≠ 12 → q = 0 := fun h1 h2 => by rw [hq]; unfold hintOf; rw [if_neg h1, if_neg h2]; rfl
    show Calls Try.prog 74 _ w fun e w' => e = .returned (.tuple #[.int .i64 (p : Int), .int .i64 (hintCode (hintOf s))]) ∧ ∃ n os, w' = grow (Sort.ahead w n) os
    rw [← hq]
    clear hq hraw
    subst hp
    clear cMA cMD hI hJ hK
    have f1 : w.alloc (.cells #[.int .i64 0] 3) = F 0 s := by rw [hs]; exact f0
    clear f0
    go_enter Try.func74, Try.ntmps74
    go_wp2
    all_goals
      go_ret2
      refine ⟨?_, _, hG _ _⟩
      first
        | (have e0 : (s : Int) = 0 := of_beq_int (by assumption)
           rw [x0 (by omega)]; rfl)
        | (have e1 : (s : Int) = 12 := of_beq_int (by assumption)
           rw [x12 (by omega)]; rfl)
        | (have e0 : (s : Int) ≠ 0 := of_bne_int (by assumption)
           have e1 : (s : Int) ≠ 12 := of_bne_int (by assumption)
           rw [xx (by omega) (by omega)]; rfl)
        | (rw [x0 (by omega)]; rfl)
end Go.Proofs.Ytdpikdkhemhmdaa
