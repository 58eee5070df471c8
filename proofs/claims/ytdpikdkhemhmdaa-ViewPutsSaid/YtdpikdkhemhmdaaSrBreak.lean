/- The library's breaking of patterns over labels: by contracts. -/
import Derived.Test.YtdpikdkhemhmdaaSrXor
import Derived.Test.YtdpikdkhemhmdaaShelfD
import Derived.Sort.Walk7
namespace Go.Proofs.Ytdpikdkhemhmdaa
open Go Go.RowKit Go.Sort

theorem lbLen_any (n : Nat) (hn : n < 4611686018427387904) (w : World) : Calls Try.prog 69 #[.int .u64 (n : Int)] w fun e w' => e = .returned (.int .i64 (bitsLen n : Nat)) ∧ w' = w := by
  have h := Try.bits_Len (n : Int) w (by omega) (by omega)
  rwa [Int.toNat_natCast, bitLen_eq _ (by omega)] at h
theorem lbPow_any (n : Nat) (hn : n < 4611686018427387904) (w : World) :
    Calls Try.prog 85 #[.int .i64 n] w fun e w' => e = .returned (.int .u64 ((1 <<< bitsLen n : Nat) : Int)) ∧ w' = w := by
  have hk : bitsLen n ≤ 62 := (bitsLen_le_iff n 62).2 (by omega)
  have hp := wrap_two_pow (bitsLen n) hk
  go_enter Try.func85, Try.ntmps85
  go_wp2_with (first | (go_at_call 69; refine (lbLen_any n hn _).mono ?_; rintro e w' ⟨rfl, rfl⟩))
  go_ret
  exact ⟨rfl, rfl⟩

set_option maxHeartbeats 1000000 in
set_option maxRecDepth 100000 in
theorem lbBreakGo_any (blk off cap a L : Nat) (d : Array Nat) (w : World) (hH0 : Holds lbV w blk off d) (hblk : blk < w.heap.size) (hb : a + L ≤ d.size) (hsz : d.size < 4611686018427387904) (h8 : 8 ≤ L) :
    Calls Try.prog 73 #[.slice (some ⟨blk, off, none⟩) d.size cap, .int .i64 a, .int .i64 ((a + L : Nat) : Int)] w fun e w' =>
      e = .returned (.tuple #[]) ∧ ∃ n os, w' = grow (lbPut w n blk off (breakPatterns d a (a + L))) os := by
  rw [breakPatterns_eq d a L h8]
  obtain ⟨M, hM⟩ : ∃ M : Nat, M = 1 <<< bitsLen L := ⟨_, rfl⟩
  have hM1 : 1 ≤ M := by rw [hM, Nat.one_shiftLeft]; exact Nat.two_pow_pos _
  have hM2 : M ≤ 2 * L := by rw [hM, Nat.one_shiftLeft]; exact two_pow_bitsLen_le (by omega)
  have hP : ∀ w, Calls Try.prog 85 #[.int .i64 (L : Int)] w fun e w' => e = .returned (.int .u64 (M : Int)) ∧ w' = w := by rw [hM]; exact fun w => lbPow_any L (by omega) w
  rw [← hM]
  clear hM
  have hH : Hid (Holds lbV w blk off d) := hH0
  have hS : Hid (w.alloc (Obj.cells #[.int .u64 (L : Int)] 102) = grow (lbPut w 0 blk off d) #[Obj.cells #[.int .u64 ((UInt64.ofNat L).toNat : Int)] 102]) := by
    show _ = _
    rw [lbPut, show Sort.ahead w 0 = w from rfl, putRow_self _ _ _ _ _ hH0, alloc_eq_grow, show (UInt64.ofNat L).toNat = L from by simp; omega]
  clear hH0
  go_enter Try.func73, Try.ntmps73
  go_wp2_with (first | (go_at_call 85; rw [show ((a : Int) + (L : Int) - (a : Int)) = (L : Int) by omega]; refine (hP _).mono ?_; rintro e w' ⟨rfl, rfl⟩))
  go_loopw [9] (fun v W => ∃ (t n : Nat) (r : UInt64) (E : Array Nat), v = .int .i64 ((a + L / 4 * 2 - 1 + t : Nat) : Int) ∧ t ≤ 3 ∧ E.size = d.size ∧
      W = grow (lbPut w n blk off E) #[Obj.cells #[.int .u64 (r.toNat : Int)] 102] ∧
      bpRest a L M (a + L / 4 * 2 - 1) (3 - t) t (r, E) = bpRest a L M (a + L / 4 * 2 - 1) 3 0 (UInt64.ofNat L, d)) (fun v _ => a + L / 4 * 2 + 3 - (intOf v).toNat)
  case atStart => exact ⟨0, 0, UInt64.ofNat L, d, by congr 1; omega, by omega, rfl, hS.out, rfl⟩
  case round =>
    obtain ⟨t, n, r, E, rfl, ht, hs, hw, hR0⟩ := hrel
    obtain ⟨R, hRr⟩ : ∃ R : Nat, R = r.toNat := ⟨_, rfl⟩
    have lR : R < 18446744073709551616 := by rw [hRr]; exact r.toNat_lt
    obtain ⟨Y, hY⟩ : ∃ Y : Nat, Y = xorNextN R := ⟨_, rfl⟩
    have lY : Y < 18446744073709551616 := by rw [hY]; exact xorNextN_lt R lR
    obtain ⟨O, hO⟩ : ∃ O : Nat, O = Y &&& (M - 1) := ⟨_, rfl⟩
    have lO : O ≤ M - 1 := by rw [hO]; exact Nat.and_le_right
    have eAnd : bits .and .u64 (Y : Int) ((M : Int) - 1) = (O : Int) := by
      rw [show ((M : Int) - 1) = ((M - 1 : Nat) : Int) by omega, bits_and_u64_nat _ _ lY (by omega), hO]
    obtain ⟨g, hg0⟩ : ∃ g : Nat → Nat, ∀ x, g x = E[x]! := ⟨_, fun _ => rfl⟩
    have hz : (lbPut w n blk off E).heap.size = w.heap.size := by simp [lbPut]
    have hcell : ∀ x, x < d.size → wr.cell? ⟨blk, off + x, none⟩ = some (.int .u64 (g x)) := fun x hx => by
      rw [hw, cell?_grow _ _ _ (by rw [hz]; exact hblk), hg0]; exact cell?_putRow lbV _ _ _ d E (holds_ahead _ _ _ _ _ _ hH.out) hs x (by omega)
    have hfree : ∀ x, x < d.size → wr.frozen? ⟨blk, off + x, none⟩ = false := fun x hx => by
      rw [hw, frozen?_grow _ _ _ (by rw [hz]; exact hblk), lbPut, frozen?_putRow]; exact ((holds_ahead _ _ n _ _ _ hH.out) x hx).2
    have hcB : wr.cell? ⟨w.heap.size, 0, none⟩ = some (.int .u64 (R : Int)) := by rw [hw, hRr, ← hz]; exact grow_one_cell _ _ _
    have hfB : wr.frozen? ⟨w.heap.size, 0, none⟩ = false := by rw [hw, ← hz]; exact grow_one_frozen _ _ _
    have hNext : Calls Try.prog 86 #[.pointer (some ⟨w.heap.size, 0, none⟩)] wr fun e w' => e = .returned (.int .u64 (Y : Int)) ∧ w' = (wr.setCell ⟨w.heap.size, 0, none⟩ (.int .u64 (Y : Int))).drewN 3 := by
      rw [hY]; exact lbNext_any _ _ R lR wr hcB hfB
    have hW : Hid (wr = grow (lbPut w n blk off E) #[Obj.cells #[.int .u64 (r.toNat : Int)] 102]) := hw
    have hg : Hid (∀ x, g x = E[x]!) := hg0
    have hR : Hid (bpRest a L M (a + L / 4 * 2 - 1) (3 - t) t (r, E) = bpRest a L M (a + L / 4 * 2 - 1) 3 0 (UInt64.ofNat L, d)) := hR0
    have hN : Hid (Y = (xorNext r).toNat ∧ O = (xorNext r).toNat &&& (M - 1)) := by
      have e : Y = (xorNext r).toNat := by rw [hY, hRr, xorNext_toNat]
      exact ⟨e, by rw [hO, e]⟩
    clear hw hg0 hR0 hRr hY hO
    go_wp2_with (first | (go_at_call 86; refine hNext.mono ?_; rintro e w' ⟨rfl, rfl⟩))
    · have hLO : L ≤ O := by omega
      by_cases hEq : a + L / 4 * 2 - 1 + t = a + (O - L)
      all_goals
        go_region
        all_goals go_wp2
        go_roundw
        case rel =>
          refine ⟨t + 1, n + 4, xorNext r, swp E (a + L / 4 * 2 - 1 + t) (a + (O - L)), by first | rfl | (congr 1 <;> omega), by omega, by rw [size_swp]; exact hs, ?_, ?_⟩
          · (try rw [hEq])
            rw [hW.out, hN.out.1]
            simp only [hg.out]
            exact step_world lbV w n 4 blk off E _ _ hblk (by omega) (by omega) _ _ _
          · rw [← hR.out, bp_step a L M _ t r E (O - L) (by omega) (by rw [← hN.out.2, if_pos (by omega)])]
        case measure => simp [intOf]; omega
    · have hLO : ¬ L ≤ O := by omega
      by_cases hEq : a + L / 4 * 2 - 1 + t = a + O
      all_goals
        go_region
        all_goals go_wp2
        go_roundw
        case rel =>
          refine ⟨t + 1, n + 4, xorNext r, swp E (a + L / 4 * 2 - 1 + t) (a + O), by first | rfl | (congr 1 <;> omega), by omega, by rw [size_swp]; exact hs, ?_, ?_⟩
          · (try rw [hEq])
            rw [hW.out, hN.out.1]
            simp only [hg.out]
            exact step_world lbV w n 4 blk off E _ _ hblk (by omega) (by omega) _ _ _
          · rw [← hR.out, bp_step a L M _ t r E O (by omega) (by rw [← hN.out.2, if_neg (by omega)])]
        case measure => simp [intOf]; omega
    · obtain rfl : t = 3 := by omega
      go_end0
      exact ⟨rfl, n, _, by rw [← hR.out, hW.out]; rfl⟩

theorem lbBreak_any (blk off cap a b : Nat) (d : Array Nat) (w : World) (hH : Holds lbV w blk off d) (hblk : blk < w.heap.size) (hab : a ≤ b) (hb : b ≤ d.size) (hsz : d.size < 4611686018427387904) :
    Calls Try.prog 73 #[.slice (some ⟨blk, off, none⟩) d.size cap, .int .i64 a, .int .i64 b] w fun e w' =>
      e = .returned (.tuple #[]) ∧ ∃ n os, w' = grow (lbPut w n blk off (breakPatterns d a b)) os := by
  obtain ⟨L, rfl⟩ : ∃ L, b = a + L := ⟨b - a, by omega⟩
  by_cases h8 : 8 ≤ L
  · exact lbBreakGo_any blk off cap a L d w hH hblk hb hsz h8
  · have hv : breakPatterns d a (a + L) = d := by unfold breakPatterns; simp only [Nat.add_sub_cancel_left]; rw [if_neg h8]
    rw [hv]
    have hS : Hid (w = grow (lbPut w 0 blk off d) #[]) := by
      show _ = _
      rw [grow_empty, lbPut, show Sort.ahead w 0 = w from rfl, putRow_self _ _ _ _ _ hH]
    clear hH
    go_enter Try.func73, Try.ntmps73
    go_wp2
    go_end0
    exact ⟨rfl, 0, #[], hS.out⟩
end Go.Proofs.Ytdpikdkhemhmdaa
