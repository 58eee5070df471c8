/- Texts of the proof, merged: SrBreak, SrMed. -/
import Derived.Test.YtfkkodcppaakjaaGreatDoorRd38
import Derived.Test.YtfkkodcppaakjaaGreatDoorRd40
import Derived.Sort.Walk7
import Derived.Sort.WalkD1
/- The library's breaking of patterns over labels: by contracts. -/
namespace Go.Proofs.YtfkkodcppaakjaaGreatDoor
open Go Go.RowKit Go.Sort

theorem lbLen_any (n : Nat) (hn : n < 4611686018427387904) (w : World) : Calls Tryz.prog 107 #[.int .u64 (n : Int)] w fun e w' => e = .returned (.int .i64 (bitsLen n : Nat)) ∧ w' = w := by
  have h := Tryz.bits_Len (n : Int) w (by omega) (by omega)
  rwa [Int.toNat_natCast, bitLen_eq _ (by omega)] at h
theorem lbPow_any (n : Nat) (hn : n < 4611686018427387904) (w : World) :
    Calls Tryz.prog 172 #[.int .i64 n] w fun e w' => e = .returned (.int .u64 ((1 <<< bitsLen n : Nat) : Int)) ∧ w' = w := by
  have hk : bitsLen n ≤ 62 := (bitsLen_le_iff n 62).2 (by omega)
  have hp := wrap_two_pow (bitsLen n) hk
  go_enter Tryz.func172, Tryz.ntmps172
  go_wp2_with (first | (go_at_call 107; refine (lbLen_any n hn _).mono ?_; rintro e w' ⟨rfl, rfl⟩))
  go_ret
  exact ⟨rfl, rfl⟩

set_option maxHeartbeats 1000000 in
set_option maxRecDepth 100000 in
theorem lbBreakGo_any (blk off cap a L : Nat) (d : Array Nat) (w : World) (hH0 : Holds lbV w blk off d) (hblk : blk < w.heap.size) (hb : a + L ≤ d.size) (hsz : d.size < 4611686018427387904) (h8 : 8 ≤ L) :
    Calls Tryz.prog 143 #[.slice (some ⟨blk, off, none⟩) d.size cap, .int .i64 a, .int .i64 ((a + L : Nat) : Int)] w fun e w' =>
      e = .returned (.tuple #[]) ∧ ∃ n os, w' = grow (lbPut w n blk off (breakPatterns d a (a + L))) os := by
  rw [breakPatterns_eq d a L h8]
  obtain ⟨M, hM⟩ : ∃ M : Nat, M = 1 <<< bitsLen L := ⟨_, rfl⟩
  have hM1 : 1 ≤ M := by rw [hM, Nat.one_shiftLeft]; exact Nat.two_pow_pos _
  have hM2 : M ≤ 2 * L := by rw [hM, Nat.one_shiftLeft]; exact two_pow_bitsLen_le (by omega)
  have hP : ∀ w, Calls Tryz.prog 172 #[.int .i64 (L : Int)] w fun e w' => e = .returned (.int .u64 (M : Int)) ∧ w' = w := by rw [hM]; exact fun w => lbPow_any L (by omega) w
  rw [← hM]
  clear hM
  have hH : Hid (Holds lbV w blk off d) := hH0
  have hS : Hid (w.alloc (Obj.cells #[.int .u64 (L : Int)] 199) = grow (lbPut w 0 blk off d) #[Obj.cells #[.int .u64 ((UInt64.ofNat L).toNat : Int)] 199]) := by
    show _ = _
    rw [lbPut, show Sort.ahead w 0 = w from rfl, putRow_self _ _ _ _ _ hH0, alloc_eq_grow, show (UInt64.ofNat L).toNat = L from by simp; omega]
  clear hH0
  go_enter Tryz.func143, Tryz.ntmps143
  go_wp2_with (first | (go_at_call 172; rw [show ((a : Int) + (L : Int) - (a : Int)) = (L : Int) by omega]; refine (hP _).mono ?_; rintro e w' ⟨rfl, rfl⟩))
  go_loopw [9] (fun v W => ∃ (t n : Nat) (r : UInt64) (E : Array Nat), v = .int .i64 ((a + L / 4 * 2 - 1 + t : Nat) : Int) ∧ t ≤ 3 ∧ E.size = d.size ∧
      W = grow (lbPut w n blk off E) #[Obj.cells #[.int .u64 (r.toNat : Int)] 199] ∧
      bpRest a L M (a + L / 4 * 2 - 1) (3 - t) t (r, E) = bpRest a L M (a + L / 4 * 2 - 1) 3 0 (UInt64.ofNat L, d)) (fun v _ => a + L / 4 * 2 + 3 - (intOf v).toNat)
  case atStart => exact ⟨0, 0, UInt64.ofNat L, d, by congr 1; omega, by omega, rfl, hS.out, rfl⟩
  case round =>
    obtain ⟨t, n, r, E, rfl, ht, hs, hw, hR0⟩ := hrel
    obtain ⟨R, hRr⟩ : ∃ R : Nat, R = r.toNat := ⟨_, rfl⟩
    have lR : R < 18446744073709551616 := by rw [hRr]; exact r.toNat_lt
    obtain ⟨Y, hY⟩ : ∃ Y : Nat, Y = xorNextN R := ⟨_, rfl⟩
    have lY : Y < 18446744073709551616 := by rw [hY]; exact xorNextN_lt R lR
    obtain ⟨O, hO⟩ : ∃ O : Nat, O = Y &&& (M - 1) := ⟨_, rfl⟩
    have lO : O ≤ M - 1 := by rw [hO]; exact Nat.and_le_right
    have eAnd : bits .and .u64 (Y : Int) ((M : Int) - 1) = (O : Int) := by
      rw [show ((M : Int) - 1) = ((M - 1 : Nat) : Int) by omega, bits_and_u64_nat _ _ lY (by omega), hO]
    obtain ⟨g, hg0⟩ : ∃ g : Nat → Nat, ∀ x, g x = E[x]! := ⟨_, fun _ => rfl⟩
    have hz : (lbPut w n blk off E).heap.size = w.heap.size := by simp [lbPut]
    have hcell : ∀ x, x < d.size → wr.cell? ⟨blk, off + x, none⟩ = some (.int .u64 (g x)) := fun x hx => by
      rw [hw, cell?_grow _ _ _ (by rw [hz]; exact hblk), hg0]; exact cell?_putRow lbV _ _ _ d E (holds_ahead _ _ _ _ _ _ hH.out) hs x (by omega)
    have hfree : ∀ x, x < d.size → wr.frozen? ⟨blk, off + x, none⟩ = false := fun x hx => by
      rw [hw, frozen?_grow _ _ _ (by rw [hz]; exact hblk), lbPut, frozen?_putRow]; exact ((holds_ahead _ _ n _ _ _ hH.out) x hx).2
    have hcB : wr.cell? ⟨w.heap.size, 0, none⟩ = some (.int .u64 (R : Int)) := by rw [hw, hRr, ← hz]; exact grow_one_cell _ _ _
    have hfB : wr.frozen? ⟨w.heap.size, 0, none⟩ = false := by rw [hw, ← hz]; exact grow_one_frozen _ _ _
    have hNext : Calls Tryz.prog 173 #[.pointer (some ⟨w.heap.size, 0, none⟩)] wr fun e w' => e = .returned (.int .u64 (Y : Int)) ∧ w' = (wr.setCell ⟨w.heap.size, 0, none⟩ (.int .u64 (Y : Int))).drewN 3 := by
      rw [hY]; exact lbNext_any _ _ R lR wr hcB hfB
    have hW : Hid (wr = grow (lbPut w n blk off E) #[Obj.cells #[.int .u64 (r.toNat : Int)] 199]) := hw
    have hg : Hid (∀ x, g x = E[x]!) := hg0
    have hR : Hid (bpRest a L M (a + L / 4 * 2 - 1) (3 - t) t (r, E) = bpRest a L M (a + L / 4 * 2 - 1) 3 0 (UInt64.ofNat L, d)) := hR0
    have hN : Hid (Y = (xorNext r).toNat ∧ O = (xorNext r).toNat &&& (M - 1)) := by
      have e : Y = (xorNext r).toNat := by rw [hY, hRr, xorNext_toNat]
      exact ⟨e, by rw [hO, e]⟩
    clear hw hg0 hR0 hRr hY hO
    go_wp2_with (first | (go_at_call 173; refine hNext.mono ?_; rintro e w' ⟨rfl, rfl⟩))
    · have hLO : L ≤ O := by omega
      by_cases hEq : a + L / 4 * 2 - 1 + t = a + (O - L)
      all_goals
        go_region
        all_goals go_wp2
        go_roundw
        case rel =>
          refine ⟨t + 1, n + 4, xorNext r, swp E (a + L / 4 * 2 - 1 + t) (a + (O - L)), by first | rfl | (congr 1 <;> omega), by omega, by rw [size_swp]; exact hs, ?_, ?_⟩
          · (try rw [hEq])
            rw [hW.out, hN.out.1]
            simp only [hg.out]
            exact step_world lbV w n 4 blk off E _ _ hblk (by omega) (by omega) _ _ _
          · rw [← hR.out, bp_step a L M _ t r E (O - L) (by omega) (by rw [← hN.out.2, if_pos (by omega)])]
        case measure => simp [intOf]; omega
    · have hLO : ¬ L ≤ O := by omega
      by_cases hEq : a + L / 4 * 2 - 1 + t = a + O
      all_goals
        go_region
        all_goals go_wp2
        go_roundw
        case rel =>
          refine ⟨t + 1, n + 4, xorNext r, swp E (a + L / 4 * 2 - 1 + t) (a + O), by first | rfl | (congr 1 <;> omega), by omega, by rw [size_swp]; exact hs, ?_, ?_⟩
          · (try rw [hEq])
            rw [hW.out, hN.out.1]
            simp only [hg.out]
            exact step_world lbV w n 4 blk off E _ _ hblk (by omega) (by omega) _ _ _
          · rw [← hR.out, bp_step a L M _ t r E O (by omega) (by rw [← hN.out.2, if_neg (by omega)])]
        case measure => simp [intOf]; omega
    · obtain rfl : t = 3 := by omega
      go_end0
      exact ⟨rfl, n, _, by rw [← hR.out, hW.out]; rfl⟩

theorem lbBreak_any (blk off cap a b : Nat) (d : Array Nat) (w : World) (hH : Holds lbV w blk off d) (hblk : blk < w.heap.size) (hab : a ≤ b) (hb : b ≤ d.size) (hsz : d.size < 4611686018427387904) :
    Calls Tryz.prog 143 #[.slice (some ⟨blk, off, none⟩) d.size cap, .int .i64 a, .int .i64 b] w fun e w' =>
      e = .returned (.tuple #[]) ∧ ∃ n os, w' = grow (lbPut w n blk off (breakPatterns d a b)) os := by
  obtain ⟨L, rfl⟩ : ∃ L, b = a + L := ⟨b - a, by omega⟩
  by_cases h8 : 8 ≤ L
  · exact lbBreakGo_any blk off cap a L d w hH hblk hb hsz h8
  · have hv : breakPatterns d a (a + L) = d := by unfold breakPatterns; simp only [Nat.add_sub_cancel_left]; rw [if_neg h8]
    rw [hv]
    have hS : Hid (w = grow (lbPut w 0 blk off d) #[]) := by
      show _ = _
      rw [grow_empty, lbPut, show Sort.ahead w 0 = w from rfl, putRow_self _ _ _ _ _ hH]
    clear hH
    go_enter Tryz.func143, Tryz.ntmps143
    go_wp2
    go_end0
    exact ⟨rfl, 0, #[], hS.out⟩
end Go.Proofs.YtfkkodcppaakjaaGreatDoor
/- The library's medians over labels: by contracts. -/
namespace Go.Proofs.YtfkkodcppaakjaaGreatDoor
open Go Go.RowKit Go.Sort

theorem lb_aside {w : World} {blk off sb so n t : Nat} {d : Array Nat} (h : Holds lbV w blk off d) (hne : sb ≠ blk) : Holds lbV (putRow (Value.int .i64) (Sort.ahead w n) sb so (one t)) blk off d := fun j hj =>
  ⟨by rw [cell?_putRow_other _ _ _ _ _ _ (Or.inl (Ne.symm hne))]; exact (h j hj).1, by rw [frozen?_putRow]; exact (h j hj).2⟩

theorem lbOrder2_any (d : Array Nat) (len : Nat) (hlen : d.size = len) (blk off cap a b sb so s : Nat) (w : World) (hH : Holds lbV w blk off d) (ha : a < d.size) (hb : b < d.size)
    (hS : Holds (Value.int .i64) w sb so (one s)) (hs : s < 4611686018427387904) :
    Calls Tryz.prog 198 #[.slice (some ⟨blk, off, none⟩) len cap, .int .i64 a, .int .i64 b, .pointer (some ⟨sb, so, none⟩)] w fun e w' =>
      e = .returned (.tuple #[.int .i64 (order2 ltL d a b s).1, .int .i64 (order2 ltL d a b s).2.1]) ∧ ∃ n, w' = putRow (Value.int .i64) (Sort.ahead w n) sb so (one (order2 ltL d a b s).2.2) := by
  subst hlen
  have ca := (hH a ha).1
  have cb := (hH b hb).1
  obtain ⟨cs, fs⟩ := one_cell hS
  have ea : d[a]! = d[a] := getElem!_pos d a ha
  have eb : d[b]! = d[b] := getElem!_pos d b hb
  simp only [lbV] at ca cb
  go_enter Tryz.func198, Tryz.ntmps198
  go_wp2
  go_region_with (go_at_call 147; refine (lbLess_any _ _ _).mono ?_; rintro e w' ⟨rfl, rfl⟩)
  all_goals (try go_wp2)
  all_goals first
    | (have hlt : ltL d[b] d[a] = true := by first | assumption | exact decide_eq_true (by assumption)
       have e2 : order2 ltL d a b s = (b, a, s + 1) := by rw [order2, ea, eb, if_pos hlt]
       go_ret2
       rw [e2]
       refine ⟨rfl, 1, ?_⟩
       rw [putRow_ahead, ← one_set hS (s + 1)]
       simp [drew_eq_ahead])
    | (have hlt : ltL d[b] d[a] = false := by first | assumption | exact decide_eq_false (by assumption)
       have e2 : order2 ltL d a b s = (a, b, s) := by rw [order2, ea, eb, if_neg (by simp only [hlt]; decide)]
       go_ret2
       rw [e2]
       refine ⟨rfl, 1, ?_⟩
       rw [putRow_ahead, putRow_self _ _ _ _ _ hS]
       rfl)

theorem lbOrder2_lt (d : Array Nat) {a b n : Nat} (s : Nat) (ha : a < n) (hb : b < n) : (order2 ltL d a b s).1 < n ∧ (order2 ltL d a b s).2.1 < n ∧ (order2 ltL d a b s).2.2 ≤ s + 1 := by
  unfold order2
  split <;> exact ⟨by assumption, by assumption, by simp⟩
theorem lb_one {w : World} {sb so s n t : Nat} (h : Holds (Value.int .i64) w sb so (one s)) : Holds (Value.int .i64) (putRow (Value.int .i64) (Sort.ahead w n) sb so (one t)) sb so (one t) :=
  holds_putRow _ _ _ _ (one s) (one t) (holds_ahead _ _ _ _ _ _ h) rfl

set_option maxHeartbeats 1000000 in
set_option maxRecDepth 100000 in
theorem lbMedian_any (d : Array Nat) (len : Nat) (hlen : d.size = len) (blk off cap a b c sb so s : Nat) (w : World) (hH : Holds lbV w blk off d) (ha : a < d.size) (hb : b < d.size) (hc : c < d.size) (hne : sb ≠ blk)
    (hS : Holds (Value.int .i64) w sb so (one s)) (hs : s + 3 < 4611686018427387904) :
    Calls Tryz.prog 175 #[.slice (some ⟨blk, off, none⟩) len cap, .int .i64 a, .int .i64 b, .int .i64 c, .pointer (some ⟨sb, so, none⟩)] w fun e w' =>
      e = .returned (.int .i64 (median ltL d a b c s).1) ∧ ∃ n, w' = putRow (Value.int .i64) (Sort.ahead w n) sb so (one (median ltL d a b c s).2) := by
  subst hlen
  obtain ⟨p1, q1, r1⟩ := lbOrder2_lt d s ha hb
  obtain ⟨p2, q2, r2⟩ := lbOrder2_lt d (order2 ltL d a b s).2.2 q1 hc
  go_enter Tryz.func175, Tryz.ntmps175
  go_wp2_with (go_at_call_of 198 (Value.int .i64 (b : Int)); refine (lbOrder2_any d _ rfl blk off cap a b sb so s w hH ha hb hS (by omega)).mono ?_; rintro e w' ⟨rfl, n1, rfl⟩)
  go_wp2_with (go_at_call_of 198 (Value.int .i64 (c : Int)); refine (lbOrder2_any d _ rfl blk off cap (order2 ltL d a b s).2.1 c sb so (order2 ltL d a b s).2.2 _ (lb_aside hH hne) q1 hc (lb_one hS) (by omega)).mono ?_; rintro e w' ⟨rfl, n2, rfl⟩)
  go_wp2_with (go_at_call_of 198 (Value.int .i64 ((order2 ltL d a b s).1 : Int)); refine (lbOrder2_any d _ rfl blk off cap (order2 ltL d a b s).1 (order2 ltL d (order2 ltL d a b s).2.1 c (order2 ltL d a b s).2.2).1 sb so (order2 ltL d (order2 ltL d a b s).2.1 c (order2 ltL d a b s).2.2).2.2 _
    (lb_aside (lb_aside hH hne) hne) p1 p2 (lb_one (lb_one hS)) (by omega)).mono ?_; rintro e w' ⟨rfl, n3, rfl⟩)
  go_ret
  refine ⟨rfl, n1 + (n2 + n3), ?_⟩
  rw [one_one, one_one]
  rfl

set_option maxHeartbeats 1000000 in
set_option maxRecDepth 100000 in
theorem lbMedianAdj_any (d : Array Nat) (len : Nat) (hlen : d.size = len) (blk off cap a sb so s : Nat) (w : World) (hH : Holds lbV w blk off d) (ha0 : 1 ≤ a) (ha : a + 1 < d.size) (hsz : d.size < 4611686018427387904) (hne : sb ≠ blk)
    (hS : Holds (Value.int .i64) w sb so (one s)) (hs : s + 3 < 4611686018427387904) :
    Calls Tryz.prog 174 #[.slice (some ⟨blk, off, none⟩) len cap, .int .i64 a, .pointer (some ⟨sb, so, none⟩)] w fun e w' =>
      e = .returned (.int .i64 (medianAdjacent ltL d a s).1) ∧ ∃ n, w' = putRow (Value.int .i64) (Sort.ahead w n) sb so (one (medianAdjacent ltL d a s).2) := by
  subst hlen
  go_enter Tryz.func174, Tryz.ntmps174
  go_wp2_with (go_at_call 175; rw [show ((a : Int) - 1) = ((a - 1 : Nat) : Int) by omega, show ((a : Int) + 1) = ((a + 1 : Nat) : Int) by omega]; refine (lbMedian_any d _ rfl blk off cap (a - 1) a (a + 1) sb so s w hH (by omega) (by omega) ha hne hS hs).mono ?_; rintro e w' ⟨rfl, n1, rfl⟩)
  go_ret
  exact ⟨rfl, n1, rfl⟩
end Go.Proofs.YtfkkodcppaakjaaGreatDoor
