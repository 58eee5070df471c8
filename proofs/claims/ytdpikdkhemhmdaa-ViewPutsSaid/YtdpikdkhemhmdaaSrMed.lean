/- The library's medians over labels: by contracts. -/
import Derived.Test.YtdpikdkhemhmdaaSrIns
import Derived.Sort.WalkD1
namespace Go.Proofs.Ytdpikdkhemhmdaa
open Go Go.RowKit Go.Sort

theorem lb_aside {w : World} {blk off sb so n t : Nat} {d : Array Nat} (h : Holds lbV w blk off d) (hne : sb ≠ blk) : Holds lbV (putRow (Value.int .i64) (Sort.ahead w n) sb so (one t)) blk off d := fun j hj =>
  ⟨by rw [cell?_putRow_other _ _ _ _ _ _ (Or.inl (Ne.symm hne))]; exact (h j hj).1, by rw [frozen?_putRow]; exact (h j hj).2⟩

theorem lbOrder2_any (d : Array Nat) (len : Nat) (hlen : d.size = len) (blk off cap a b sb so s : Nat) (w : World) (hH : Holds lbV w blk off d) (ha : a < d.size) (hb : b < d.size)
    (hS : Holds (Value.int .i64) w sb so (one s)) (hs : s < 4611686018427387904) :
    Calls Try.prog 91 #[.slice (some ⟨blk, off, none⟩) len cap, .int .i64 a, .int .i64 b, .pointer (some ⟨sb, so, none⟩)] w fun e w' =>
      e = .returned (.tuple #[.int .i64 (order2 ltL d a b s).1, .int .i64 (order2 ltL d a b s).2.1]) ∧ ∃ n, w' = putRow (Value.int .i64) (Sort.ahead w n) sb so (one (order2 ltL d a b s).2.2) := by
  subst hlen
  have ca := (hH a ha).1
  have cb := (hH b hb).1
  obtain ⟨cs, fs⟩ := one_cell hS
  have ea : d[a]! = d[a] := getElem!_pos d a ha
  have eb : d[b]! = d[b] := getElem!_pos d b hb
  simp only [lbV] at ca cb
  go_enter Try.func91, Try.ntmps91
  go_wp2
  go_region_with (go_at_call 77; refine (lbLess_any _ _ _).mono ?_; rintro e w' ⟨rfl, rfl⟩)
  all_goals (try go_wp2)
  all_goals first
    | (have hlt : ltL d[b] d[a] = true := by first | assumption | exact decide_eq_true (by assumption)
       have e2 : order2 ltL d a b s = (b, a, s + 1) := by rw [order2, ea, eb, if_pos hlt]
       go_ret2
       rw [e2]
       refine ⟨rfl, 1, ?_⟩
       rw [putRow_ahead, ← one_set hS (s + 1)]
       simp [drew_eq_ahead])
    | (have hlt : ltL d[b] d[a] = false := by first | assumption | exact decide_eq_false (by assumption)
       have e2 : order2 ltL d a b s = (a, b, s) := by rw [order2, ea, eb, if_neg (by simp only [hlt]; decide)]
       go_ret2
       rw [e2]
       refine ⟨rfl, 1, ?_⟩
       rw [putRow_ahead, putRow_self _ _ _ _ _ hS]
       rfl)

theorem lbOrder2_lt (d : Array Nat) {a b n : Nat} (s : Nat) (ha : a < n) (hb : b < n) : (order2 ltL d a b s).1 < n ∧ (order2 ltL d a b s).2.1 < n ∧ (order2 ltL d a b s).2.2 ≤ s + 1 := by
  unfold order2
  split <;> exact ⟨by assumption, by assumption, by simp⟩
theorem lb_one {w : World} {sb so s n t : Nat} (h : Holds (Value.int .i64) w sb so (one s)) : Holds (Value.int .i64) (putRow (Value.int .i64) (Sort.ahead w n) sb so (one t)) sb so (one t) :=
  holds_putRow _ _ _ _ (one s) (one t) (holds_ahead _ _ _ _ _ _ h) rfl

set_option maxHeartbeats 1000000 in
set_option maxRecDepth 100000 in
theorem lbMedian_any (d : Array Nat) (len : Nat) (hlen : d.size = len) (blk off cap a b c sb so s : Nat) (w : World) (hH : Holds lbV w blk off d) (ha : a < d.size) (hb : b < d.size) (hc : c < d.size) (hne : sb ≠ blk)
    (hS : Holds (Value.int .i64) w sb so (one s)) (hs : s + 3 < 4611686018427387904) :
    Calls Try.prog 88 #[.slice (some ⟨blk, off, none⟩) len cap, .int .i64 a, .int .i64 b, .int .i64 c, .pointer (some ⟨sb, so, none⟩)] w fun e w' =>
      e = .returned (.int .i64 (median ltL d a b c s).1) ∧ ∃ n, w' = putRow (Value.int .i64) (Sort.ahead w n) sb so (one (median ltL d a b c s).2) := by
  subst hlen
  obtain ⟨p1, q1, r1⟩ := lbOrder2_lt d s ha hb
  obtain ⟨p2, q2, r2⟩ := lbOrder2_lt d (order2 ltL d a b s).2.2 q1 hc
  go_enter Try.func88, Try.ntmps88
  go_wp2_with (go_at_call_of 91 (Value.int .i64 (b : Int)); refine (lbOrder2_any d _ rfl blk off cap a b sb so s w hH ha hb hS (by omega)).mono ?_; rintro e w' ⟨rfl, n1, rfl⟩)
  go_wp2_with (go_at_call_of 91 (Value.int .i64 (c : Int)); refine (lbOrder2_any d _ rfl blk off cap (order2 ltL d a b s).2.1 c sb so (order2 ltL d a b s).2.2 _ (lb_aside hH hne) q1 hc (lb_one hS) (by omega)).mono ?_; rintro e w' ⟨rfl, n2, rfl⟩)
  go_wp2_with (go_at_call_of 91 (Value.int .i64 ((order2 ltL d a b s).1 : Int)); refine (lbOrder2_any d _ rfl blk off cap (order2 ltL d a b s).1 (order2 ltL d (order2 ltL d a b s).2.1 c (order2 ltL d a b s).2.2).1 sb so (order2 ltL d (order2 ltL d a b s).2.1 c (order2 ltL d a b s).2.2).2.2 _
    (lb_aside (lb_aside hH hne) hne) p1 p2 (lb_one (lb_one hS)) (by omega)).mono ?_; rintro e w' ⟨rfl, n3, rfl⟩)
  go_ret
  refine ⟨rfl, n1 + (n2 + n3), ?_⟩
  rw [one_one, one_one]
  rfl

set_option maxHeartbeats 1000000 in
set_option maxRecDepth 100000 in
theorem lbMedianAdj_any (d : Array Nat) (len : Nat) (hlen : d.size = len) (blk off cap a sb so s : Nat) (w : World) (hH : Holds lbV w blk off d) (ha0 : 1 ≤ a) (ha : a + 1 < d.size) (hsz : d.size < 4611686018427387904) (hne : sb ≠ blk)
    (hS : Holds (Value.int .i64) w sb so (one s)) (hs : s + 3 < 4611686018427387904) :
    Calls Try.prog 87 #[.slice (some ⟨blk, off, none⟩) len cap, .int .i64 a, .pointer (some ⟨sb, so, none⟩)] w fun e w' =>
      e = .returned (.int .i64 (medianAdjacent ltL d a s).1) ∧ ∃ n, w' = putRow (Value.int .i64) (Sort.ahead w n) sb so (one (medianAdjacent ltL d a s).2) := by
  subst hlen
  go_enter Try.func87, Try.ntmps87
  go_wp2_with (go_at_call 88; rw [show ((a : Int) - 1) = ((a - 1 : Nat) : Int) by omega, show ((a : Int) + 1) = ((a + 1 : Nat) : Int) by omega]; refine (lbMedian_any d _ rfl blk off cap (a - 1) a (a + 1) sb so s w hH (by omega) (by omega) ha hne hS hs).mono ?_; rintro e w' ⟨rfl, n1, rfl⟩)
  go_ret
  exact ⟨rfl, n1, rfl⟩
end Go.Proofs.Ytdpikdkhemhmdaa
