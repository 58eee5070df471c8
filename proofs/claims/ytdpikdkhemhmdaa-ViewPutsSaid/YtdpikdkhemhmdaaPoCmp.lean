/- slices.Sort and slices.Compact over a row of labels that the call owns, by contracts. -/
import Derived.Test.YtdpikdkhemhmdaaLabRow
import Derived.Test.YtdpikdkhemhmdaaIdBase
import Derived.Test.YtdpikdkhemhmdaaPoClrP
import Derived.Test.YtdpikdkhemhmdaaSrSort
import Derived.Lib.OwnBridge
import Derived.Shelf.SlicesE.Compact
namespace Go.Proofs.Ytdpikdkhemhmdaa
open Go Go.RowKit Go.Sort Go.Lib Go.Shelf

theorem below_grow {B : Nat} {w0 w : World} (h : Below B w0 w) (os : Array Obj) (hB : B ≤ w.heap.size) : Below B w0 (grow w os) :=
  ⟨h.os, h.tape, h.output, by rw [Sort.size_grow]; have := h.size; omega, fun k hk => by rw [← h.block k hk, Sort.heap_grow_old w os (by omega)]⟩

def cmp_ren : Go.Shelf.Ren := ⟨fun | 43 => 57 | n => n, fun | 0 => 0 | 3 => 3 | 4 => 4 | 22 => 45 | 23 => 24 | n => n, fun n => n⟩
theorem cmp43 : SlLaysE.n43 Try.prog cmp_ren where
  mixed := by kernel_rfl
  f43 := ⟨"slices.Compact[[]scrim/api.Label,scrim/api.Label]", by decide, Try.func57.trans (congrArg some (by kernel_rfl))⟩
  t0 := Try.underlying0
  a0 := Try.isAgg0
  z0 := Try.sizeOf0
  v0 := Try.zeroValue0
  t3 := Try.underlying3
  a3 := Try.isAgg3
  z3 := Try.sizeOf3
  v3 := Try.zeroValue3
  t4 := Try.underlying4
  a4 := Try.isAgg4
  z4 := Try.sizeOf4
  v4 := Try.zeroValue4
  t22 := Try.underlying45
  a22 := Try.isAgg45
  z22 := Try.sizeOf45
  v22 := Try.zeroValue45
  a23 := Try.isAgg24
  z23 := Try.sizeOf24

theorem lbV_one : OneCell lbV := by intro _; rfl
theorem lbV_guard (T : TypeId) : GuardAt Try.prog T lbV := fun op a b x y w => (EqlAt.intD Try.prog T .u64).2 op a b (x : Int) (y : Int) w
theorem nat_dec (x y : Nat) : decide ((x : Int) = (y : Int)) = decide (x = y) := by rw [Bool.eq_iff_iff, decide_eq_true_eq, decide_eq_true_eq]; omega
theorem lbV_eq (T : TypeId) : EqlAt Try.prog T lbV (fun x y => decide (x = y)) :=
  ⟨fun x y w => ((EqlAt.intD Try.prog T .u64).1 (x : Int) (y : Int) w).trans (by show Result.ok (Value.bool (decide ((x : Int) = (y : Int)))) w = _; rw [nat_dec]), lbV_guard T⟩
theorem lbV_neq (T : TypeId) : NeqAt Try.prog T lbV (fun x y => decide (x = y)) :=
  ⟨fun x y w => ((NeqAt.intD Try.prog T .u64).1 (x : Int) (y : Int) w).trans (by show Result.ok (Value.bool (!decide ((x : Int) = (y : Int)))) w = _; rw [nat_dec]), lbV_guard T⟩

theorem lbInsert_none (cap : Nat) (w : World) : Calls Try.prog 71 #[.slice none 0 cap, .int .i64 0, .int .i64 0] w fun e w' => e = .returned (.tuple #[]) ∧ w' = w := by
  go_enter Try.func71, Try.ntmps71
  go_wp2
  go_loopg [6] 0 (fun g vi wr => g = 0 ∧ vi = .int .i64 1 ∧ w = wr)
  case atStart => exact ⟨rfl, rfl, rfl⟩
  case round =>
    obtain ⟨rfl, rfl, rfl⟩ := hrel
    go_wp2
    go_end0
    exact ⟨rfl, rfl⟩
set_option maxRecDepth 100000 in
theorem lbPdq_none (cap lim : Nat) (w : World) : Calls Try.prog 68 #[.slice none 0 cap, .int .i64 0, .int .i64 0, .int .i64 lim] w fun e w' => e = .returned (.tuple #[]) ∧ w' = w := by
  have cI := fun W => lbInsert_none cap W
  go_enter Try.func68, Try.ntmps68
  go_wp2
  go_loopg [1, 2, 3, 8, 9] 0 (fun k v1 v2 v3 v8 v9 W => v1 = .int .i64 0 ∧ v2 = .int .i64 0 ∧ v3 = .int .i64 lim ∧ v8 = .bool true ∧ v9 = .bool true ∧ w = W)
  case atStart => exact ⟨rfl, rfl, rfl, rfl, rfl, rfl⟩
  case round =>
    obtain ⟨rfl, rfl, rfl, rfl, rfl, rfl⟩ := hrel
    go_wp2_with (go_at_call 71; refine (cI _).mono ?_; rintro e w1 ⟨rfl, rfl⟩)
    (try simp only [Exit.inBlock, Exit.then]); refine bodyPost_ret (results_none rfl _ _ _) rfl ?_
    exact ⟨rfl, rfl⟩
theorem lbSort_none (cap : Nat) (w : World) : Calls Try.prog 56 #[.slice none 0 cap] w fun e w' => e = .returned (.tuple #[]) ∧ w' = w := by
  have cL := fun w => lbLen_any 0 (by decide) w
  have cP := fun (k : Nat) w => lbPdq_none cap k w
  go_enter Try.func56, Try.ntmps56
  go_wp2_with (first
    | (go_at_call 69; refine (cL _).mono ?_; rintro e w' ⟨rfl, rfl⟩)
    | (go_at_call 68; refine (cP _ _).mono ?_; rintro e w' ⟨rfl, rfl⟩))
  go_end0
  exact ⟨rfl, rfl⟩
theorem lbComp_none (cap : Nat) (w : World) : Calls Try.prog 57 #[.slice none 0 cap] w fun e w' => e = .returned (.slice none 0 cap) ∧ w' = w := by
  go_enter Try.func57, Try.ntmps57
  go_wp2
  go_ret
  exact ⟨rfl, rfl⟩
theorem own_none {W : World} {B : Nat} {e : TypeId} {n : Nat} {cs : List Value} (h : W.ownsRow B e 1 (.slice none 0 0) n cs) : n = 0 := by
  rcases h.2 with ⟨_, h0⟩ | ⟨g, cap, cur, hv, _⟩
  · exact h0
  · cases hv
/-- slices.Sort over a row of labels of the call's own. -/
theorem sortOwn_any (B : Nat) (cs : List Nat) (v : Value) (n : Nat) (w : World) (hn : cs.length = n) (hsz : n < 4611686018427387904) (hown : w.ownsRow B 24 1 v n (labVals cs)) :
    Calls Try.prog 56 #[v] w fun e w' => e = .returned (.tuple #[]) ∧ w'.ownsRow B 24 1 v n (labVals (Sort.sort ltL cs.toArray).toList) ∧ (∀ w0, Below B w0 w → Below B w0 w') := by
  by_cases hv : v = .slice none 0 0
  · subst hv
    have h0 := own_none hown
    subst h0
    have hc : cs = [] := List.eq_nil_of_length_eq_zero hn
    subst hc
    refine (lbSort_none 0 w).mono ?_
    rintro e w' ⟨rfl, rfl⟩
    have hp := sortL_perm #[]
    have hs : (Sort.sort ltL #[]).toList = [] := List.eq_nil_of_length_eq_zero (by rw [hp.length_eq]; rfl)
    exact ⟨rfl, by rw [show ([] : List Nat).toArray = #[] from rfl, hs]; exact hown, fun _ h => h⟩
  · obtain ⟨g, cap, rfl, hBg, hg, hnc, hcm, hl, hH⟩ := holds_of_ownsRow hown hv
    have hz : cs.toArray.size = n := by simpa using hn
    have c := lbSort_any g 0 cap cs.toArray w hH hg (by omega)
    rw [hz] at c
    refine c.mono ?_
    rintro e w' ⟨rfl, q, os, rfl⟩
    have hp := sortL_perm cs.toArray
    have hlen : (Sort.sort ltL cs.toArray).toList.length = n := by rw [hp.length_eq]; simpa using hn
    have ho := ownsRow_putRow (q := q) (ys := (Sort.sort ltL cs.toArray).toList) hown hlen (Nat.le_refl n)
    rw [List.take_of_length_le (by omega)] at ho
    refine ⟨rfl, ?_, fun w0 hb => ?_⟩
    · exact row_later ho (below_grow (Below.refl _ _) os (Nat.le_refl _))
    · exact below_grow (below_putRow hb hBg) os (by simp; omega)
/-- slices.Compact over a row of labels of the call's own. -/
theorem compOwn_any (B : Nat) (cs : List Nat) (v : Value) (n : Nat) (w : World) (hn : cs.length = n) (hsz : n < 4611686018427387904) (hown : w.ownsRow B 24 1 v n (labVals cs)) :
    Calls Try.prog 57 #[v] w fun e w' => ∃ p c k, e = .returned (.slice p k c) ∧ k = (compactUpTo cs.toArray n).length ∧ w'.ownsRow B 24 1 (.slice p k c) k (labVals (compactUpTo cs.toArray n)) ∧ (∀ w0, Below B w0 w → Below B w0 w') := by
  by_cases hv : v = .slice none 0 0
  · subst hv
    have h0 := own_none hown
    subst h0
    have hc : cs = [] := List.eq_nil_of_length_eq_zero hn
    subst hc
    refine (lbComp_none 0 w).mono ?_
    rintro e w' ⟨rfl, rfl⟩
    exact ⟨none, 0, 0, rfl, rfl, hown, fun _ h => h⟩
  · obtain ⟨g, cap, rfl, hBg, hg, hnc, hcm, hl, hH⟩ := holds_of_ownsRow hown hv
    have hz : cs.toArray.size = n := by simpa using hn
    have c := AnyE.slices_Compact cmp43 lbV lbV_one (lbV_eq _) (lbV_neq _) 0 (fun w => Try.zeroValue24 w) g 0 cap cs.toArray w hH (by omega) (by omega)
    rw [hz] at c
    refine c.mono ?_
    rintro e w' ⟨rfl, q, rfl⟩
    have hk : (compactUpTo cs.toArray n).length ≤ n := by
      unfold compactUpTo
      rw [List.length_map]
      exact Nat.le_trans (List.length_filter_le _ _) (by simp)
    have ho := ownsRow_putRow (q := q) (ys := compactUpTo cs.toArray n ++ List.replicate (n - (compactUpTo cs.toArray n).length) 0) hown (by simp; omega) hk
    rw [List.take_left' rfl] at ho
    exact ⟨_, _, _, rfl, rfl, ho, fun w0 hb => below_putRow hb hBg⟩
end Go.Proofs.Ytdpikdkhemhmdaa
