/- label's iterator over what lies between, by its contract: for every loop's body that keeps what lay below n₀. -/
import Derived.RangeFuncNested
import Derived.RangeFuncBound
import Derived.RangeFuncCalls
import Derived.RangeFuncLeaves
import Derived.Shelf.Abstract
import Derived.Shelf.RegionOpen
import Derived.WalkKit
import Derived.OwnWalkIn
import Derived.TacticsInMore
import Derived.LoopNIn
import Derived.LoopIn
import Derived.Test.YtglpkadpohbfmaaLbBetween
import Derived.Test.YtglpkadpohbfmaaLbBetwP
import Derived.Test.YtglpkadpohbfmaaLbJoin
namespace Go.Proofs.Ytglpkadpohbfmaa
open Go.RowKit Go.Shelf

attribute [local go_sem] Oper.semAt_some

/-- A number of 64 bits. -/
structure Nat64 where
  val : Nat
  lt : val < 18446744073709551616
def valsOf (l : List Nat64) : List Nat := l.map (·.1)
theorem valsOf_snoc (l : List Nat64) (x : Nat64) : valsOf (l ++ [x]) = valsOf l ++ [x.1] := by unfold valsOf; rw [List.map_append]; rfl

set_option maxRecDepth 100000 in
set_option maxHeartbeats 4000000 in
theorem between1_in (n : Nat) (hn : 1 ≤ n) (l B n₀ a b : Nat) (ha : a < 18446744073709551616) (hb : b < 18446744073709551616) (J Jx : List Nat64 → World → Prop)
    (hY : ∀ pre x W, J pre W → pre.length < (betw a b).length → YieldAt Fence.wide (n - 1) Try.prog l #[.int .u64 (x.1 : Nat)] W fun e W' =>
      (e = .returned (.bool true) ∧ J (pre ++ [x]) W' ∧ Below n₀ W W') ∨ (e = .returned (.bool false) ∧ Jx (pre ++ [x]) W'))
    (W : World) (hB : Boxes B a b (lessN b a) W) (hn₀ : B + 2 < n₀) (h0 : J [] W) :
    CallsIn Fence.wide n Try.prog 23 #[.func (.yield l) #[] #[], .pointer (some ⟨B, 0, none⟩), .pointer (some ⟨B + 1, 0, none⟩), .pointer (some ⟨B + 2, 0, none⟩)] W fun e W' => (∃ v, e = .returned v) ∧
      ((∃ ys, valsOf ys = betw a b ∧ J ys W') ∨ (∃ pre, valsOf pre <+: betw a b ∧ Jx pre W')) := by
  have hc1 := hB.fst
  have hc2 := hB.snd
  have hc3 := hB.thd
  refine callsIn_of_wp Try.func23 rfl trivial ?_ rfl
  simp only [Try.ntmps23, List.size_toArray, List.length_cons, List.length_nil, Nat.reduceAdd, Nat.reduceSub, Array.replicate_succ, Array.replicate_zero, List.push_toArray, List.append_toArray, List.nil_append, List.cons_append]
  cases hbl : belowB a b
  · have e := betw_none a b hbl
    gi_wp2_with (refine ⟨trivial, ?_⟩; gi_at_call 15; refine (callsIn_wide.2 (below_any _ _ _ (by assumption) (by assumption))).mono ?_; rintro e w' ⟨rfl, rfl⟩)
    refine bodyPost_ret (results_none rfl _ _ _) rfl ?_
    exact ⟨⟨_, rfl⟩, .inl ⟨[], by rw [e]; rfl, h0⟩⟩
  · have HL := Lib.hid (betw_len a b hbl)
    have hf := less_lt b a hb
    have HN := Lib.hid fun t j ht => dep_next (lessN b a) t j hf ht
    have HE := Lib.hid fun j hj => dep_end (lessN b a) j hf hj
    have HA := Lib.hid fun j hj => betw_at a b j hbl hj
    have HO := Lib.hid fun j => or_lt64 a b j ha hb
    have HD := Lib.hid fun j => dep_lt64 (lessN b a) j hf
    have HZ := Lib.hid (dep_zero 64 (lessN b a))
    have hP : 0 < 2 ^ cnt (lessN b a) := Nat.two_pow_pos _
    have hbx := Lib.hid hB
    gi_wp2_with (refine ⟨trivial, ?_⟩; gi_at_call 15; refine (callsIn_wide.2 (below_any _ _ _ (by assumption) (by assumption))).mono ?_; rintro e w' ⟨rfl, rfl⟩)
    generalize lessN b a = f at *
    clear hc1 hc2 hc3 hB
    gi_loopw [5] (fun t wr => ∃ (pre : List Nat64) (j : Nat), j < 2 ^ cnt f ∧ t = .int .u64 (dep 64 f j : Nat) ∧ valsOf pre = (betw a b).take j ∧ Hid (J pre wr) ∧ Hid (Boxes B a b f wr))
      (fun t _ => f - (intOf t).toNat)
    case atStart => exact ⟨[], 0, hP, by rw [HZ.out]; rfl, rfl, h0, hbx⟩
    case round =>
      obtain ⟨pre, j, hj, rfl, hpre, hJ, hBx⟩ := hrel
      have hx := HO.out j
      have hat := HA.out j hj
      have hpl : pre.length = j := by
        have h1 := congrArg List.length hpre
        rw [List.length_take, HL.out] at h1
        unfold valsOf at h1
        rw [List.length_map] at h1
        omega
      have hpre2 : valsOf (pre ++ [⟨_, hx⟩]) = (betw a b).take (j + 1) := by
        rw [valsOf_snoc, hpre, List.take_add_one, hat]; rfl
      have HP2 := Lib.hid hpre2
      obtain ⟨fn, tmps, assign, body, hy, hR⟩ := hY pre ⟨_, hx⟩ wr hJ.out (by rw [HL.out, hpl]; exact hj)
      have cJ := fun W => join_any a (dep 64 f j) W ha (Nat.lt_of_le_of_lt (HD.out j) hf)
      have hE := Lib.hid (HE.out j hj)
      have HM : Hid (j + 1 < 2 ^ cnt f → dep 64 f j < dep 64 f (j + 1)) := fun h => dep_mono 64 f j (j + 1) (by omega) (by rw [cnt_pcn]; exact h)
      have hnx := Lib.hid (HN.out (dep 64 f j) j rfl)
      have hdl := HD.out j
      obtain ⟨t', ht'⟩ : ∃ t', dep 64 f (j + 1) = t' := ⟨_, rfl⟩
      rw [ht'] at hnx
      have HT' := Lib.hid ht'
      dsimp only at hy
      generalize dep 64 f j = t at *
      have k1 := hBx.out.fst
      clear ht' hat hpre2 hpre hJ hpl HA HO HD HZ hP
      gi_wp2_with (refine ⟨trivial, ?_⟩; gi_at_call 24; refine (callsIn_wide.2 (cJ _)).mono ?_; rintro e w' ⟨rfl, rfl⟩)
      refine hR.mono ?_
      rintro e W3 (⟨rfl, hJ3, hk3⟩ | ⟨rfl, hJx3⟩)
      · have hB3 : Boxes B a b f W3 := ⟨(hk3.cell (p := ⟨B, 0, none⟩) (by show B < _; omega)).trans hBx.out.fst, (hk3.cell (p := ⟨B + 1, 0, none⟩) (by show B + 1 < _; omega)).trans hBx.out.snd, (hk3.cell (p := ⟨B + 2, 0, none⟩) hn₀).trans hBx.out.thd, by
          have h1 := World.block_lt_of_cell? W3 _ ((hk3.cell (p := ⟨B + 2, 0, none⟩) hn₀).trans hBx.out.thd)
          exact h1⟩
        have k3 := hB3.thd
        have HB3 := Lib.hid hB3
        have HJ3 := Lib.hid hJ3
        clear hB3 hJ3 hBx k1 hk3 hY hR hy
        rcases hE.out with ⟨he, htf⟩ | ⟨he, htf⟩
        · subst htf
          have hne : ((t : Int) != (t : Int)) = false := by simp
          have hfin : valsOf (pre ++ [⟨_, hx⟩]) = betw a b := by
            rw [HP2.out, he]
            apply List.take_of_length_le
            rw [HL.out]; exact Nat.le_refl _
          have HF := Lib.hid hfin
          clear hfin HP2 he hE
          gi_wp2
          go_end0
          exact ⟨⟨_, rfl⟩, .inl ⟨_, HF.out, HJ3.out⟩⟩
        · have hne : ((t : Int) != (f : Int)) = true := by rw [bne, beq_false_of_ne (by omega)]; rfl
          have hn2 := hnx.out
          clear hE
          gi_wp2
          go_roundw
          case rel => exact ⟨pre ++ [⟨_, hx⟩], j + 1, he, by rw [HT'.out], HP2.out, HJ3, HB3⟩
          case measure =>
            have h1 := HM.out he
            rw [HT'.out] at h1
            simp [intOf]; omega
      · have HJ := Lib.hid hJx3
        clear hJx3
        gi_wp2
        go_end0
        exact ⟨⟨_, rfl⟩, .inr ⟨_, by rw [HP2.out]; exact List.take_prefix _ _, HJ.out⟩⟩
/-- The iterator's value, at whatever world has its boxes. -/
theorem between_stops (n : Nat) (hn : 1 ≤ n) (B n₀ a b : Nat) (ha : a < 18446744073709551616) (hb : b < 18446744073709551616) (w : World) (hB : Boxes B a b (lessN b a) w) (hn₀ : B + 2 < n₀) :
    SeqStopsK Fence.wide n Try.prog 23 #[.pointer (some ⟨B, 0, none⟩), .pointer (some ⟨B + 1, 0, none⟩), .pointer (some ⟨B + 2, 0, none⟩)] (fun x : Nat64 => #[.int .u64 (x.val : Nat)]) (Below n₀) (fun ys => valsOf ys = betw a b) (fun pre => valsOf pre <+: betw a b) (betw a b).length w :=
  fun l J Jx W hW _ _ hY h0 => between1_in n hn l B n₀ a b ha hb J Jx hY W (hB.later hW) hn₀ h0
end Go.Proofs.Ytglpkadpohbfmaa
