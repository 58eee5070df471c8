/- The library's pattern-defeating quicksort and its sort over labels: by contracts. -/
import Derived.Test.YtdpikdkhemhmdaaSrRev
import Derived.Test.YtdpikdkhemhmdaaSrHeap
import Derived.Test.YtdpikdkhemhmdaaSrBreak
import Derived.Test.YtdpikdkhemhmdaaSrPiv
import Derived.Test.YtdpikdkhemhmdaaSrPartEq
import Derived.Test.YtdpikdkhemhmdaaSrPart
import Derived.Test.YtdpikdkhemhmdaaSrPartIns
import Derived.Sort.Walk13
import Derived.Sort.AssemblyPlain
namespace Go.Proofs.Ytdpikdkhemhmdaa
open Go Go.RowKit Go.Sort

theorem swoL : SWO ltL where
  irrefl x := by simp [ltL]
  trans x y z h1 h2 := by simp only [ltL, decide_eq_true_eq] at *; omega
  ntrans x y z h1 h2 := by simp only [ltL, decide_eq_false_iff_not] at *; omega

set_option maxHeartbeats 6400000 in
set_option maxRecDepth 1000000 in
theorem lbPdq_any : ∀ (N blk off cap a b limit : Nat) (d : Array Nat) (w : World), b - a < N → Holds lbV w blk off d → blk < w.heap.size → a ≤ b → b ≤ d.size → d.size < 4611686018427387904 → limit < 4611686018427387904 → Sort.Below ltL a b d →
    Calls Try.prog 68 #[.slice (some ⟨blk, off, none⟩) d.size cap, .int .i64 a, .int .i64 b, .int .i64 limit] w fun e w' => e = .returned (.tuple #[]) ∧ At lbV w blk off (pdq ltL d a b limit true true) w' := by
  have pIns : insertionSort_stmt ltL := insertionSort_holds
  have pPar : partialInsertionSort_stmt ltL := partialInsertionSort_holds
  have pPrt : partition_stmt ltL := partition_holds _
  have pPeq : partitionEqual_stmt ltL := partitionEqual_holds _
  have pPdq : pdq_stmt ltL := pdq_sorts _
  intro N
  induction N with
  | zero => intro _ _ _ _ _ _ _ _ h; exact absurd h (Nat.not_lt_zero _)
  | succ N ih =>
    intro blk off cap a b limit d w hN hH hblk hab hb hsz hlimit hBel0
    go_enter Try.func68, Try.ntmps68
    go_wp2
    go_loopg [1, 2, 3, 8, 9] (b - a) (fun k v1 v2 v3 v8 v9 W => ∃ (x y lim : Nat) (wb wp : Bool) (E : Array Nat), v1 = .int .i64 x ∧ v2 = .int .i64 y ∧ v3 = .int .i64 lim ∧ v8 = .bool wb ∧ v9 = .bool wp ∧
      x ≤ y ∧ y ≤ d.size ∧ y - x ≤ k ∧ k ≤ b - a ∧ lim ≤ limit ∧ E.size = d.size ∧ Sort.Below ltL x y E ∧ At lbV w blk off E W ∧ pdq ltL E x y lim wb wp = pdq ltL d a b limit true true)
    case atStart => exact ⟨a, b, limit, true, true, d, rfl, rfl, rfl, rfl, rfl, hab, hb, Nat.le_refl _, Nat.le_refl _, Nat.le_refl _, rfl, hBel0, At.refl hH, rfl⟩
    case round =>
      obtain ⟨x, y, lim, wb, wp, E, rfl, rfl, rfl, rfl, rfl, hxy, hy, hk, hkN, hlim, hs, hBel, hAt, heq⟩ := hrel
      obtain ⟨hHk, hblk'⟩ := hAt.holds hH hs hblk
      have hA : Aside (pdq ltL E x y lim wb wp = pdq ltL d a b limit true true) := heq
      clear heq
      by_cases h12 : y - x ≤ 12
      · have h12z : (y : Int) - (x : Int) ≤ 12 := by omega
        have hc := lbInsert_any blk off cap x y E wr hHk hxy (by omega) (by omega)
        rw [hs] at hc
        go_wp2_with (go_at_call 71; refine hc.mono ?_; rintro e w1 ⟨rfl, hw1⟩)
        (try simp only [Exit.inBlock, Exit.then]); refine bodyPost_ret (results_none rfl _ _ _) rfl ?_
        refine ⟨rfl, ?_⟩
        rw [← hA.out, pdq_small h12]
        exact hAt.step hblk (pIns swoL E x y hxy (by omega)).1.1 hw1
      · have h12z : ¬ ((y : Int) - (x : Int) ≤ 12) := by omega
        by_cases hl0 : lim = 0
        · subst hl0
          have hc := lbHeap_any blk off d.size cap E hs x y wr hHk hxy (by omega) (by omega)
          go_wp2_with (go_at_call 72; refine hc.mono ?_; rintro e w1 ⟨rfl, hw1⟩)
          (try simp only [Exit.inBlock, Exit.then]); refine bodyPost_ret (results_none rfl _ _ _) rfl ?_
          refine ⟨rfl, ?_⟩
          rw [← hA.out, pdq_heap h12 rfl]
          exact hAt.step hblk (heapSort_holds swoL E x y hxy (by omega)).1.1 hw1
        · have hl0z : ¬ ((lim : Int) = 0) := by omega
          obtain ⟨s1, B1, hc1, s2, B2, hpv, s3, B3⟩ := rd_facts (limit := lim) (wb := wb) (wp := wp) swoL pPar reverseRange_holds (show x < y by omega) (show y ≤ E.size by omega) hBel
          go_upto_if 35 with fail
          go_cut [3] from 19 (fun v3 wc => v3 = .int .i64 (rd ltL E x y lim wb wp).lim ∧ At lbV w blk off (rd ltL E x y lim wb wp).d1 wc)
          case first =>
            cases wb
            · have hc := lbBreak_any blk off cap x y E wr hHk hblk' hxy (by omega) (by omega)
              rw [hs] at hc
              go_wp2_with (go_at_call 73; refine hc.mono ?_; rintro e w1 ⟨rfl, hw1⟩)
              go_meet
              case rel =>
                refine ⟨?_, hAt.stepG hblk s1 hw1⟩
                show Value.int .i64 ((lim : Int) - 1) = Value.int .i64 ((lim - 1 : Nat) : Int)
                congr 1
                omega
            · go_wp2_with fail
              go_meet
              case rel => exact ⟨rfl, hAt⟩
          case rest =>
            obtain ⟨rfl, hAt1⟩ := hcut
            obtain ⟨hH1, hblk1⟩ := hAt1.holds hH (s1.trans hs) hblk
            have hcP : Calls Try.prog 74 #[.slice (some ⟨blk, off, none⟩) d.size cap, .int .i64 x, .int .i64 y] wc fun e w' => e = .returned (.tuple #[.int .i64 (rd ltL E x y lim wb wp).c.1, .int .i64 (hintCode (rd ltL E x y lim wb wp).c.2)]) ∧ ∃ n os, w' = grow (Sort.ahead wc n) os := by
              have := lbPivot_any blk off cap x y (rd ltL E x y lim wb wp).d1 wc hH1 hblk1 (by omega) (by omega) (by omega)
              rw [s1, hs] at this
              exact this
            go_upto_if 50 with (go_at_call 74; refine hcP.mono ?_; rintro e w2 ⟨rfl, hw2⟩)
            have hAt2 : At lbV w blk off (rd ltL E x y lim wb wp).d1 w2 := hAt1.same hH (s1.trans hs) hblk hw2
            obtain ⟨hH2, hblk2⟩ := hAt2.holds hH (s1.trans hs) hblk
            go_cut [11, 12] from 19 (fun v11 v12 wc => v11 = .int .i64 (rd ltL E x y lim wb wp).pivot ∧ v12 = .int .i64 (hintCode (rd ltL E x y lim wb wp).hint) ∧ At lbV w blk off (rd ltL E x y lim wb wp).d2 wc)
            case first =>
              by_cases hh : (rd ltL E x y lim wb wp).c.2 = .decreasing
              · have hcode : hintCode (rd ltL E x y lim wb wp).c.2 = 2 := by rw [hh]; rfl
                obtain ⟨e2, epv, eht⟩ := rd_dec hh
                have hcR := lbReverse_any blk off cap (rd ltL E x y lim wb wp).d1 x y w2 hH2 hxy (by omega) (by omega)
                rw [s1, hs] at hcR
                go_wp2_with (go_at_call 75; refine hcR.mono ?_; rintro e w3 ⟨rfl, hw3⟩)
                go_meet
                case rel =>
                  refine ⟨?_, by rw [eht]; rfl, by rw [e2]; exact hAt2.step hblk (by rw [← e2, s2, s1]) hw3⟩
                  rw [epv]
                  congr 1
                  omega
              · have hcode : ¬ (hintCode (rd ltL E x y lim wb wp).c.2 = 2) := fun h => hh (hintCode_two h)
                obtain ⟨e2, epv, eht⟩ := rd_not hh
                go_wp2_with fail
                go_meet
                case rel => exact ⟨by rw [epv], by rw [eht], by rw [e2]; exact hAt2⟩
            case rest =>
              obtain ⟨rfl, rfl, hAt3⟩ := hcut
              obtain ⟨hH3, hblk3⟩ := hAt3.holds hH (s2.trans hs) hblk
              go_upto_region 15 with fail
              go_cut [12, 68] from 19 (fun v12 v68 wx => v12 = .int .i64 (hintCode (rd ltL E x y lim wb wp).hint) ∧ v68 = .bool (wb && wp && decide ((rd ltL E x y lim wb wp).hint = .increasing)) ∧ wx = wc)
              case first =>
                cases wb <;> cases wp <;> cases hh3 : (rd ltL E x y lim _ _).hint <;>
                  (have hcode3 := congrArg hintCode hh3
                   simp only [hintCode] at hcode3
                   go_wp2_with fail
                   go_meet
                   exact ⟨by simp [hh3, hintCode], by simp [hh3, hintCode], rfl⟩)
              case rest =>
                obtain ⟨rfl, rfl, rfl⟩ := hcut
                go_upto_if 68 with fail
                go_cut [] from 19 (fun wx => (rd ltL E x y lim wb wp).pi.2 = false ∧ At lbV w blk off (rd ltL E x y lim wb wp).pi.1 wx)
                case first =>
                  cases h68 : (wb && wp && decide ((rd ltL E x y lim wb wp).hint = .increasing))
                  · have epi := rd_pi_no h68
                    go_wp2_with fail
                    go_meet
                    case rel => exact ⟨by rw [epi], by rw [epi]; exact hAt3⟩
                  · have epi := rd_pi_yes h68
                    have hcI := lbPartIns_any blk off cap x y (rd ltL E x y lim wb wp).d2 wc hH3 (by omega) (by omega) (by omega)
                    rw [s2, hs, ← epi] at hcI
                    go_wp2_with (go_at_call 76; refine hcI.mono ?_; rintro e w4 ⟨rfl, hw4⟩)
                    all_goals first
                      | (have hp2 : (rd ltL E x y lim wb wp).pi.2 = false := by rw [epi]; assumption
                         go_meet
                         exact ⟨hp2, hAt3.step hblk (by rw [s3, s2]) hw4⟩)
                      | (have hp2 : (rd ltL E x y lim wb wp).pi.2 = true := by rw [epi]; assumption
                         (try simp only [Exit.inBlock, Exit.then]); refine bodyPost_ret (results_none rfl _ _ _) rfl ?_
                         refine ⟨rfl, ?_⟩
                         rw [← hA.out, pdq_done h12 hl0 hp2]
                         exact hAt3.step hblk (by rw [s3, s2]) hw4)
                case rest =>
                  obtain ⟨hp2, hAt5⟩ := hcut
                  obtain ⟨hH5, hblk5⟩ := hAt5.holds hH (s3.trans hs) hblk
                  have hcell : ∀ t, t < d.size → wc.cell? ⟨blk, off + t, none⟩ = some (.int .u64 (rd ltL E x y lim wb wp).pi.1[t]!) := fun t ht => (hH5 t (by omega)).1
                  have hfree : ∀ t, t < d.size → wc.frozen? ⟨blk, off + t, none⟩ = false := fun t ht => (hH5 t (by omega)).2
                  go_upto_region 17 with fail
                  go_cut [87] from 19 (fun v87 wx => v87 = .bool (decide (x > 0) && !ltL (rd ltL E x y lim wb wp).pi.1[x - 1]! (rd ltL E x y lim wb wp).pi.1[(rd ltL E x y lim wb wp).pivot]!) ∧ At lbV w blk off (rd ltL E x y lim wb wp).pi.1 wx)
                  case first =>
                    rcases Nat.eq_zero_or_pos x with ha0 | ha0
                    · have ha0z : decide ((x : Int) > 0) = false := decide_eq_false (by omega)
                      go_big_quiet (first | (go_at_call 77; refine Calls.quiet_of_same (lbLess_any _ _ _)))
                      go_wp2_with fail
                      go_meet
                      case rel => exact ⟨by simp [ha0], hAt5.ahead nq⟩
                    · have ha0z : (x : Int) > 0 := by omega
                      go_big_quiet (first | (go_at_call 77; refine Calls.quiet_of_same (lbLess_any _ _ _)))
                      go_wp2_with fail
                      go_meet
                      case rel => exact ⟨by simp [ha0, ltL], hAt5.ahead nq⟩
                  case rest =>
                    obtain ⟨rfl, hAt6⟩ := hcut
                    obtain ⟨hH6, hblk6⟩ := hAt6.holds hH (s3.trans hs) hblk
                    clear hcell hfree
                    cases h87 : (decide (x > 0) && !ltL (rd ltL E x y lim wb wp).pi.1[x - 1]! (rd ltL E x y lim wb wp).pi.1[(rd ltL E x y lim wb wp).pivot]!)
                    · obtain ⟨mid, ap, D, hx⟩ : ∃ mid ap D, partition ltL (rd ltL E x y lim wb wp).pi.1 x y (rd ltL E x y lim wb wp).pivot = (mid, ap, D) := ⟨(partition ltL (rd ltL E x y lim wb wp).pi.1 x y (rd ltL E x y lim wb wp).pivot).1, (partition ltL (rd ltL E x y lim wb wp).pi.1 x y (rd ltL E x y lim wb wp).pivot).2.1, (partition ltL (rd ltL E x y lim wb wp).pi.1 x y (rd ltL E x y lim wb wp).pivot).2.2, rfl⟩
                      obtain ⟨r1, r2, r3, r4, r5, r6, r7⟩ := round_part swoL pPrt hpv.1 hpv.2 (show y ≤ (rd ltL E x y lim wb wp).pi.1.size by omega) B3 hx
                      have hcT := lbPart_any blk off cap x y (rd ltL E x y lim wb wp).pivot (rd ltL E x y lim wb wp).pi.1 wc hH6 hpv.1 hpv.2 (by omega) (by omega)
                      rw [s3, hs, hx] at hcT
                      have X : Aside (partition ltL (rd ltL E x y lim wb wp).pi.1 x y (rd ltL E x y lim wb wp).pivot = (mid, ap, D)) := hx
                      clear hx
                      go_upto_if 113 with (go_at_call 79; refine hcT.mono ?_; rintro e w7 ⟨rfl, hw7⟩)
                      have hx := X.out
                      have hAt7 : At lbV w blk off D w7 := hAt6.step hblk r3 hw7
                      obtain ⟨hH7, hblk7⟩ := hAt7.holds hH (r3.trans (s3.trans hs)) hblk
                      by_cases h4 : mid - x < y - mid
                      · have h4z : (mid : Int) - (x : Int) < (y : Int) - (mid : Int) := by omega
                        have hih := ih blk off cap x mid (rd ltL E x y lim wb wp).lim D w7 (by omega) hH7 hblk7 (by omega) (by omega) (by omega) (Nat.lt_of_le_of_lt (Nat.le_trans rd_lim_le hlim) hlimit) r4
                        rw [r3, s3, hs] at hih
                        obtain ⟨pL, sL⟩ := pPdq swoL D x mid (rd ltL E x y lim wb wp).lim true true (by omega) (by omega) r4
                        go_wp2_with (go_at_call 68; refine hih.mono ?_; rintro e w8 ⟨rfl, hw8⟩)
                        go_roundg (y - (mid + 1))
                        case measure => omega
                        case rel =>
                          refine ⟨mid + 1, y, (rd ltL E x y lim wb wp).lim, decide (mid - x ≥ (y - x) / 8), ap, pdq ltL D x mid (rd ltL E x y lim wb wp).lim true true, by simp, rfl, rfl, ?_, rfl, by omega, by omega, Nat.le_refl _, by omega, Nat.le_trans rd_lim_le hlim, by rw [pL.1, r3, s3, hs], (r6 _ pL sL).1, hAt7.stepG hblk pL.1 hw8, ?_⟩
                          · exact congrArg Value.bool (eighth (by omega) (by omega))
                          · rw [← hA.out, pdq_left h12 hl0 hp2 h87 (by rw [hx]; exact ⟨r1, r2⟩) (by rw [hx]; exact h4), hx]
                      · have h4z : ¬ ((mid : Int) - (x : Int) < (y : Int) - (mid : Int)) := by omega
                        have hih := ih blk off cap (mid + 1) y (rd ltL E x y lim wb wp).lim D w7 (by omega) hH7 hblk7 (by omega) (by omega) (by omega) (Nat.lt_of_le_of_lt (Nat.le_trans rd_lim_le hlim) hlimit) r5
                        rw [r3, s3, hs] at hih
                        obtain ⟨pL, sL⟩ := pPdq swoL D (mid + 1) y (rd ltL E x y lim wb wp).lim true true (by omega) (by omega) r5
                        go_wp2_with (go_at_call 68; refine hih.mono ?_; rintro e w8 ⟨rfl, hw8⟩)
                        go_roundg (mid - x)
                        case measure => omega
                        case rel =>
                          refine ⟨x, mid, (rd ltL E x y lim wb wp).lim, decide (y - mid ≥ (y - x) / 8), ap, pdq ltL D (mid + 1) y (rd ltL E x y lim wb wp).lim true true, rfl, rfl, rfl, ?_, rfl, by omega, by omega, Nat.le_refl _, by omega, Nat.le_trans rd_lim_le hlim, by rw [pL.1, r3, s3, hs], (r7 _ pL sL).1, hAt7.stepG hblk pL.1 hw8, ?_⟩
                          · exact congrArg Value.bool (eighth (by omega) (by omega))
                          · rw [← hA.out, pdq_right h12 hl0 hp2 h87 (by rw [hx]; exact ⟨r1, r2⟩) (by rw [hx]; exact h4), hx]
                    · have h87' := h87
                      simp only [Bool.and_eq_true, decide_eq_true_eq, Bool.not_eq_true'] at h87'
                      obtain ⟨mid, D, hx⟩ : ∃ mid D, partitionEqual ltL (rd ltL E x y lim wb wp).pi.1 x y (rd ltL E x y lim wb wp).pivot = (mid, D) := ⟨(partitionEqual ltL (rd ltL E x y lim wb wp).pi.1 x y (rd ltL E x y lim wb wp).pivot).1, (partitionEqual ltL (rd ltL E x y lim wb wp).pi.1 x y (rd ltL E x y lim wb wp).pivot).2, rfl⟩
                      obtain ⟨r1, r2, r3, r4, _⟩ := round_eq swoL pPeq h87'.1 hpv.1 hpv.2 (show y ≤ (rd ltL E x y lim wb wp).pi.1.size by omega) B3 h87'.2 hx
                      have hcE := lbPartEq_any blk off cap x y (rd ltL E x y lim wb wp).pivot (rd ltL E x y lim wb wp).pi.1 wc hH6 hpv.1 hpv.2 (by omega) (by omega)
                      rw [s3, hs, hx] at hcE
                      have X : Aside (partitionEqual ltL (rd ltL E x y lim wb wp).pi.1 x y (rd ltL E x y lim wb wp).pivot = (mid, D)) := hx
                      clear hx
                      go_wp2_with (go_at_call 78; refine hcE.mono ?_; rintro e w7 ⟨rfl, hw7⟩)
                      go_roundg (y - mid)
                      case measure => omega
                      case rel =>
                        have hx := X.out
                        exact ⟨mid, y, (rd ltL E x y lim wb wp).lim, wb, wp, D, rfl, rfl, rfl, rfl, rfl, r2, hy, Nat.le_refl _, by omega, Nat.le_trans rd_lim_le hlim, by rw [r3, s3, hs], r4, hAt6.step hblk r3 hw7, by rw [← hA.out, pdq_eq h12 hl0 hp2 h87 (by rw [hx]; exact ⟨r1, r2⟩), hx]⟩
end Go.Proofs.Ytdpikdkhemhmdaa
