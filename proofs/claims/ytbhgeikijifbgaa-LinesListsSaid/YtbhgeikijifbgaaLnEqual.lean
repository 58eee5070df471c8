/- lines.Same, by its contract. -/
import Derived.Test.YtbhgeikijifbgaaLnSame
namespace Go.Proofs.Ytbhgeikijifbgaa
open Go.RowKit

set_option maxRecDepth 100000 in
set_option maxHeartbeats 4000000 in
theorem equalFunc_any (w : World) (p q : Option Addr) (n m c d : Nat) (xs ys : List Ln) (hp : LnRow w p xs) (hq : LnRow w q ys) (hn : xs.length = n) (hm : ys.length = m) (hl : n ≤ 3518437208883) :
    Calls Try.prog 19 #[.slice p n c, .slice q m d, .func (.func 20) #[] #[]] w fun e w' => e = .returned (.bool (sameB xs ys)) ∧ Below w.heap.size w w' := by
  by_cases hnm : n = m
  · subst hnm
    have HN := Lib.hid hn; have HM := Lib.hid hm
    have hall := Lib.hid (sameB_all xs ys (hn.trans hm.symm))
    have hhit := Lib.hid (sameB_hit xs ys)
    generalize sameB xs ys = res at *
    clear hn hm
    go_enter Try.func19, Try.ntmps19
    go_wp2_with fail
    go_loopw [17] (fun i wr => ∃ k : Nat, k ≤ n ∧ i = .int .i64 k ∧ Below w.heap.size w wr ∧ Hid (∀ (j : Nat) (h : j < xs.length) (h' : j < ys.length), j < k → oneB xs[j] ys[j] = true)) (fun i _ => n - (intOf i).toNat)
    case atStart => exact ⟨0, by omega, rfl, Below.refl _ _, fun j _ _ h => absurd h (Nat.not_lt_zero _)⟩
    case round =>
      obtain ⟨k, hk, rfl, hbr, heq⟩ := hrel
      by_cases hlt : k < n
      · have hx : k < xs.length := by rw [HN.out]; exact hlt
        have hy : k < ys.length := by rw [HM.out]; exact hlt
        obtain ⟨b1, o1, rfl, l1, h1c⟩ := hp.at k hx
        obtain ⟨b2, o2, rfl, l2, h2c⟩ := hq.at k hy
        have g1 := h1c wr hbr
        have hsz := hbr.size
        have g2 := h2c _ (hbr.alloc hsz (.cells #[.int .u64 xs[k].u, .int .i64 xs[k].n, .int .i64 xs[k].r, .string xs[k].s] 25))
        have c1 := fun W => sameOne_any xs[k] ys[k] W
        have hres : Hid (oneB xs[k] ys[k] = false → res = false) := fun e => hhit.out k hx hy e
        have hone : Hid (∀ b, oneB xs[k] ys[k] = b → b = true → ∀ (j : Nat) (h : j < xs.length) (h' : j < ys.length), j < k + 1 → oneB xs[j] ys[j] = true) := by
          intro b hb ht j h h' hj
          by_cases e : j = k
          · subst e; exact hb.trans ht
          · exact heq.out j h h' (by omega)
        generalize xs[k] = x at *
        generalize ys[k] = y at *
        generalize oneB x y = b at *
        obtain ⟨u, v, r, s⟩ := x
        obtain ⟨u', v', r', s'⟩ := y
        unfold Ln.agg at c1
        have hk0 : (0 : Int) ≤ (k : Int) := Int.natCast_nonneg _
        have hkm : (k : Int) < (n : Int) := by omega
        clear h1c h2c hall hhit heq
        unfold LnAt at g1 g2
        obtain ⟨s1, s2, s3, s4⟩ := g1
        obtain ⟨t1, t2, t3, t4⟩ := g2
        dsimp only at s1 s2 s3 s4 t1 t2 t3 t4 c1
        cases b
        · have e := hres.out rfl
          subst e
          clear hres hone
          go_wp2_with fail
          refine (c1 _).mono ?_
          rintro e w1 ⟨rfl, hb1⟩
          have hb2 := ((hbr.alloc hsz _).alloc (by simp; omega) _).trans (hb1.mono (by simp; omega))
          clear hb1 s1 s2 s3 s4 t1 t2 t3 t4
          go_wp2_with fail
          go_ret
          exact ⟨rfl, hb2⟩
        · have hnext := hone.out true rfl rfl
          have HX := Lib.hid hnext
          clear hres hone hnext
          go_wp2_with fail
          refine (c1 _).mono ?_
          rintro e w1 ⟨rfl, hb1⟩
          have hb2 := ((hbr.alloc hsz _).alloc (by simp; omega) _).trans (hb1.mono (by simp; omega))
          clear hb1 s1 s2 s3 s4 t1 t2 t3 t4
          go_wp2_with fail
          go_roundw
          case rel => exact ⟨k + 1, by omega, by go_num, hb2, HX⟩
          case measure => simp [intOf]; omega
      · obtain rfl : n = k := by omega
        have e : res = true := hall.out fun j h h' => heq.out j h h' (by have := HN.out; omega)
        subst e
        clear hall hhit heq
        go_wp2_with fail
        go_ret
        exact ⟨rfl, hbr⟩
  · have e : sameB xs ys = false := sameB_len xs ys (by rw [hn, hm]; exact hnm)
    rw [e]
    have hb : ((n : Int) != (m : Int)) = true := by rw [bne, beq_false_of_ne (by omega)]; rfl
    clear e hn hm
    go_enter Try.func19, Try.ntmps19
    go_wp2
    go_ret
    exact ⟨rfl, Below.refl _ _⟩

theorem same_any (w : World) (p q : Option Addr) (n m c d : Nat) (xs ys : List Ln) (hp : LnRow w p xs) (hq : LnRow w q ys) (hn : xs.length = n) (hm : ys.length = m) (hl : n ≤ 3518437208883) :
    Calls Try.prog 14 #[.slice p n c, .slice q m d] w fun e w' => e = .returned (.bool (sameB xs ys)) ∧ Below w.heap.size w w' := by
  have cE := equalFunc_any w p q n m c d xs ys hp hq hn hm hl
  go_enter Try.func14, Try.ntmps14
  go_wp2_with fail
  refine cE.mono ?_
  rintro e w1 ⟨rfl, hb⟩
  go_wp2_with fail
  go_ret
  exact ⟨rfl, hb⟩
end Go.Proofs.Ytbhgeikijifbgaa
