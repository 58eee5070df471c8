/- hunk.Same: by its contract. -/
import Derived.Test.YtjmnbnlhahbcjaaHuSameG
namespace Go.Proofs.Ytjmnbnlhahbcjaa
open Go Go.RowKit

set_option maxRecDepth 100000 in
set_option maxHeartbeats 4000000 in
theorem equalFunc_any (w : World) (p q : Option Addr) (n m c d : Nat) (xs ys : List Hu) (hp : HuRow w p xs) (hq : HuRow w q ys) (hn : xs.length = n) (hm : ys.length = m) (hl : n ≤ 2513169434917) (hl' : m ≤ 2513169434917) (hx : HuB xs) (hy : HuB ys) :
    Calls Try.prog 70 #[.slice p n c, .slice q m d, .func (.func 71) #[] #[]] w fun e w' => e = .returned (.bool (sameL xs ys)) ∧ Below w.heap.size w w' := by
  by_cases hnm : n = m
  · subst hnm
    have HN := Lib.hid hn
    have HM := Lib.hid hm
    have HXB := Lib.hid hx
    have HYB := Lib.hid hy
    have hall := Lib.hid (sameL_all xs ys (hn.trans hm.symm))
    have hhit := Lib.hid (sameL_hit xs ys)
    generalize sameL xs ys = res at *
    clear hn hm hx hy
    go_enter Try.func70, Try.ntmps70
    go_wp2_with fail
    go_loopg [17] n (fun g i wr => ∃ k : Nat, k + g = n ∧ i = .int .i64 k ∧ Below w.heap.size w wr ∧ Hid (∀ (j : Nat) (h : j < xs.length) (h' : j < ys.length), j < k → sameH xs[j] ys[j] = true))
    case atStart => exact ⟨0, by omega, rfl, Below.refl _ _, fun j _ _ h => absurd h (Nat.not_lt_zero _)⟩
    case round =>
      obtain ⟨k, hk, rfl, hbr, heq⟩ := hrel
      by_cases hlt : k < n
      · have hx : k < xs.length := by rw [HN.out]; exact hlt
        have hy : k < ys.length := by rw [HM.out]; exact hlt
        obtain ⟨b1, o1, p1, c1, p2, c2, rfl, r1, r2, h1c⟩ := hp.at k hx
        obtain ⟨b2, o2, p3, c3, p4, c4, rfl, r3, r4, h2c⟩ := hq.at k hy
        obtain ⟨z1, z2, -, -⟩ := HXB.out.at k hx
        obtain ⟨z3, z4, -, -⟩ := HYB.out.at k hy
        have hres : Hid (sameH xs[k] ys[k] = false → res = false) := fun e => hhit.out k hx hy e
        have hone : Hid (sameH xs[k] ys[k] = true → ∀ (j : Nat) (h : j < xs.length) (h' : j < ys.length), j < k + 1 → sameH xs[j] ys[j] = true) := by
          intro hb j h h' hj
          by_cases e : j = k
          · subst e; exact hb
          · exact heq.out j h h' (by omega)
        have hsz := hbr.size
        have cS := Lib.hid (fun W (hb : Below w.heap.size w W) => sameC_any W xs[k] ys[k] p1 p2 p3 p4 c1 c2 c3 c4 (r1.later hb) (r2.later hb) (r3.later hb) (r4.later hb) z1 z2 z3 z4)
        have g1 := h1c wr hbr
        have g2 := h2c _ (hbr.alloc hsz (.cells #[.int .i64 xs[k].pos, .slice p1 xs[k].old.length c1, .slice p2 xs[k].new.length c2] 47))
        generalize sameH xs[k] ys[k] = b at *
        generalize xs[k].pos = ps at *
        generalize ys[k].pos = ps' at *
        generalize xs[k].old.length = lo at *
        generalize ys[k].old.length = lo' at *
        generalize xs[k].new.length = ln at *
        generalize ys[k].new.length = ln' at *
        have hb2 := (hbr.alloc hsz (.cells #[.int .i64 ps, .slice p1 lo c1, .slice p2 ln c2] 47)).alloc (by simp; omega) (.cells #[.int .i64 ps', .slice p3 lo' c3, .slice p4 ln' c4] 47)
        have cS1 := cS.out _ hb2
        have hk0 : (0 : Int) ≤ (k : Int) := Int.natCast_nonneg _
        have hkm : (k : Int) < (n : Int) := by omega
        obtain ⟨s1, s2, s3⟩ := g1
        obtain ⟨t1, t2, t3⟩ := g2
        clear h1c h2c hall hhit heq r1 r2 r3 r4 cS
        cases b
        · have e := hres.out rfl
          subst e
          clear hres hone
          go_wp2_with fail
          refine cS1.mono ?_
          rintro e w1 ⟨rfl, hb1⟩
          have hb2 := hb2.trans (hb1.mono hb2.size)
          clear hb1 s1 s2 s3 t1 t2 t3 cS1
          go_wp2_with fail
          go_ret
          exact ⟨rfl, hb2⟩
        · have HX := Lib.hid (hone.out rfl)
          clear hres hone
          go_wp2_with fail
          refine cS1.mono ?_
          rintro e w1 ⟨rfl, hb1⟩
          have hb2 := hb2.trans (hb1.mono hb2.size)
          clear hb1 s1 s2 s3 t1 t2 t3 cS1
          go_wp2_with fail
          go_roundg (gk - 1)
          case rel => exact ⟨k + 1, by omega, by go_num, hb2, HX.out⟩
          case measure => omega
      · obtain rfl : n = k := by omega
        have e : res = true := hall.out fun j h h' => heq.out j h h' (by have := HN.out; omega)
        subst e
        clear hall hhit heq
        go_wp2_with fail
        go_ret
        exact ⟨rfl, hbr⟩
  · have e : sameL xs ys = false := sameL_len xs ys (by rw [hn, hm]; exact hnm)
    rw [e]
    have hb : ((n : Int) != (m : Int)) = true := by rw [bne, beq_false_of_ne (by omega)]; rfl
    clear e hn hm hp hq
    go_enter Try.func70, Try.ntmps70
    go_wp2
    go_ret
    exact ⟨rfl, Below.refl _ _⟩
theorem hunkSame_any (w : World) (p q : Option Addr) (n m c d : Nat) (xs ys : List Hu) (hp : HuRow w p xs) (hq : HuRow w q ys) (hn : xs.length = n) (hm : ys.length = m) (hl : n ≤ 2513169434917) (hl' : m ≤ 2513169434917) (hx : HuB xs) (hy : HuB ys) :
    Calls Try.prog 49 #[.slice p n c, .slice q m d] w fun e w' => e = .returned (.bool (sameL xs ys)) ∧ Below w.heap.size w w' := by
  have cE := equalFunc_any w p q n m c d xs ys hp hq hn hm hl hl' hx hy
  go_enter Try.func49, Try.ntmps49
  go_wp2_with fail
  refine cE.mono ?_
  rintro e w1 ⟨rfl, hb⟩
  go_wp2_with fail
  go_ret
  exact ⟨rfl, hb⟩
end Go.Proofs.Ytjmnbnlhahbcjaa
