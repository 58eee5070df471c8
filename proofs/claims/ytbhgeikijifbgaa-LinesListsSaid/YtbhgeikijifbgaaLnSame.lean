/- The two Same's of lists of lines, by their contracts. -/
import Derived.Test.YtbhgeikijifbgaaLnRow
namespace Go.Proofs.Ytbhgeikijifbgaa
open Go.RowKit

def TwoAt (w : World) (b1 o1 b2 o2 : Nat) (x y : Ln) (W : World) : Prop :=
  (W.cell? ⟨b1, o1, none⟩ = some (.int .u64 x.u) ∧ W.cell? ⟨b1, o1 + 1, none⟩ = some (.int .i64 x.n) ∧ W.cell? ⟨b1, o1 + 2, none⟩ = some (.int .i64 x.r) ∧ W.cell? ⟨b1, o1 + 3, none⟩ = some (.string x.s)) ∧
  (W.cell? ⟨b2, o2, none⟩ = some (.int .u64 y.u) ∧ W.cell? ⟨b2, o2 + 1, none⟩ = some (.int .i64 y.n) ∧ W.cell? ⟨b2, o2 + 2, none⟩ = some (.int .i64 y.r) ∧ W.cell? ⟨b2, o2 + 3, none⟩ = some (.string y.s)) ∧ Below w.heap.size w W
theorem twoKeep {w W W' : World} {b1 o1 b2 o2 : Nat} {x y : Ln} (hb : Below W.heap.size W W') (h : TwoAt w b1 o1 b2 o2 x y W) : TwoAt w b1 o1 b2 o2 x y W' := by
  obtain ⟨h1, h2, hg⟩ := h
  have l1 := World.block_lt_of_cell? W _ h1.1
  have l2 := World.block_lt_of_cell? W _ h2.1
  exact ⟨LnAt.below h1 hb l1, LnAt.below h2 hb l2, Below.trans hg (hb.mono (Below.size hg))⟩
theorem twoEnd {w W : World} {b1 o1 b2 o2 : Nat} {x y : Ln} (h : TwoAt w b1 o1 b2 o2 x y W) : Below w.heap.size w W := h.2.2
theorem twoDrew {w W : World} {b1 o1 b2 o2 : Nat} {x y : Ln} (h : TwoAt w b1 o1 b2 o2 x y W) : TwoAt w b1 o1 b2 o2 x y W.drew := ⟨h.1, h.2.1, Below.drew h.2.2⟩

set_option maxRecDepth 100000 in
set_option maxHeartbeats 4000000 in
theorem refSame_any (w : World) (p q : Option Addr) (n m c d : Nat) (xs ys : List Ln) (hp : LnRow w p xs) (hq : LnRow w q ys) (hn : xs.length = n) (hm : ys.length = m) (hl : n ≤ 3518437208883) :
    Calls Try.prog 15 #[.slice p n c, .slice q m d] w fun e w' => e = .returned (.bool (sameB xs ys)) ∧ Below w.heap.size w w' := by
  by_cases hnm : n = m
  · subst hnm
    have HN := Lib.hid hn; have HM := Lib.hid hm
    have hall := Lib.hid (sameB_all xs ys (hn.trans hm.symm))
    have hhit := Lib.hid (sameB_hit xs ys)
    generalize sameB xs ys = res at *
    clear hn hm
    go_enter Try.func15, Try.ntmps15
    go_wp2_with fail
    go_loopw [5] (fun i wr => ∃ k : Nat, k ≤ n ∧ i = .int .i64 k ∧ Below w.heap.size w wr ∧ Hid (∀ (j : Nat) (h : j < xs.length) (h' : j < ys.length), j < k → oneB xs[j] ys[j] = true)) (fun i _ => n - (intOf i).toNat)
    case atStart => exact ⟨0, by omega, rfl, Below.refl _ _, fun j _ _ h => absurd h (Nat.not_lt_zero _)⟩
    case round =>
      obtain ⟨k, hk, rfl, hbr, heq⟩ := hrel
      by_cases hlt : k < n
      · have hx : k < xs.length := by rw [HN.out]; exact hlt
        have hy : k < ys.length := by rw [HM.out]; exact hlt
        obtain ⟨b1, o1, rfl, l1, h1c⟩ := hp.at k hx
        obtain ⟨b2, o2, rfl, l2, h2c⟩ := hq.at k hy
        have g1 := h1c wr hbr
        have g2 := h2c wr hbr
        have hS : TwoAt w b1 (o1 + k * 4) b2 (o2 + k * 4) xs[k] ys[k] wr := ⟨g1, g2, hbr⟩
        have c1 := fun W => one_any xs[k] ys[k] W
        have hres : Hid (oneB xs[k] ys[k] = false → res = false) := fun e => hhit.out k hx hy e
        have hone : Hid (∀ b, oneB xs[k] ys[k] = b → b = true → ∀ (j : Nat) (h : j < xs.length) (h' : j < ys.length), j < k + 1 → oneB xs[j] ys[j] = true) := by
          intro b hb ht j h h' hj
          by_cases e : j = k
          · subst e; exact hb.trans ht
          · exact heq.out j h h' (by omega)
        generalize xs[k] = x at *
        generalize ys[k] = y at *
        generalize oneB x y = b at *
        obtain ⟨u, v, r, s⟩ := x
        obtain ⟨u', v', r', s'⟩ := y
        unfold Ln.agg at c1
        have hk0 : (0 : Int) ≤ (k : Int) := Int.natCast_nonneg _
        have hkm : (k : Int) < (n : Int) := by omega
        clear h1c h2c g1 g2 hall hhit heq
        unfold TwoAt at hS
        dsimp only at hS c1
        clear hbr
        cases b
        · have e := hres.out rfl
          subst e
          clear hres hone
          go_wp2_with fail
          go_region_held3 (fun W => (W.cell? ⟨b1, o1 + k * 4, none⟩ = some (.int .u64 u) ∧ W.cell? ⟨b1, o1 + k * 4 + 1, none⟩ = some (.int .i64 v) ∧ W.cell? ⟨b1, o1 + k * 4 + 2, none⟩ = some (.int .i64 r) ∧ W.cell? ⟨b1, o1 + k * 4 + 3, none⟩ = some (.string s)) ∧
              (W.cell? ⟨b2, o2 + k * 4, none⟩ = some (.int .u64 u') ∧ W.cell? ⟨b2, o2 + k * 4 + 1, none⟩ = some (.int .i64 v') ∧ W.cell? ⟨b2, o2 + k * 4 + 2, none⟩ = some (.int .i64 r') ∧ W.cell? ⟨b2, o2 + k * 4 + 3, none⟩ = some (.string s')) ∧ Below w.heap.size w W)
            (first | assumption | exact twoDrew (x := ⟨_, _, _, _⟩) (y := ⟨_, _, _, _⟩) ‹_› | exact twoKeep (x := ⟨_, _, _, _⟩) (y := ⟨_, _, _, _⟩) ‹_› ‹_› | go_keep)
            (first
              | (go_at_call 21; refine (c1 _).mono ?_; rintro e w' ⟨rfl, hb⟩))
          all_goals go_wp2
          all_goals go_ret
          all_goals exact ⟨rfl, twoEnd (x := ⟨_, _, _, _⟩) (y := ⟨_, _, _, _⟩) ‹_›⟩
        · have hnext := hone.out true rfl rfl
          have HX := Lib.hid hnext
          clear hres hone hnext
          go_wp2_with fail
          go_region_held3 (fun W => (W.cell? ⟨b1, o1 + k * 4, none⟩ = some (.int .u64 u) ∧ W.cell? ⟨b1, o1 + k * 4 + 1, none⟩ = some (.int .i64 v) ∧ W.cell? ⟨b1, o1 + k * 4 + 2, none⟩ = some (.int .i64 r) ∧ W.cell? ⟨b1, o1 + k * 4 + 3, none⟩ = some (.string s)) ∧
              (W.cell? ⟨b2, o2 + k * 4, none⟩ = some (.int .u64 u') ∧ W.cell? ⟨b2, o2 + k * 4 + 1, none⟩ = some (.int .i64 v') ∧ W.cell? ⟨b2, o2 + k * 4 + 2, none⟩ = some (.int .i64 r') ∧ W.cell? ⟨b2, o2 + k * 4 + 3, none⟩ = some (.string s')) ∧ Below w.heap.size w W)
            (first | assumption | exact twoDrew (x := ⟨_, _, _, _⟩) (y := ⟨_, _, _, _⟩) ‹_› | exact twoKeep (x := ⟨_, _, _, _⟩) (y := ⟨_, _, _, _⟩) ‹_› ‹_› | go_keep)
            (first
              | (go_at_call 21; refine (c1 _).mono ?_; rintro e w' ⟨rfl, hb⟩))
          all_goals go_wp2
          all_goals go_roundw
          case rel => exact ⟨k + 1, by omega, by go_num, twoEnd (x := ⟨_, _, _, _⟩) (y := ⟨_, _, _, _⟩) ‹_›, HX⟩
          case measure => simp [intOf]; omega
      · obtain rfl : n = k := by omega
        have e : res = true := hall.out fun j h h' => heq.out j h h' (by have := HN.out; omega)
        subst e
        clear hall hhit heq
        go_wp2_with fail
        go_ret
        exact ⟨rfl, hbr⟩
  · have e : sameB xs ys = false := sameB_len xs ys (by rw [hn, hm]; exact hnm)
    rw [e]
    have hb : ((n : Int) != (m : Int)) = true := by rw [bne, beq_false_of_ne (by omega)]; rfl
    clear e hn hm
    go_enter Try.func15, Try.ntmps15
    go_wp2
    go_ret
    exact ⟨rfl, Below.refl _ _⟩
end Go.Proofs.Ytbhgeikijifbgaa
