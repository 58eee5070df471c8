/- Hunks held against hunks, whatever they are: the document's Same, hunk.Same. -/
import Derived.Test.YtjmnbnlhahbcjaaHuSame
import Derived.Test.YtjmnbnlhahbcjaaHuPush
namespace Go.Proofs.Ytjmnbnlhahbcjaa
open Go Go.RowKit

def sameH (x y : Hu) : Bool := decide (x.pos = y.pos) && (decide (x.old = y.old) && decide (x.new = y.new))
def sameL : List Hu → List Hu → Bool
  | [], [] => true
  | x :: xs, y :: ys => sameH x y && sameL xs ys
  | _, _ => false
theorem sameL_len : ∀ (xs ys : List Hu), xs.length ≠ ys.length → sameL xs ys = false
  | [], [], h => absurd rfl h
  | [], _ :: _, _ => rfl
  | _ :: _, [], _ => rfl
  | x :: xs, y :: ys, h => by
    unfold sameL
    rw [sameL_len xs ys (fun e => h (by simp [e])), Bool.and_false]
theorem sameL_all : ∀ (xs ys : List Hu), xs.length = ys.length → (∀ (j : Nat) (h : j < xs.length) (h' : j < ys.length), sameH xs[j] ys[j] = true) → sameL xs ys = true
  | [], [], _, _ => rfl
  | x :: xs, y :: ys, hl, h => by
    unfold sameL
    have h0 : sameH x y = true := h 0 (by simp) (by simp)
    rw [h0, sameL_all xs ys (by simpa using hl) (fun j a b => h (j + 1) (by simpa using a) (by simpa using b))]
    rfl
theorem sameL_hit : ∀ (xs ys : List Hu) (k : Nat) (h : k < xs.length) (h' : k < ys.length), sameH xs[k] ys[k] = false → sameL xs ys = false
  | x :: xs, y :: ys, 0, _, _, e => by
    unfold sameL
    rw [show sameH x y = false from e, Bool.false_and]
  | x :: xs, y :: ys, k + 1, h, h', e => by
    unfold sameL
    rw [sameL_hit xs ys k (by simpa using h) (by simpa using h') e, Bool.and_false]
theorem sameL_refl (xs : List Hu) : sameL xs xs = true := sameL_all xs xs rfl fun j h _ => by simp [sameH]
set_option maxRecDepth 100000 in
set_option maxHeartbeats 4000000 in
theorem refSame_any (w : World) (p q : Option Addr) (n m c d : Nat) (xs ys : List Hu) (hp : HuRow w p xs) (hq : HuRow w q ys) (hn : xs.length = n) (hm : ys.length = m) (hl : n ≤ 2513169434917) (hm' : m ≤ 2513169434917) (hx : HuB xs) (hy : HuB ys) :
    Calls Try.prog 38 #[.slice p n c, .slice q m d] w fun e w' => e = .returned (.bool (sameL xs ys)) ∧ Below w.heap.size w w' := by
  by_cases hnm : n = m
  · subst hnm
    have HN := Lib.hid hn
    have HM := Lib.hid hm
    have HXB := Lib.hid hx
    have HYB := Lib.hid hy
    have hall := Lib.hid (sameL_all xs ys (hn.trans hm.symm))
    have hhit := Lib.hid (sameL_hit xs ys)
    clear hn hm hx hy
    generalize sameL xs ys = res at *
    go_enter Try.func38, Try.ntmps38
    go_wp2_with fail
    go_loopg [5] n (fun g i wr => ∃ k : Nat, k + g = n ∧ i = .int .i64 k ∧ Below w.heap.size w wr ∧ Hid (∀ (j : Nat) (h : j < xs.length) (h' : j < ys.length), j < k → sameH xs[j] ys[j] = true))
    case atStart => exact ⟨0, by omega, rfl, Below.refl _ _, fun j _ _ h => absurd h (Nat.not_lt_zero _)⟩
    case round =>
      obtain ⟨k, hk, rfl, hbr, heq⟩ := hrel
      by_cases hlt : k < n
      · have hx : k < xs.length := by rw [HN.out]; exact hlt
        have hy : k < ys.length := by rw [HM.out]; exact hlt
        obtain ⟨b1, o1, p1, c1, p2, c2, rfl, r1, r2, h1c⟩ := hp.at k hx
        obtain ⟨b2, o2, p3, c3, p4, c4, rfl, r3, r4, h2c⟩ := hq.at k hy
        obtain ⟨z1, z2, -, -⟩ := HXB.out.at k hx
        obtain ⟨z3, z4, -, -⟩ := HYB.out.at k hy
        have hres : Hid (sameH xs[k] ys[k] = false → res = false) := fun e => hhit.out k hx hy e
        have hone : Hid (sameH xs[k] ys[k] = true → ∀ (j : Nat) (h : j < xs.length) (h' : j < ys.length), j < k + 1 → sameH xs[j] ys[j] = true) := by
          intro hb j h h' hj
          by_cases e : j = k
          · subst e; exact hb
          · exact heq.out j h h' (by omega)
        have hto := fun W (hb : Below wr.heap.size wr W) => hbr.trans (hb.mono hbr.size)
        have hmk := fun W (hb : Below wr.heap.size wr W) => And.intro hb (And.intro (h1c W (hto W hb)) (h2c W (hto W hb)))
        have cS := fun W (hb : Below wr.heap.size wr W) => refTexts_any W p1 p3 xs[k].old.length ys[k].old.length c1 c3 xs[k].old ys[k].old (r1.1.later (hto W hb)) (r3.1.later (hto W hb)) rfl rfl (by omega) (by omega)
        have cT := fun W (hb : Below wr.heap.size wr W) => refTexts_any W p2 p4 xs[k].new.length ys[k].new.length c2 c4 xs[k].new ys[k].new (r2.1.later (hto W hb)) (r4.1.later (hto W hb)) rfl rfl (by omega) (by omega)
        have hk0 : (0 : Int) ≤ (k : Int) := Int.natCast_nonneg _
        have hkm : (k : Int) < (n : Int) := by omega
        have HBR := Lib.hid hbr
        have hsr := hbr.size
        have hb0 : Below wr.heap.size wr wr.drew := Below.drew (Below.refl _ _)
        unfold sameH at hres hone
        clear h1c h2c r1 r2 r3 r4 hto z1 z2 z3 z4 hbr hall hhit heq
        generalize xs[k].pos = ps at *
        generalize ys[k].pos = ps' at *
        generalize decide (xs[k].old = ys[k].old) = bO at *
        generalize decide (xs[k].new = ys[k].new) = bN at *
        generalize xs[k].old.length = lo at *
        generalize ys[k].old.length = lo' at *
        generalize xs[k].new.length = ln at *
        generalize ys[k].new.length = ln' at *
        obtain ⟨-, ⟨g1, g2, g3⟩, g4, g5, g6⟩ := hmk _ (Below.refl _ _)
        have HMK := Lib.hid hmk
        clear hmk
        by_cases hps : ps = ps'
        · subst hps
          rw [decide_eq_true rfl, Bool.true_and] at hres hone
          cases bO
          · have hx := hres.out rfl
            subst hx
            clear hres hone cT
            go_upto_region 6 with fail
            refine region_tree (fun W : World => (W.cell? ⟨b1, o1 + k * 3, none⟩ = some (.int .i64 ps) ∧ W.cell? ⟨b1, o1 + k * 3 + 1, none⟩ = some (.slice p1 lo c1) ∧ W.cell? ⟨b1, o1 + k * 3 + 2, none⟩ = some (.slice p2 ln c2)) ∧ W.cell? ⟨b2, o2 + k * 3, none⟩ = some (.int .i64 ps) ∧ W.cell? ⟨b2, o2 + k * 3 + 1, none⟩ = some (.slice p3 lo' c3) ∧ W.cell? ⟨b2, o2 + k * 3 + 2, none⟩ = some (.slice p4 ln' c4)) (.take 0 (.take 1 (.take 2 (.take 3 (.take 4 (.take 5 (.take 6 (.take 7 (.take 8 (.take 9 (.take 10 (.take 11 (.take 12 (.take 13 (.take 14 (.take 15 (.take 16 (.take 17 (.take 18 (.take 19 (.take 20 (.take 21 (.call 22 (.take 23 (.take 24 (.take 25 (.take 26 (.take 27 (.take 28 (.take 29 (.take 30 (.take 31 (.take 32 (.take 33 (.take 34 (.take 35 (.take 36 (.take 37 (.take 38 .done))))))))))))))))))))))))))))))))))))))) (by kernel_rfl) (by kernel_rfl) (by kernel_rfl) (HMK.out _ hb0).2 ?_
            iterate 22 (refine tree_take (v := ?_) rfl (by rfl) ?_ ?_; rotate_left; (focus (intro w hSw; (try dsimp only at hSw); go_simp; (try with_reducible rfl); done)); (try simp (maxSteps := 10000000) only [Act.put, List.setIfInBounds_toArray, List.set_cons_zero, List.set_cons_succ]))
            refine tree_call ?_
            refine call_at rfl (by rfl) (fun K hK => ?_)
            go_simp
            refine (cS _ hb0).mono ?_
            rintro e wA ⟨rfl, hbm⟩
            have hbA : Below wr.heap.size wr wA := Below.trans hb0 (hbm.mono hb0.size)
            go_wp2_with fail
            refine hK.out _ _ (HMK.out _ hbA).2 (fun _ => ?_)
            clear hK hbm
            (try simp (maxSteps := 10000000) only [Act.put, List.setIfInBounds_toArray, List.set_cons_zero, List.set_cons_succ])
            iterate 3 (refine tree_take (v := ?_) rfl (by rfl) ?_ ?_; rotate_left; (focus (intro w hSw; (try dsimp only at hSw); go_simp; (try with_reducible rfl); done)); (try simp (maxSteps := 10000000) only [Act.put, List.setIfInBounds_toArray, List.set_cons_zero, List.set_cons_succ]))
            iterate 12 (refine ⟨_, undef, rfl, .inr ⟨by rfl, rfl⟩, ?_⟩; (try simp (maxSteps := 10000000) only [Act.put, List.setIfInBounds_toArray, List.set_cons_zero, List.set_cons_succ]))
            (refine tree_take (v := ?_) rfl (by rfl) ?_ ?_; rotate_left; (focus (intro w hSw; (try dsimp only at hSw); go_simp; (try with_reducible rfl); done)); (try simp (maxSteps := 10000000) only [Act.put, List.setIfInBounds_toArray, List.set_cons_zero, List.set_cons_succ]))
            refine tree_end ?_
            have HW := Lib.hid (HBR.out.trans (hbA.mono hsr))
            clear hbA hb0 HMK cS
            go_wp2_with fail
            go_ret
            exact ⟨rfl, HW.out⟩
          · cases bN
            · have hx := hres.out rfl
              subst hx
              clear hres hone
              go_upto_region 6 with fail
              refine region_tree (fun W : World => (W.cell? ⟨b1, o1 + k * 3, none⟩ = some (.int .i64 ps) ∧ W.cell? ⟨b1, o1 + k * 3 + 1, none⟩ = some (.slice p1 lo c1) ∧ W.cell? ⟨b1, o1 + k * 3 + 2, none⟩ = some (.slice p2 ln c2)) ∧ W.cell? ⟨b2, o2 + k * 3, none⟩ = some (.int .i64 ps) ∧ W.cell? ⟨b2, o2 + k * 3 + 1, none⟩ = some (.slice p3 lo' c3) ∧ W.cell? ⟨b2, o2 + k * 3 + 2, none⟩ = some (.slice p4 ln' c4)) (.take 0 (.take 1 (.take 2 (.take 3 (.take 4 (.take 5 (.take 6 (.take 7 (.take 8 (.take 9 (.take 10 (.take 11 (.take 12 (.take 13 (.take 14 (.take 15 (.take 16 (.take 17 (.take 18 (.take 19 (.take 20 (.take 21 (.call 22 (.take 23 (.take 24 (.take 25 (.take 26 (.take 27 (.take 28 (.take 29 (.take 30 (.take 31 (.take 32 (.take 33 (.take 34 (.take 35 (.call 36 (.take 37 (.take 38 .done))))))))))))))))))))))))))))))))))))))) (by kernel_rfl) (by kernel_rfl) (by kernel_rfl) (HMK.out _ hb0).2 ?_
              iterate 22 (refine tree_take (v := ?_) rfl (by rfl) ?_ ?_; rotate_left; (focus (intro w hSw; (try dsimp only at hSw); go_simp; (try with_reducible rfl); done)); (try simp (maxSteps := 10000000) only [Act.put, List.setIfInBounds_toArray, List.set_cons_zero, List.set_cons_succ]))
              refine tree_call ?_
              refine call_at rfl (by rfl) (fun K hK => ?_)
              go_simp
              refine (cS _ hb0).mono ?_
              rintro e wA ⟨rfl, hbm⟩
              have hbA : Below wr.heap.size wr wA := Below.trans hb0 (hbm.mono hb0.size)
              go_wp2_with fail
              refine hK.out _ _ (HMK.out _ hbA).2 (fun _ => ?_)
              clear hK hbm
              (try simp (maxSteps := 10000000) only [Act.put, List.setIfInBounds_toArray, List.set_cons_zero, List.set_cons_succ])
              iterate 13 (refine tree_take (v := ?_) rfl (by rfl) ?_ ?_; rotate_left; (focus (intro w hSw; (try dsimp only at hSw); go_simp; (try with_reducible rfl); done)); (try simp (maxSteps := 10000000) only [Act.put, List.setIfInBounds_toArray, List.set_cons_zero, List.set_cons_succ]))
              refine tree_call ?_
              refine call_at rfl (by rfl) (fun K hK => ?_)
              go_simp
              refine (cT _ hbA).mono ?_
              rintro e wB ⟨rfl, hbm⟩
              have hbB : Below wr.heap.size wr wB := Below.trans hbA (hbm.mono hbA.size)
              go_wp2_with fail
              refine hK.out _ _ (HMK.out _ hbB).2 (fun _ => ?_)
              clear hK hbm
              (try simp (maxSteps := 10000000) only [Act.put, List.setIfInBounds_toArray, List.set_cons_zero, List.set_cons_succ])
              iterate 2 (refine tree_take (v := ?_) rfl (by rfl) ?_ ?_; rotate_left; (focus (intro w hSw; (try dsimp only at hSw); go_simp; (try with_reducible rfl); done)); (try simp (maxSteps := 10000000) only [Act.put, List.setIfInBounds_toArray, List.set_cons_zero, List.set_cons_succ]))
              refine tree_end ?_
              have HW := Lib.hid (HBR.out.trans (hbB.mono hsr))
              clear hbA hbB hb0 HMK cS cT
              go_wp2_with fail
              go_ret
              exact ⟨rfl, HW.out⟩
            · have hx := Lib.hid (hone.out rfl)
              clear hres hone
              go_upto_region 6 with fail
              refine region_tree (fun W : World => (W.cell? ⟨b1, o1 + k * 3, none⟩ = some (.int .i64 ps) ∧ W.cell? ⟨b1, o1 + k * 3 + 1, none⟩ = some (.slice p1 lo c1) ∧ W.cell? ⟨b1, o1 + k * 3 + 2, none⟩ = some (.slice p2 ln c2)) ∧ W.cell? ⟨b2, o2 + k * 3, none⟩ = some (.int .i64 ps) ∧ W.cell? ⟨b2, o2 + k * 3 + 1, none⟩ = some (.slice p3 lo' c3) ∧ W.cell? ⟨b2, o2 + k * 3 + 2, none⟩ = some (.slice p4 ln' c4)) (.take 0 (.take 1 (.take 2 (.take 3 (.take 4 (.take 5 (.take 6 (.take 7 (.take 8 (.take 9 (.take 10 (.take 11 (.take 12 (.take 13 (.take 14 (.take 15 (.take 16 (.take 17 (.take 18 (.take 19 (.take 20 (.take 21 (.call 22 (.take 23 (.take 24 (.take 25 (.take 26 (.take 27 (.take 28 (.take 29 (.take 30 (.take 31 (.take 32 (.take 33 (.take 34 (.take 35 (.call 36 (.take 37 (.take 38 .done))))))))))))))))))))))))))))))))))))))) (by kernel_rfl) (by kernel_rfl) (by kernel_rfl) (HMK.out _ hb0).2 ?_
              iterate 22 (refine tree_take (v := ?_) rfl (by rfl) ?_ ?_; rotate_left; (focus (intro w hSw; (try dsimp only at hSw); go_simp; (try with_reducible rfl); done)); (try simp (maxSteps := 10000000) only [Act.put, List.setIfInBounds_toArray, List.set_cons_zero, List.set_cons_succ]))
              refine tree_call ?_
              refine call_at rfl (by rfl) (fun K hK => ?_)
              go_simp
              refine (cS _ hb0).mono ?_
              rintro e wA ⟨rfl, hbm⟩
              have hbA : Below wr.heap.size wr wA := Below.trans hb0 (hbm.mono hb0.size)
              go_wp2_with fail
              refine hK.out _ _ (HMK.out _ hbA).2 (fun _ => ?_)
              clear hK hbm
              (try simp (maxSteps := 10000000) only [Act.put, List.setIfInBounds_toArray, List.set_cons_zero, List.set_cons_succ])
              iterate 13 (refine tree_take (v := ?_) rfl (by rfl) ?_ ?_; rotate_left; (focus (intro w hSw; (try dsimp only at hSw); go_simp; (try with_reducible rfl); done)); (try simp (maxSteps := 10000000) only [Act.put, List.setIfInBounds_toArray, List.set_cons_zero, List.set_cons_succ]))
              refine tree_call ?_
              refine call_at rfl (by rfl) (fun K hK => ?_)
              go_simp
              refine (cT _ hbA).mono ?_
              rintro e wB ⟨rfl, hbm⟩
              have hbB : Below wr.heap.size wr wB := Below.trans hbA (hbm.mono hbA.size)
              go_wp2_with fail
              refine hK.out _ _ (HMK.out _ hbB).2 (fun _ => ?_)
              clear hK hbm
              (try simp (maxSteps := 10000000) only [Act.put, List.setIfInBounds_toArray, List.set_cons_zero, List.set_cons_succ])
              iterate 2 (refine tree_take (v := ?_) rfl (by rfl) ?_ ?_; rotate_left; (focus (intro w hSw; (try dsimp only at hSw); go_simp; (try with_reducible rfl); done)); (try simp (maxSteps := 10000000) only [Act.put, List.setIfInBounds_toArray, List.set_cons_zero, List.set_cons_succ]))
              refine tree_end ?_
              have HW := Lib.hid (HBR.out.trans (hbB.mono hsr))
              clear hbA hbB hb0 HMK cS cT
              go_wp2_with fail
              go_roundg (gk - 1)
              case rel => exact ⟨k + 1, by omega, by go_num, HW.out, hx.out⟩
              case measure => omega
        · rw [decide_eq_false hps, Bool.false_and] at hres
          have hx := hres.out rfl
          subst hx
          have hne : (ps != ps') = true := by rw [bne, beq_false_of_ne hps]; rfl
          clear hres hone cS cT
          go_upto_region 6 with fail
          refine region_tree (fun W : World => (W.cell? ⟨b1, o1 + k * 3, none⟩ = some (.int .i64 ps) ∧ W.cell? ⟨b1, o1 + k * 3 + 1, none⟩ = some (.slice p1 lo c1) ∧ W.cell? ⟨b1, o1 + k * 3 + 2, none⟩ = some (.slice p2 ln c2)) ∧ W.cell? ⟨b2, o2 + k * 3, none⟩ = some (.int .i64 ps') ∧ W.cell? ⟨b2, o2 + k * 3 + 1, none⟩ = some (.slice p3 lo' c3) ∧ W.cell? ⟨b2, o2 + k * 3 + 2, none⟩ = some (.slice p4 ln' c4)) (.take 0 (.take 1 (.take 2 (.take 3 (.take 4 (.take 5 (.take 6 (.take 7 (.take 8 (.take 9 (.take 10 (.take 11 (.take 12 (.take 13 (.take 14 (.take 15 (.take 16 (.take 17 (.take 18 (.take 19 (.take 20 (.take 21 (.take 22 (.take 23 (.take 24 (.take 25 (.take 26 (.take 27 (.take 28 (.take 29 (.take 30 (.take 31 (.take 32 (.take 33 (.take 34 (.take 35 (.take 36 (.take 37 (.take 38 .done))))))))))))))))))))))))))))))))))))))) (by kernel_rfl) (by kernel_rfl) (by kernel_rfl) (HMK.out _ hb0).2 ?_
          iterate 12 (refine tree_take (v := ?_) rfl (by rfl) ?_ ?_; rotate_left; (focus (intro w hSw; (try dsimp only at hSw); go_simp; (try with_reducible rfl); done)); (try simp (maxSteps := 10000000) only [Act.put, List.setIfInBounds_toArray, List.set_cons_zero, List.set_cons_succ]))
          iterate 12 (refine ⟨_, undef, rfl, .inr ⟨by rfl, rfl⟩, ?_⟩; (try simp (maxSteps := 10000000) only [Act.put, List.setIfInBounds_toArray, List.set_cons_zero, List.set_cons_succ]))
          iterate 2 (refine tree_take (v := ?_) rfl (by rfl) ?_ ?_; rotate_left; (focus (intro w hSw; (try dsimp only at hSw); go_simp; (try with_reducible rfl); done)); (try simp (maxSteps := 10000000) only [Act.put, List.setIfInBounds_toArray, List.set_cons_zero, List.set_cons_succ]))
          iterate 12 (refine ⟨_, undef, rfl, .inr ⟨by rfl, rfl⟩, ?_⟩; (try simp (maxSteps := 10000000) only [Act.put, List.setIfInBounds_toArray, List.set_cons_zero, List.set_cons_succ]))
          (refine tree_take (v := ?_) rfl (by rfl) ?_ ?_; rotate_left; (focus (intro w hSw; (try dsimp only at hSw); go_simp; (try with_reducible rfl); done)); (try simp (maxSteps := 10000000) only [Act.put, List.setIfInBounds_toArray, List.set_cons_zero, List.set_cons_succ]))
          refine tree_end ?_
          clear HMK hb0
          go_wp2_with fail
          go_ret
          exact ⟨rfl, Below.drew HBR.out⟩
      · obtain rfl : n = k := by omega
        have e : res = true := hall.out fun j h h' => heq.out j h h' (by have := HN.out; omega)
        subst e
        clear hall hhit heq
        go_wp2_with fail
        go_ret
        exact ⟨rfl, hbr⟩
  · have e : sameL xs ys = false := sameL_len xs ys (by rw [hn, hm]; exact hnm)
    rw [e]
    have hb : ((n : Int) != (m : Int)) = true := by rw [bne, beq_false_of_ne (by omega)]; rfl
    have hb2 : ((n : Int) == (m : Int)) = false := beq_false_of_ne (by omega)
    clear e hn hm hp hq
    go_enter Try.func38, Try.ntmps38
    go_wp2_with fail
    go_ret
    exact ⟨rfl, Below.refl _ _⟩
set_option maxRecDepth 100000 in
theorem sameC_any (W : World) (x y : Hu) (p1 p2 p3 p4 : Option Addr) (c1 c2 c3 c4 : Nat) (r1 : TxP W p1 c1 x.old) (r2 : TxP W p2 c2 x.new) (r3 : TxP W p3 c3 y.old) (r4 : TxP W p4 c4 y.new) (z1 : x.old.length ≤ 8796093021952) (z2 : x.new.length ≤ 8796093021952) (z3 : y.old.length ≤ 8796093021952) (z4 : y.new.length ≤ 8796093021952) :
    Calls Try.prog 71 #[.agg #[.int .i64 x.pos, .slice p1 x.old.length c1, .slice p2 x.new.length c2], .agg #[.int .i64 y.pos, .slice p3 y.old.length c3, .slice p4 y.new.length c4]] W fun e w' => e = .returned (.bool (sameH x y)) ∧ Below W.heap.size W w' := by
  have cS := fun V (hb : Below W.heap.size W V) => equal_any V p1 p3 x.old.length y.old.length c1 c3 x.old y.old (r1.1.later hb) (r3.1.later hb) rfl rfl (by omega) (by omega)
  have cT := fun V (hb : Below W.heap.size W V) => equal_any V p2 p4 x.new.length y.new.length c2 c4 x.new y.new (r2.1.later hb) (r4.1.later hb) rfl rfl (by omega) (by omega)
  unfold sameH
  clear r1 r2 r3 r4
  generalize x.pos = ps at *
  generalize y.pos = ps' at *
  generalize decide (x.old = y.old) = bO at *
  generalize decide (x.new = y.new) = bN at *
  generalize x.old.length = lo at *
  generalize y.old.length = lo' at *
  generalize x.new.length = ln at *
  generalize y.new.length = ln' at *
  have hb2 : Below W.heap.size W ((W.alloc (.cells #[.int .i64 ps, .slice p1 lo c1, .slice p2 ln c2] 47)).alloc (.cells #[.int .i64 ps', .slice p3 lo' c3, .slice p4 ln' c4] 47)) := ((Below.refl _ _).alloc (Nat.le_refl _) _).alloc (by simp) _
  have x1 := boxU_new W ps p1 lo c1 p2 ln c2 W.heap.size
  have x2 := boxU_new (W.alloc (.cells #[.int .i64 ps, .slice p1 lo c1, .slice p2 ln c2] 47)) ps' p3 lo' c3 p4 ln' c4 (W.heap.size + 1) (by simp)
  have x1' := x1.later ((Below.refl _ _).alloc (Nat.le_refl _) (.cells #[.int .i64 ps', .slice p3 lo' c3, .slice p4 ln' c4] 47))
  by_cases hps : ps = ps'
  · subst hps
    rw [decide_eq_true rfl, Bool.true_and]
    go_enter Try.func71, Try.ntmps71
    go_upto_region 1 with fail
    generalize (W.alloc (.cells #[.int .i64 ps, .slice p1 lo c1, .slice p2 ln c2] 47)).alloc (.cells #[.int .i64 ps, .slice p3 lo' c3, .slice p4 ln' c4] 47) = W2 at *
    have HX1 := Lib.hid x1'
    have HX2 := Lib.hid x2
    have HB2 := Lib.hid hb2
    have hs2 := hb2.size
    obtain ⟨y0, y1, y2⟩ := x1'.cells
    obtain ⟨y3, y4, y5⟩ := x2.cells
    have cS1 := cS W2 hb2
    clear x1 x1' x2 hb2 cS
    go_wp2_with fail
    refine cS1.mono ?_
    rintro e w3 ⟨rfl, hb3⟩
    have hbw := HB2.out.trans (hb3.mono hs2)
    have HBW := Lib.hid hbw
    have hsw := hbw.size
    obtain ⟨y0, y1, y2⟩ := (HX1.out.later hb3).cells
    obtain ⟨y3, y4, y5⟩ := (HX2.out.later hb3).cells
    have cT1 := cT w3 hbw
    clear cS1 cT hb3 hbw
    cases bO
    · clear cT1
      go_wp2_with fail
      go_ret
      exact ⟨rfl, HBW.out⟩
    · go_wp2_with fail
      refine cT1.mono ?_
      rintro e w4 ⟨rfl, hb4⟩
      have HBW4 := Lib.hid (HBW.out.trans (hb4.mono hsw))
      clear cT1 hb4
      go_wp2_with fail
      go_ret
      exact ⟨by simp, HBW4.out⟩
  · rw [decide_eq_false hps, Bool.false_and]
    have hne : ((ps : Int) == ps') = false := beq_false_of_ne hps
    clear cS cT x1 x2 x1'
    have HB2 := Lib.hid hb2
    clear hb2
    go_enter Try.func71, Try.ntmps71
    go_wp2_with fail
    go_ret
    exact ⟨rfl, HB2.out⟩
end Go.Proofs.Ytjmnbnlhahbcjaa
