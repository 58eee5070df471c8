/- view.where's iterator, by the contract of a range over a function: what is asked for, in its order, with its places. -/
import Derived.Test.YtdpikdkhemhmdaaViSeen
import Derived.Test.YtdpikdkhemhmdaaIdCopyL
import Derived.RangeFuncNested
import Derived.RangeFuncBound
import Derived.RangeFuncCalls
import Derived.RangeFuncLeaves
import Derived.Shelf.Abstract
import Derived.OwnWalkIn
import Derived.TacticsInMore
import Derived.LoopNIn
import Derived.LoopIn
namespace Go.Proofs.Ytdpikdkhemhmdaa
open Go Go.RowKit Go.Shelf

attribute [local go_sem] Oper.semAt_some

theorem below_grown {w w' : World} (h : Below w.heap.size w w') : w.grownBy w' none := ⟨h.os, h.tape, h.output, h.size, fun k hk _ => h.block k hk⟩
theorem LiAt.keepX {B n : Nat} {w W : World} {b o : Nat} {x : Li} (h : LiAt w b o x) (hk : KeepX B n w W) (hb : b < n) (hB : b ≠ B) : LiAt W b o x :=
  ⟨(hk.cell (p := ⟨b, o, none⟩) hb hB).trans h.1, (hk.cell (p := ⟨b, o + 1, none⟩) hb hB).trans h.2.1, (hk.cell (p := ⟨b, o + 2, none⟩) hb hB).trans h.2.2.1, (hk.cell (p := ⟨b, o + 3, none⟩) hb hB).trans h.2.2.2⟩
set_option maxRecDepth 100000 in
set_option maxHeartbeats 4000000 in
theorem where1_in (fu : Nat) (hfu : 1 ≤ fu) (l bx bq : Nat) (p : Option Addr) (n c : Nat) (xs : List Li) (hn : xs.length = n) (hnm : n ≤ 3518437208883) (g : Nat) (cb : Array Value) (f : Li → Bool) (B : Nat) (w0 : World) (eg : ∀ args W, (callFunc g args).run Try.prog W = .ok (.enter g args) W)
    (hask : AsksL g cb f (KeepX B w0.heap.size w0)) (hok : ∀ x ∈ xs, x.u < 18446744073709551616) (J Jx : List Ent → World → Prop)
    (hY : ∀ pre y W, J pre W → pre.length < n → YieldAt Fence.wide (fu - 1) Try.prog l (encE y) W fun e W' => (e = .returned (.bool true) ∧ J (pre ++ [y]) W' ∧ KeepX B w0.heap.size W W') ∨ (e = .returned (.bool false) ∧ Jx (pre ++ [y]) W'))
    (W : World) (hJ : AbidesFrom W.heap.size J) (hbx : W.cell? ⟨bx, 0, none⟩ = some (.slice p n c)) (hbq : w0.cell? ⟨bq, 0, none⟩ = some (.func (.func g) #[] cb)) (hq : bq < w0.heap.size) (hqB : bq ≠ B) (hW0 : KeepX B w0.heap.size w0 W)
    (hat : ∀ i (h : i < xs.length), ∃ b off, p = some ⟨b, off, none⟩ ∧ b < w0.heap.size ∧ b ≠ B ∧ LiAt w0 b (off + i * 4) xs[i]) (h0 : J [] W) :
    CallsIn Fence.wide fu Try.prog 66 #[.func (.yield l) #[] #[], .pointer (some ⟨bx, 0, none⟩), .pointer (some ⟨bq, 0, none⟩)] W fun e W' => (∃ v, e = .returned v) ∧
      ((∃ ys, ys = entF f xs ∧ J ys W') ∨ (∃ pre, pre <+: entF f xs ∧ Jx pre W')) := by
  refine callsIn_of_wp Try.func66 rfl trivial ?_ rfl
  simp only [Try.ntmps66, List.size_toArray, List.length_cons, List.length_nil, Nat.reduceAdd, Nat.reduceSub, Array.replicate_succ, Array.replicate_zero, List.push_toArray, List.append_toArray, List.nil_append, List.cons_append]
  have HN := Lib.hid hn
  have HS := Lib.hid (fun k h => entT_step (f := f) (xs := xs) (k := k) h)
  have HL := Lib.hid (entT_len f xs)
  have HP := Lib.hid (entT_prefix f xs)
  have HA := Lib.hid (fun k h => entT_all f xs (k := k) h)
  have HY := Lib.hid hY
  have HJ := Lib.hid hJ
  have HAT := Lib.hid hat
  have H0 := Lib.hid h0
  have HQ := Lib.hid hask
  have HK := Lib.hid hok
  have HBQ := Lib.hid hbq
  clear hn hY hJ hat h0 hask hok hbq
  gi_wp2
  gi_loopw [8] (fun t wr => ∃ k : Nat, k ≤ n ∧ t = .int .i64 k ∧ Hid (J (entT f xs k) wr) ∧ Hid (KeepX B w0.heap.size w0 wr) ∧ W.heap.size ≤ wr.heap.size)
    (fun t _ => n - (intOf t).toNat)
  case atStart => exact ⟨0, by omega, rfl, H0.out, hW0, Nat.le_refl _⟩
  case round =>
    obtain ⟨k, hk, rfl, HJk, HB, hsz⟩ := hrel
    have hk0 : (0 : Int) ≤ (k : Int) := by omega
    by_cases hlt : k < n
    · have hlt' : k < xs.length := by rw [HN.out]; exact hlt
      have hkI : (k : Int) < (n : Int) := by omega
      obtain ⟨b1, o1, rfl, hb1, hbB, hc⟩ := HAT.out k hlt'
      obtain ⟨g0, g1, g2, g3⟩ := hc.keepX HB.out hb1 hbB
      have hxu := HK.out _ (List.getElem_mem hlt')
      have HTK := Lib.hid (HS.out k hlt')
      have hpl : (entT f xs k).length ≤ k := HL.out k
      have HPK := Lib.hid (HP.out (k + 1))
      have gq := (HB.out.cell (p := ⟨bq, 0, none⟩) hq hqB).trans HBQ.out
      have gql : bq < wr.heap.size := Nat.lt_of_lt_of_le hq HB.out.size
      generalize xs[k] = x at *
      unfold Li.agg at *
      have cA := fun W h => HQ.out x W hxu h
      dsimp only [Li.agg, List.push_toArray, List.append_toArray, List.nil_append, List.cons_append] at cA
      have HB2 := Lib.hid (HB.out.alloc (by have := HB.out.size; omega) (.cells #[.int .u64 x.u, .int .i64 x.n, .int .i64 x.r, .string x.s] 26))
      cases hfx : f x with
      | true =>
        rw [hfx] at HTK cA
        have HTK2 : Hid (entT f xs (k + 1) = entT f xs k ++ [⟨(k : Int), x⟩]) := by have := HTK.out; rw [if_pos rfl] at this; exact this
        clear HTK
        gi_wp2
        refine ⟨trivial, (callsIn_wide.2 (cA _ HB2.out)).mono ?_⟩
        rintro e w2 ⟨rfl, hb2⟩
        have hs2 := hb2.size
        have hs0 := HB2.out.size
        simp only [World.size_alloc] at hs2 hs0
        have HB3 := Lib.hid (HB2.out.trans (KeepX.of_below hb2 (by simp; omega)))
        have HJ2 : Hid (J (entT f xs k) w2) := HJ.out _ _ _ none (HJ.out _ _ _ none HJk.out (World.grownBy_alloc wr _ none) (fun r e => by cases e)) (below_grown hb2) (fun r e => by cases e)
        obtain ⟨fn, tmps, assign, body, hy, hR⟩ := HY.out _ ⟨(k : Int), x⟩ _ HJ2.out (by omega)
        unfold encE Li.agg at hy
        dsimp only at hy
        have q0 := (hb2.cell (p := ⟨wr.heap.size, 0, none⟩) (by simp)).trans (cells_four wr x 26 0 _ rfl)
        have q1 := (hb2.cell (p := ⟨wr.heap.size, 1, none⟩) (by simp)).trans (cells_four wr x 26 1 _ rfl)
        have q2 := (hb2.cell (p := ⟨wr.heap.size, 2, none⟩) (by simp)).trans (cells_four wr x 26 2 _ rfl)
        have q3 := (hb2.cell (p := ⟨wr.heap.size, 3, none⟩) (by simp)).trans (cells_four wr x 26 3 _ rfl)
        clear hc HJk cA hb2 HB HB2 g0 g1 g2 g3 gq
        gi_wp2
        refine hR.mono ?_
        rintro e W3 (⟨rfl, hJ3, hk3⟩ | ⟨rfl, hJx3⟩)
        · have HJ3 := Lib.hid hJ3
          have HB4 := Lib.hid (HB3.out.trans hk3)
          have hs3 : W.heap.size ≤ W3.heap.size := by have := hk3.size; omega
          clear hJ3 hk3 hR hy q0 q1 q2 q3 HB3
          gi_wp2
          go_roundw
          case rel => exact ⟨k + 1, by omega, by go_num, by show J _ _; rw [HTK2.out]; exact HJ3.out, HB4, hs3⟩
          case measure => simp [intOf]; omega
        · have HJx := Lib.hid hJx3
          clear hJx3 hR hy q0 q1 q2 q3
          gi_wp2
          refine bodyPost_ret (results_none rfl _ _ _) rfl ?_
          exact ⟨⟨_, rfl⟩, .inr ⟨_, by rw [← HTK2.out]; exact HPK.out, HJx.out⟩⟩
      | false =>
        rw [hfx] at HTK cA
        have HTK2 : Hid (entT f xs (k + 1) = entT f xs k) := by have := HTK.out; rw [if_neg (by simp), List.append_nil] at this; exact this
        clear HTK
        gi_wp2
        refine ⟨trivial, (callsIn_wide.2 (cA _ HB2.out)).mono ?_⟩
        rintro e w2 ⟨rfl, hb2⟩
        have hs2 := hb2.size
        have hs0 := HB2.out.size
        simp only [World.size_alloc] at hs2 hs0
        have HB3 := Lib.hid (HB2.out.trans (KeepX.of_below hb2 (by simp; omega)))
        have HJ2 : Hid (J (entT f xs k) w2) := HJ.out _ _ _ none (HJ.out _ _ _ none HJk.out (World.grownBy_alloc wr _ none) (fun r e => by cases e)) (below_grown hb2) (fun r e => by cases e)
        clear hc HJk cA hb2 HB HB2 g0 g1 g2 g3 gq
        gi_wp2
        refine ⟨fun _ h => (by cases h), ?_⟩
        gi_wp2
        go_roundw
        case rel => exact ⟨k + 1, by omega, by go_num, by show J _ _; rw [HTK2.out]; exact HJ2.out, HB3, by omega⟩
        case measure => simp [intOf]; omega
    · obtain rfl : k = n := by omega
      gi_wp2
      refine bodyPost_end (results_none rfl _ _ _) rfl ?_
      exact ⟨⟨_, rfl⟩, .inl ⟨_, rfl, by have := HJk.out; rw [HA.out _ (by rw [HN.out]; exact Nat.le_refl _)] at this; exact this⟩⟩
theorem where_stops (fu : Nat) (hfu : 1 ≤ fu) (bx bq : Nat) (p : Option Addr) (n c : Nat) (xs : List Li) (hn : xs.length = n) (hnm : n ≤ 3518437208883) (g : Nat) (cb : Array Value) (f : Li → Bool) (B : Nat) (w : World) (eg : ∀ args W, (callFunc g args).run Try.prog W = .ok (.enter g args) W)
    (hask : AsksL g cb f (KeepX B w.heap.size w)) (hok : ∀ x ∈ xs, x.u < 18446744073709551616) (hbx : w.cell? ⟨bx, 0, none⟩ = some (.slice p n c)) (hbl : bx < w.heap.size) (hbq : w.cell? ⟨bq, 0, none⟩ = some (.func (.func g) #[] cb)) (hq : bq < w.heap.size) (hqB : bq ≠ B)
    (hat : ∀ i (h : i < xs.length), ∃ b off, p = some ⟨b, off, none⟩ ∧ b < w.heap.size ∧ b ≠ B ∧ LiAt w b (off + i * 4) xs[i]) :
    SeqStopsK Fence.wide fu Try.prog 66 #[.pointer (some ⟨bx, 0, none⟩), .pointer (some ⟨bq, 0, none⟩)] encE (KeepX B w.heap.size) (fun ys => ys = entF f xs) (fun pre => pre <+: entF f xs) n w :=
  fun l J Jx W hW hJ _ hY h0 => where1_in fu hfu l bx bq p n c xs hn hnm g cb f B w eg hask hok J Jx hY W hJ ((hW.cell (p := ⟨bx, 0, none⟩) hbl).trans hbx) hbq hq hqB (KeepX.of_below hW (Nat.le_refl _)) hat h0
end Go.Proofs.Ytdpikdkhemhmdaa
