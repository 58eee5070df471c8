/- label's own Highest, walked. -/
import Derived.Test.YtglpkadpohbfmaaLbHiC
namespace Go.Proofs.Ytglpkadpohbfmaa
open Go.RowKit Go.Sort

theorem hi_labInfo : (Try.prog.info? 25).map (fun i => (i.zero, i.size, i.bytes)) = some (some (.int .u64 0), 1, 8) := by kernel_rfl
/-- The slice at p holds these labels. -/
def RowL (w : World) (p : Option Addr) (l : List Nat64) : Prop := ∀ i x, l[i]? = some x → ∃ b off, p = some ⟨b, off, none⟩ ∧ w.cell? ⟨b, off + i, none⟩ = some (encL x)
/-- What Highest leaves: the highest in a row of its own. -/
def HiRow (w : World) (l : List Nat64) (e : Ending) (w' : World) : Prop := ∃ v, e = .returned v ∧ Below w.heap.size w w' ∧ w'.ownsRow w.heap.size 25 1 v l.length (l.map encL)

set_option maxRecDepth 100000 in
set_option maxHeartbeats 4000000 in
theorem highest_any (w : World) (p : Option Addr) (n c : Nat) (l : List Nat64) (hp : RowL w p l) (hn : l.length = n) (hl : n ≤ 1000) :
    Calls Try.prog 6 #[.slice p n c] w (HiRow w (hiAll l)) := by
  obtain ⟨i0, hi, hz0, hz1, hz2⟩ := info_parts hi_labInfo
  have hfin : Hid (∀ v w', Below w.heap.size w w' → w'.ownsRow w.heap.size 25 1 v (hiAll (l.take n)).length ((hiAll (l.take n)).map encL) → HiRow w (hiAll l) (.returned v) w') := by
    intro v w' hb ho
    rw [List.take_of_length_le (by omega)] at ho
    exact ⟨v, rfl, hb, ho⟩
  have HN := Lib.hid hn
  have HP := Lib.hid hp
  clear hn hp
  go_enter Try.func6, Try.ntmps6
  go_wp2_with fail
  go_loopg [3, 8] n (fun g v i wr => ∃ (m : Nat), m + g = n ∧ i = .int .i64 m ∧ Below w.heap.size w wr ∧ Hid (wr.ownsRow w.heap.size 25 1 v (hiAll (l.take m)).length ((hiAll (l.take m)).map encL)))
  case atStart => exact ⟨0, by omega, rfl, Below.refl _ _, World.ownsRow_nil _ _ _ _⟩
  case round =>
    obtain ⟨m, hm, rfl, hbr, ho⟩ := hrel
    by_cases h0 : m < n
    · obtain ⟨x, hx⟩ : ∃ x, l[m]? = some x := ⟨l[m]'(by rw [HN.out]; exact h0), List.getElem?_eq_getElem _⟩
      obtain ⟨b, off, rfl, hcw⟩ := HP.out m x hx
      have hblt := World.block_lt_of_cell? w _ hcw
      have hcx : wr.cell? ⟨b, off + m, none⟩ = some (.int .u64 (x.val : Nat)) := (hbr.cell (p := ⟨b, off + m, none⟩) hblt).trans hcw
      have hst := Lib.hid (hi_step l m x hx)
      have hlen := hi_len l m
      have hbsz := hbr.size
      have ho0 := ho.out
      have hown1 := ho0.alloc (.cells #[.int .u64 (x.val : Nat)] 25)
      have hlt := ho0.lt
      clear ho hx hcw
      generalize hHd : hiAll (l.take m) = H at *
      have cC := hi_contains x wr.heap.size w.heap.size H _ (wr.alloc (.cells #[.int .u64 (x.val : Nat)] 25)) (by simp) (by simp [encL]) hown1 (by omega)
      have hmn : (m : Int) < (n : Int) := by omega
      cases hq : H.any fun b => belowB x.val b.val with
      | true =>
        rw [hq] at cC
        have HS : Hid (hiAll (l.take (m + 1)) = H) := by rw [hst.out]; unfold hiStep; rw [hq]; rfl
        have HO := Lib.hid hown1
        have hb2 : Below w.heap.size w (wr.alloc (.cells #[.int .u64 (x.val : Nat)] 25)) := hbr.alloc (by omega) _
        clear ho0 hst hfin hq hown1
        go_wp2_with (go_at_call 13; refine cC.mono ?_; rintro e w' ⟨rfl, q, rfl⟩)
        go_roundg (gk - 1)
        case rel =>
          refine ⟨m + 1, by omega, by go_num, below_drewN' hb2 q, ?_⟩
          rw [HS.out]; exact HO.out
        case measure => omega
      | false =>
        rw [hq] at cC
        have hb2 : Below w.heap.size w (wr.alloc (.cells #[.int .u64 (x.val : Nat)] 25)) := hbr.alloc (by omega) _
        have cD := fun q => hi_delete x wr.heap.size w.heap.size H _ w ((wr.alloc (.cells #[.int .u64 (x.val : Nat)] 25)).drewN q) (below_drewN' hb2 q) (by show wr.heap.size < (wr.alloc _).heap.size; simp) (fun g hg => (hlt g hg).2) (by simp [encL]) hown1 (by omega)
        have HS : Hid (hiAll (l.take (m + 1)) = (H.filter fun b => !belowB b.val x.val) ++ [x]) := by rw [hst.out]; unfold hiStep; rw [hq]; rfl
        have hfl := List.length_filter_le (fun b : Nat64 => !belowB b.val x.val) H
        generalize (H.filter fun b => !belowB b.val x.val) = K at *
        clear ho0 hst hfin hq hown1
        go_wp2_with (go_at_call 13; refine cC.mono ?_; rintro e w' ⟨rfl, q, rfl⟩)
        refine (cD q).mono ?_
        rintro e w3 ⟨v3, rfl, ho3, hb3, hc3, hs3⟩
        clear hs3
        unfold encL at hc3
        clear cD
        have hsz3 := hb3.size
        go_wp2_with (at_builtin; refine wpList_append_own _ rfl _ _ 23 rfl w.heap.size 25 i0 (.int .u64 0) 1 8 Try.underlying23 hi hz0 hz1 hz2 rfl (by decide) _ _ _ rfl (ho3.alloc _) ⟨w3.heap.size, 0, none⟩ 1 1 [.int .u64 (x.val : Nat)] rfl rfl ?c1 ?c2 ?c3 ?c4 ?c5 ?_)
        case c1 =>
          intro j u hj
          match j, hj with
          | 0, hj => simp at hj; subst hj; simp [Addr.add]
        case c2 => intro u hu; simp at hu; subst hu; rfl
        case c3 => unfold maxLen; omega
        case c4 => omega
        case c5 => simp; omega
        intro v' w4 hown' hgrow _
        have hb4 : Below w.heap.size w w4 := (hb3.alloc (by omega) _).grown hgrow (by simp; omega) (fun g hg => (ho3.lt g hg).1)
        have HO : Hid (w4.ownsRow w.heap.size 25 1 v' (K ++ [x]).length ((K ++ [x]).map encL)) := by
          rw [List.length_append, List.length_singleton, List.map_append]
          exact hown'
        clear ho3 hown' hgrow
        go_wp2_with fail
        go_roundg (gk - 1)
        case rel =>
          refine ⟨m + 1, by omega, by go_num, hb4, ?_⟩
          rw [HS.out]; exact HO.out
        case measure => omega
    · obtain rfl : m = n := by omega
      have HF := Lib.hid (hfin.out _ _ hbr ho.out)
      clear hfin ho
      go_wp2_with fail
      go_ret
      exact HF.out
end Go.Proofs.Ytglpkadpohbfmaa
