/- scrimref06.Of, Hidden: by contracts. -/
import Derived.Test.YtdpikdkhemhmdaaViOf
namespace Go.Proofs.Ytdpikdkhemhmdaa
open Go Go.RowKit

set_option maxRecDepth 100000 in
set_option maxHeartbeats 4000000 in
theorem refOf_any (w : World) (p : Option Addr) (n c : Nat) (xs : List Li) (hn : xs.length = n) (hnm : n ≤ 3518437208883) (hr : LiRow w p xs) (hok : ∀ x ∈ xs, x.u < 18446744073709551616) (a : Nat) (ha : a < 18446744073709551616) :
    Calls Try.prog 16 #[.slice p n c, .int .u64 a] w (GivesLi w (xs.filter (seenB a))) := by
  obtain ⟨i0, hi, hz0, hz1, hz2⟩ := li_parts
  have HN := Lib.hid hn
  have HR := Lib.hid hr
  have HK := Lib.hid hok
  have HS := Lib.hid (fun k h => filter_step (seenB a) (xs := xs) (k := k) h)
  have HLe := Lib.hid (fun k => List.length_filter_le (seenB a) (xs.take k))
  clear hn hr hok
  go_enter Try.func16, Try.ntmps16
  go_wp2
  go_loopg [5, 6] n (fun g u vi wr => ∃ k : Nat, k + g = n ∧ vi = .int .i64 k ∧ Below w.heap.size w wr ∧ Hid (wr.ownsRow w.heap.size 26 4 u ((xs.take k).filter (seenB a)).length (liCells ((xs.take k).filter (seenB a)))))
  case atStart => exact ⟨0, by omega, rfl, Below.refl _ _, by rw [List.take_zero]; exact World.ownsRow_nil _ _ _ _⟩
  case round =>
    obtain ⟨k, hk, rfl, hbr, HO⟩ := hrel
    have hsr := hbr.size
    by_cases hlt : k < n
    · have hlt' : k < xs.length := by rw [HN.out]; exact hlt
      obtain ⟨b1, o1, rfl, _, h1c⟩ := HR.out.at k hlt'
      obtain ⟨g0, g1, g2, g3⟩ := h1c wr hbr
      have hxu := HK.out _ (List.getElem_mem hlt')
      have hST := Lib.hid (HS.out k hlt')
      have hle : ((xs.take k).filter (seenB a)).length ≤ k := Nat.le_trans (HLe.out k) (by rw [List.length_take]; omega)
      have hk0 : (0 : Int) ≤ (k : Int) := by omega
      have hkI : (k : Int) < (n : Int) := by omega
      generalize xs[k] = x at *
      generalize (xs.take k).filter (seenB a) = ys at *
      have cS := fun W => refSeen_any a x W ha hxu
      unfold Li.agg at cS
      have HB := Lib.hid hbr
      clear h1c hbr
      cases hf : seenB a x with
      | false =>
        rw [hf] at hST cS
        have hST2 : Hid ((xs.take (k + 1)).filter (seenB a) = ys) := by have := hST.out; rw [if_neg (by simp), List.append_nil] at this; exact this
        clear hST
        go_wp2_with (first
          | (go_at_call 24; refine (cS _).mono ?_; rintro e w2 ⟨rfl, hb2⟩))
        have hbe : Below w.heap.size w w2 := HB.out.trans (hb2.mono hsr)
        have HO2 := Lib.hid (row_later HO.out hb2)
        clear cS hb2 HO
        go_roundg (gk - 1)
        case rel => exact ⟨k + 1, by omega, by go_num, hbe, by rw [hST2.out]; exact HO2.out⟩
        case measure => omega
      | true =>
        rw [hf] at hST cS
        have hST2 : Hid ((xs.take (k + 1)).filter (seenB a) = ys ++ [x]) := by have := hST.out; rw [if_pos rfl] at this; exact this
        have HC := Lib.hid (Li.vals_one x)
        clear hST
        go_wp2_with (first
          | (go_at_call 24; refine (cS _).mono ?_; rintro e w2 ⟨rfl, hb2⟩; have ho' := row_later HO.out hb2; have hsz2 := hb2.size; have l0 := (hb2.cell (p := ⟨b1, o1 + k * 4, none⟩) (World.block_lt_of_cell? _ _ g0)).trans g0; have l1 := (hb2.cell (p := ⟨b1, o1 + k * 4 + 1, none⟩) (World.block_lt_of_cell? _ _ g1)).trans g1; have l2 := (hb2.cell (p := ⟨b1, o1 + k * 4 + 2, none⟩) (World.block_lt_of_cell? _ _ g2)).trans g2; have l3 := (hb2.cell (p := ⟨b1, o1 + k * 4 + 3, none⟩) (World.block_lt_of_cell? _ _ g3)).trans g3)
          | (at_builtin; refine wpList_append_own _ rfl _ _ 22 rfl w.heap.size 26 i0 (.agg #[.int .u64 0, .int .i64 0, .int .i64 0, .string ⟨#[]⟩]) 4 40 Try.underlying22 hi hz0 hz1 hz2 rfl (by decide) _ _ _ rfl (ho'.alloc _) ⟨w2.heap.size, 0, none⟩ 1 1 x.vals rfl rfl (cells_four w2 x _) HC.out (by unfold maxLen; omega) (by omega) (by simp; omega) ?_))
        intro u' w3 hown' hgrow _
        have hb3 : Below w.heap.size w w3 := ((HB.out.trans (hb2.mono hsr)).alloc (by omega) _).grown hgrow (by simp; omega) (fun g hg => (ho'.lt g hg).1)
        have HO2 : Hid (w3.ownsRow w.heap.size 26 4 u' (ys ++ [x]).length (liCells (ys ++ [x]))) := by
          show w3.ownsRow _ _ _ _ _ _
          rw [liCells_snoc, List.length_append]; exact hown'
        clear ho' hown' hgrow cS hb2 l0 l1 l2 l3 HO
        go_wp2_with fail
        go_roundg (gk - 1)
        case rel => exact ⟨k + 1, by omega, by go_num, hb3, by rw [hST2.out]; exact HO2.out⟩
        case measure => omega
    · obtain rfl : k = n := by omega
      have hall : xs.take k = xs := by rw [← HN.out]; exact List.take_length
      have HO2 := Lib.hid HO.out
      rw [hall] at HO2
      have HB := Lib.hid hbr
      clear HO hbr hall
      go_wp2_with fail
      go_ret
      exact gives_of (Nat.le_refl _) HB.out ⟨_, rfl, HO2.out⟩
set_option maxRecDepth 100000 in
set_option maxHeartbeats 4000000 in
theorem refHidden_any (w : World) (p : Option Addr) (n c : Nat) (xs : List Li) (hn : xs.length = n) (hnm : n ≤ 3518437208883) (hr : LiRow w p xs) (hok : ∀ x ∈ xs, x.u < 18446744073709551616) (a : Nat) (ha : a < 18446744073709551616) :
    Calls Try.prog 17 #[.slice p n c, .int .u64 a] w (GivesLi w (xs.filter (fun x => !seenB a x))) := by
  obtain ⟨i0, hi, hz0, hz1, hz2⟩ := li_parts
  have HN := Lib.hid hn
  have HR := Lib.hid hr
  have HK := Lib.hid hok
  have HS := Lib.hid (fun k h => filter_step (fun x => !seenB a x) (xs := xs) (k := k) h)
  have HLe := Lib.hid (fun k => List.length_filter_le (fun x => !seenB a x) (xs.take k))
  clear hn hr hok
  go_enter Try.func17, Try.ntmps17
  go_wp2
  go_loopg [5, 6] n (fun g u vi wr => ∃ k : Nat, k + g = n ∧ vi = .int .i64 k ∧ Below w.heap.size w wr ∧ Hid (wr.ownsRow w.heap.size 26 4 u ((xs.take k).filter (fun x => !seenB a x)).length (liCells ((xs.take k).filter (fun x => !seenB a x)))))
  case atStart => exact ⟨0, by omega, rfl, Below.refl _ _, by rw [List.take_zero]; exact World.ownsRow_nil _ _ _ _⟩
  case round =>
    obtain ⟨k, hk, rfl, hbr, HO⟩ := hrel
    have hsr := hbr.size
    by_cases hlt : k < n
    · have hlt' : k < xs.length := by rw [HN.out]; exact hlt
      obtain ⟨b1, o1, rfl, _, h1c⟩ := HR.out.at k hlt'
      obtain ⟨g0, g1, g2, g3⟩ := h1c wr hbr
      have hxu := HK.out _ (List.getElem_mem hlt')
      have hST := Lib.hid (HS.out k hlt')
      have hle : ((xs.take k).filter (fun x => !seenB a x)).length ≤ k := Nat.le_trans (HLe.out k) (by rw [List.length_take]; omega)
      have hk0 : (0 : Int) ≤ (k : Int) := by omega
      have hkI : (k : Int) < (n : Int) := by omega
      generalize xs[k] = x at *
      generalize (xs.take k).filter (fun x => !seenB a x) = ys at *
      have cS := fun W => refSeen_any a x W ha hxu
      unfold Li.agg at cS
      have HB := Lib.hid hbr
      clear h1c hbr
      cases hf : seenB a x with
      | true =>
        simp only [hf, Bool.not_true] at hST
        rw [hf] at cS
        have hST2 : Hid ((xs.take (k + 1)).filter (fun x => !seenB a x) = ys) := by have := hST.out; rw [if_neg (by simp), List.append_nil] at this; exact this
        clear hST
        go_wp2_with (first
          | (go_at_call 24; refine (cS _).mono ?_; rintro e w2 ⟨rfl, hb2⟩))
        have hbe : Below w.heap.size w w2 := HB.out.trans (hb2.mono hsr)
        have HO2 := Lib.hid (row_later HO.out hb2)
        clear cS hb2 HO
        go_roundg (gk - 1)
        case rel => exact ⟨k + 1, by omega, by go_num, hbe, by rw [hST2.out]; exact HO2.out⟩
        case measure => omega
      | false =>
        simp only [hf, Bool.not_false] at hST
        rw [hf] at cS
        have hST2 : Hid ((xs.take (k + 1)).filter (fun x => !seenB a x) = ys ++ [x]) := by have := hST.out; rw [if_pos trivial] at this; exact this
        have HC := Lib.hid (Li.vals_one x)
        clear hST
        go_wp2_with (first
          | (go_at_call 24; refine (cS _).mono ?_; rintro e w2 ⟨rfl, hb2⟩; have ho' := row_later HO.out hb2; have hsz2 := hb2.size; have l0 := (hb2.cell (p := ⟨b1, o1 + k * 4, none⟩) (World.block_lt_of_cell? _ _ g0)).trans g0; have l1 := (hb2.cell (p := ⟨b1, o1 + k * 4 + 1, none⟩) (World.block_lt_of_cell? _ _ g1)).trans g1; have l2 := (hb2.cell (p := ⟨b1, o1 + k * 4 + 2, none⟩) (World.block_lt_of_cell? _ _ g2)).trans g2; have l3 := (hb2.cell (p := ⟨b1, o1 + k * 4 + 3, none⟩) (World.block_lt_of_cell? _ _ g3)).trans g3)
          | (at_builtin; refine wpList_append_own _ rfl _ _ 22 rfl w.heap.size 26 i0 (.agg #[.int .u64 0, .int .i64 0, .int .i64 0, .string ⟨#[]⟩]) 4 40 Try.underlying22 hi hz0 hz1 hz2 rfl (by decide) _ _ _ rfl (ho'.alloc _) ⟨w2.heap.size, 0, none⟩ 1 1 x.vals rfl rfl (cells_four w2 x _) HC.out (by unfold maxLen; omega) (by omega) (by simp; omega) ?_))
        intro u' w3 hown' hgrow _
        have hb3 : Below w.heap.size w w3 := ((HB.out.trans (hb2.mono hsr)).alloc (by omega) _).grown hgrow (by simp; omega) (fun g hg => (ho'.lt g hg).1)
        have HO2 : Hid (w3.ownsRow w.heap.size 26 4 u' (ys ++ [x]).length (liCells (ys ++ [x]))) := by
          show w3.ownsRow _ _ _ _ _ _
          rw [liCells_snoc, List.length_append]; exact hown'
        clear ho' hown' hgrow cS hb2 l0 l1 l2 l3 HO
        go_wp2_with fail
        go_roundg (gk - 1)
        case rel => exact ⟨k + 1, by omega, by go_num, hb3, by rw [hST2.out]; exact HO2.out⟩
        case measure => omega
    · obtain rfl : k = n := by omega
      have hall : xs.take k = xs := by rw [← HN.out]; exact List.take_length
      have HO2 := Lib.hid HO.out
      rw [hall] at HO2
      have HB := Lib.hid hbr
      clear HO hbr hall
      go_wp2_with fail
      go_ret
      exact gives_of (Nat.le_refl _) HB.out ⟨_, rfl, HO2.out⟩
end Go.Proofs.Ytdpikdkhemhmdaa
