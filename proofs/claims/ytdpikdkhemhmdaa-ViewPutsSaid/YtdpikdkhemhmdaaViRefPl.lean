/- scrimref06.Places: by contract. -/
import Derived.Test.YtdpikdkhemhmdaaViOf
import Derived.Maps.AppendAt
namespace Go.Proofs.Ytdpikdkhemhmdaa
open Go Go.RowKit

set_option maxRecDepth 100000 in
set_option maxHeartbeats 4000000 in
theorem refPlaces_any (w : World) (p : Option Addr) (n c : Nat) (xs : List Li) (hn : xs.length = n) (hnm : n ≤ 3518437208883) (hr : LiRow w p xs) (hok : ∀ x ∈ xs, x.u < 18446744073709551616) (a : Nat) (ha : a < 18446744073709551616) :
    Calls Try.prog 18 #[.slice p n c, .int .u64 a] w (GivesNums w (places (seenB a) xs)) := by
  obtain ⟨i0, hi, hz0, hz1, hz2⟩ := info_parts intInfo
  have HN := Lib.hid hn
  have HR := Lib.hid hr
  have HK := Lib.hid hok
  have HS := Lib.hid (fun k h => placesT_step (f := seenB a) (xs := xs) (k := k) h)
  have HLe := Lib.hid (placesT_len (seenB a) xs)
  have HAl := Lib.hid (placesT_all (seenB a) xs (k := n) (by omega))
  clear hn hr hok
  go_enter Try.func18, Try.ntmps18
  go_wp2
  go_loopg [5, 6] n (fun g u vi wr => ∃ k : Nat, k + g = n ∧ vi = .int .i64 k ∧ Below w.heap.size w wr ∧ Hid (wr.ownsRow w.heap.size 3 1 u (placesT (seenB a) xs k).length (nums .i64 (placesT (seenB a) xs k))))
  case atStart => exact ⟨0, by omega, rfl, Below.refl _ _, World.ownsRow_nil _ _ _ _⟩
  case round =>
    obtain ⟨k, hk, rfl, hbr, HO⟩ := hrel
    have hsr := hbr.size
    by_cases hlt : k < n
    · have hlt' : k < xs.length := by rw [HN.out]; exact hlt
      obtain ⟨b1, o1, rfl, _, h1c⟩ := HR.out.at k hlt'
      obtain ⟨g0, g1, g2, g3⟩ := h1c wr hbr
      have hxu := HK.out _ (List.getElem_mem hlt')
      have hST := Lib.hid (HS.out k hlt')
      have hle : (placesT (seenB a) xs k).length ≤ k := HLe.out k
      have hk0 : (0 : Int) ≤ (k : Int) := by omega
      have hkI : (k : Int) < (n : Int) := by omega
      generalize xs[k] = x at *
      generalize placesT (seenB a) xs k = ys at *
      have cS := fun W => refSeen_any a x W ha hxu
      unfold Li.agg at cS
      have HB := Lib.hid hbr
      clear h1c hbr
      cases hf : seenB a x with
      | false =>
        rw [hf] at hST cS
        have hST2 : Hid (placesT (seenB a) xs (k + 1) = ys) := by have := hST.out; rw [if_neg (by simp), List.append_nil] at this; exact this
        clear hST
        go_wp2_with (first
          | (go_at_call 24; refine (cS _).mono ?_; rintro e w2 ⟨rfl, hb2⟩))
        have hbe : Below w.heap.size w w2 := HB.out.trans (hb2.mono hsr)
        have HO2 := Lib.hid (row_later HO.out hb2)
        clear cS hb2 HO
        go_roundg (gk - 1)
        case rel => exact ⟨k + 1, by omega, by go_num, hbe, by rw [hST2.out]; exact HO2.out⟩
        case measure => omega
      | true =>
        rw [hf] at hST cS
        have hST2 : Hid (placesT (seenB a) xs (k + 1) = ys ++ [(k : Int)]) := by have := hST.out; rw [if_pos rfl] at this; exact this
        clear hST
        go_wp2_with (first
          | (go_at_call 24; refine (cS _).mono ?_; rintro e w2 ⟨rfl, hb2⟩; have ho' := row_later HO.out hb2; have hsz2 := hb2.size)
          | (at_builtin; refine wpList_append_own _ rfl _ _ 28 rfl w.heap.size 3 i0 (.int .i64 0) 1 8 Try.underlying28 hi hz0 hz1 hz2 rfl (by decide) _ _ _ rfl (ho'.alloc _) ⟨w2.heap.size, 0, none⟩ 1 1 [.int .i64 k] rfl rfl (cell_one_new _ _ _) (by simp [Value.oneCell']) (by unfold maxLen; omega) (by omega) (by simp; omega) ?_))
        intro u' w3 hown' hgrow _
        have hb3 : Below w.heap.size w w3 := ((HB.out.trans (hb2.mono hsr)).alloc (by omega) _).grown hgrow (by simp; omega) (fun g hg => (ho'.lt g hg).1)
        have HO2 : Hid (w3.ownsRow w.heap.size 3 1 u' (ys ++ [(k : Int)]).length (nums .i64 (ys ++ [(k : Int)]))) := by
          show w3.ownsRow _ _ _ _ _ _
          unfold nums; rw [List.map_append, List.length_append]; exact hown'
        clear ho' hown' hgrow cS hb2 HO
        go_wp2_with fail
        go_roundg (gk - 1)
        case rel => exact ⟨k + 1, by omega, by go_num, hb3, by rw [hST2.out]; exact HO2.out⟩
        case measure => omega
    · obtain rfl : k = n := by omega
      have HO2 := Lib.hid HO.out
      rw [HAl.out] at HO2
      have HB := Lib.hid hbr
      clear HO hbr
      obtain ⟨p1, c1, rfl⟩ := own_slice HO2.out
      go_wp2_with fail
      go_ret
      exact ⟨HB.out, p1, c1, rfl, nums_row' HO2.out, HO2.out⟩
end Go.Proofs.Ytdpikdkhemhmdaa
