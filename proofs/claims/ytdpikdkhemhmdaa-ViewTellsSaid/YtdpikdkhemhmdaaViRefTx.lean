/- scrimref06.Texts, Strings: by contracts. -/
import Derived.Test.YtdpikdkhemhmdaaViTold
import Derived.Test.YtdpikdkhemhmdaaViLines
import Derived.Maps.AppendAt
namespace Go.Proofs.Ytdpikdkhemhmdaa
open Go Go.RowKit

def txT (xs : List Li) (k : Nat) : List Value := ((xs.take k).map (·.s)).map Value.string
set_option maxRecDepth 100000 in
set_option maxHeartbeats 4000000 in
theorem refTexts_any (w : World) (p : Option Addr) (n c : Nat) (xs : List Li) (hn : xs.length = n) (hnm : n ≤ 3518437208883) (hr : LiRow w p xs) :
    Calls Try.prog 22 #[.slice p n c] w (GivesTx w (xs.map (·.s))) := by
  obtain ⟨i0, hi, hz0, hz1, hz2⟩ := info_parts strInfo
  have HN := Lib.hid hn
  have HR := Lib.hid hr
  clear hn hr
  go_enter Try.func22, Try.ntmps22
  go_wp2
  go_loopg [3, 4] n (fun g u vi wr => ∃ k : Nat, k + g = n ∧ vi = .int .i64 k ∧ Below w.heap.size w wr ∧ Hid (wr.ownsRow w.heap.size 9 1 u k (txT xs k)))
  case atStart => exact ⟨0, by omega, rfl, Below.refl _ _, World.ownsRow_nil _ _ _ _⟩
  case round =>
    obtain ⟨k, hk, rfl, hbr, HO⟩ := hrel
    have hsr := hbr.size
    by_cases hlt : k < n
    · have hlt' : k < xs.length := by rw [HN.out]; exact hlt
      obtain ⟨b1, o1, rfl, _, h1c⟩ := HR.out.at k hlt'
      obtain ⟨g0, g1, g2, g3⟩ := h1c wr hbr
      have hsn : Hid (txT xs (k + 1) = txT xs k ++ [.string xs[k].s]) := by
        show txT xs (k + 1) = _
        unfold txT
        rw [List.take_succ_eq_append_getElem hlt', List.map_append, List.map_append]; rfl
      have hkI : (k : Int) < (n : Int) := by omega
      have hk0 : (0 : Int) ≤ (k : Int) := by omega
      generalize xs[k] = x at *
      have HB := Lib.hid hbr
      have ho' := HO.out
      clear h1c hbr HO
      go_wp2_with (first
        | (at_builtin; refine wpList_append_own _ rfl _ _ 30 rfl w.heap.size 9 i0 (.string ⟨#[]⟩) 1 16 Try.underlying30 hi hz0 hz1 hz2 rfl (by decide) _ _ _ rfl (ho'.alloc _) ⟨wr.heap.size, 0, none⟩ 1 1 [.string x.s] rfl rfl (cell_one_new _ _ _) (by simp [Value.oneCell']) (by unfold maxLen; omega) (by omega) (by simp; omega) ?_))
      intro u' w3 hown' hgrow _
      have hb3 : Below w.heap.size w w3 := (HB.out.alloc hsr _).grown hgrow (by simp; omega) (fun g hg => (ho'.lt g hg).1)
      have HO2 : Hid (w3.ownsRow w.heap.size 9 1 u' (k + 1) (txT xs (k + 1))) := by show w3.ownsRow _ _ _ _ _ _; rw [hsn.out]; exact hown'
      clear ho' hown' hgrow hsn
      go_wp2_with fail
      go_roundg (gk - 1)
      case rel => exact ⟨k + 1, by omega, by go_num, hb3, HO2⟩
      case measure => omega
    · obtain rfl : k = n := by omega
      have hall : xs.take k = xs := by rw [← HN.out]; exact List.take_length
      have HO2 := Lib.hid HO.out
      have HB := Lib.hid hbr
      have hl : (xs.map (·.s)).length = k := by rw [List.length_map]; exact HN.out
      have hro := HO2.out
      unfold txT at hro
      rw [hall] at hro
      rw [← hl] at hro
      obtain ⟨p1, c1, rfl, hrow⟩ := row_owned hro
      have HW := Lib.hid hrow
      have HL := Lib.hid hl
      have HRO := Lib.hid hro
      clear hro hrow hl HO2 HO hbr hall
      go_wp2_with fail
      go_ret
      exact ⟨HB.out, p1, c1, by rw [List.length_map]; rfl, HW.out, HRO.out⟩
set_option maxHeartbeats 1000000 in
theorem refStrings_any (w : World) (p q : Option Addr) (n m c d : Nat) (xs : List ByteArray) (hp : StrRow w p xs) (hq : StrRow w q xs) (hn : xs.length = n) (hm : xs.length = m) (hl : xs.length ≤ 3518437208883) :
    Calls Try.prog 21 #[.slice p n c, .slice q m d] w fun e w' => e = .returned (.bool true) ∧ Below w.heap.size w w' := by
  obtain rfl : n = m := hn.symm.trans hm
  have HN := Lib.hid hn
  have hn1 : n ≤ 3518437208883 := by omega
  clear hn hm hl
  go_enter Try.func21, Try.ntmps21
  go_wp2_with fail
  go_loopw [5] (fun i wr => ∃ k : Nat, k ≤ n ∧ i = .int .i64 k ∧ Below w.heap.size w wr) (fun i _ => n - (intOf i).toNat)
  case atStart => exact ⟨0, by omega, rfl, Below.refl _ _⟩
  case round =>
    obtain ⟨k, hk, rfl, hbr⟩ := hrel
    by_cases hlt : k < n
    · have hlt' : k < xs.length := by rw [HN.out]; exact hlt
      obtain ⟨b1, o1, rfl, h1c⟩ := hp.at k hlt'
      obtain ⟨b2, o2, rfl, h2c⟩ := hq.at k hlt'
      have g1 := h1c wr hbr
      have g2 := h2c wr hbr
      generalize xs[k] = x at *
      have hk0 : (0 : Int) ≤ (k : Int) := Int.natCast_nonneg _
      have hkm : (k : Int) < (n : Int) := by omega
      clear h1c h2c
      go_wp2_with fail
      go_quiet (fail)
      go_wp2
      go_roundw
      case rel => exact ⟨k + 1, by omega, by go_num, belowDN hbr _⟩
      case measure => simp [intOf]; omega
    · obtain rfl : n = k := by omega
      go_wp2_with fail
      go_ret
      exact ⟨rfl, hbr⟩
end Go.Proofs.Ytdpikdkhemhmdaa
