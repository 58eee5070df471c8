/- Sizes, Touch: by contracts, with the document's. -/
import Derived.Test.YtjmnbnlhahbcjaaHuRefCk
import Derived.Test.YtjmnbnlhahbcjaaHuCheck
namespace Go.Proofs.Ytjmnbnlhahbcjaa
open Go Go.RowKit

/-- The slice at p holds hunks with texts of these numbers. -/
def SzRow (w : World) (p : Option Addr) (ns : List (Nat × Nat)) : Prop := ∀ i (h : i < ns.length), ∃ b off k p1 c1 p2 c2, p = some ⟨b, off, none⟩ ∧ b < w.heap.size ∧ w.cell? ⟨b, off + i * 3, none⟩ = some (.int .i64 k) ∧
  w.cell? ⟨b, off + i * 3 + 1, none⟩ = some (.slice p1 ns[i].1 c1) ∧ w.cell? ⟨b, off + i * 3 + 2, none⟩ = some (.slice p2 ns[i].2 c2)
theorem SzRow.at {w : World} {p : Option Addr} {ns : List (Nat × Nat)} (h : SzRow w p ns) (i : Nat) (hi : i < ns.length) : ∃ b off k p1 c1 p2 c2, p = some ⟨b, off, none⟩ ∧ ∀ W, Below w.heap.size w W →
    W.cell? ⟨b, off + i * 3, none⟩ = some (.int .i64 k) ∧ W.cell? ⟨b, off + i * 3 + 1, none⟩ = some (.slice p1 ns[i].1 c1) ∧ W.cell? ⟨b, off + i * 3 + 2, none⟩ = some (.slice p2 ns[i].2 c2) := by
  obtain ⟨b, off, k, p1, c1, p2, c2, e, hlt, h0, h1, h2⟩ := h i hi
  exact ⟨b, off, k, p1, c1, p2, c2, e, fun W hb => ⟨(hb.cell (p := ⟨b, off + i * 3, none⟩) hlt).trans h0, (hb.cell (p := ⟨b, off + i * 3 + 1, none⟩) hlt).trans h1, (hb.cell (p := ⟨b, off + i * 3 + 2, none⟩) hlt).trans h2⟩⟩
def sumI (l : List Nat) : Int := l.foldl (fun (s : Int) (n : Nat) => wrap64 (s + (n : Int))) 0
theorem sumI_snoc (l : List Nat) (n : Nat) : sumI (l ++ [n]) = wrap64 (sumI l + (n : Int)) := by simp [sumI]
theorem sumI_take (l : List Nat) (k : Nat) (h : k < l.length) : sumI (l.take (k + 1)) = wrap64 (sumI (l.take k) + (l[k] : Int)) := by rw [List.take_succ_eq_append_getElem h, sumI_snoc]
set_option maxRecDepth 100000 in
set_option maxHeartbeats 4000000 in
theorem count_sz (w : World) (p : Option Addr) (n c : Nat) (ns : List (Nat × Nat)) (hn : ns.length = n) (hnm : n ≤ 3518437208883) (hr : SzRow w p ns) :
    Calls Try.prog 68 #[.slice p n c] w fun e w' => e = .returned (.tuple #[.int .i64 (sumI (ns.map (·.1))), .int .i64 (sumI (ns.map (·.2)))]) ∧ Below w.heap.size w w' := by
  have HN := Lib.hid hn
  have HR := Lib.hid hr
  clear hn hr
  go_enter Try.func68, Try.ntmps68
  go_wp2
  go_loopg [2, 3, 8] n (fun g u v vi wr => ∃ k : Nat, k + g = n ∧ vi = .int .i64 k ∧ Below w.heap.size w wr ∧ u = .int .i64 (sumI ((ns.take k).map (·.1))) ∧ v = .int .i64 (sumI ((ns.take k).map (·.2))))
  case atStart => exact ⟨0, by omega, rfl, Below.refl _ _, rfl, rfl⟩
  case round =>
    obtain ⟨k, hk, rfl, hbr, rfl, rfl⟩ := hrel
    have hsr := hbr.size
    by_cases hlt : k < n
    · have hlt' : k < ns.length := by rw [HN.out]; exact hlt
      obtain ⟨b1, o1, kk, q1, d1, q2, d2, rfl, h1c⟩ := HR.out.at k hlt'
      obtain ⟨g0, g1, g2⟩ := h1c wr hbr
      have hsn1 : Hid (wrap64 (sumI ((ns.take k).map (·.1)) + (ns[k].1 : Int)) = sumI ((ns.take (k + 1)).map (·.1))) := by
        show _ = _
        rw [List.take_succ_eq_append_getElem hlt', List.map_append]; exact (sumI_snoc _ _).symm
      have hsn2 : Hid (wrap64 (sumI ((ns.take k).map (·.2)) + (ns[k].2 : Int)) = sumI ((ns.take (k + 1)).map (·.2))) := by
        show _ = _
        rw [List.take_succ_eq_append_getElem hlt', List.map_append]; exact (sumI_snoc _ _).symm
      have hkI : (k : Int) < (n : Int) := by omega
      have hk0 : (0 : Int) ≤ (k : Int) := by omega
      generalize ns[k].1 = x1 at *
      generalize ns[k].2 = x2 at *
      generalize sumI ((ns.take k).map (·.1)) = s1 at *
      generalize sumI ((ns.take k).map (·.2)) = s2 at *
      have HB := Lib.hid hbr
      clear h1c hbr HR
      go_wp2_with fail
      go_roundg (gk - 1)
      case rel => exact ⟨k + 1, by omega, by go_num, HB.out.alloc hsr _, by rw [← hsn1.out], by rw [← hsn2.out]⟩
      case measure => omega
    · obtain rfl : k = n := by omega
      have hall : ns.take k = ns := by rw [← HN.out]; exact List.take_length
      have HB := Lib.hid hbr
      clear hbr
      rw [hall]
      go_wp2_with fail
      go_ret2
      exact ⟨rfl, HB.out⟩
set_option maxRecDepth 100000 in
set_option maxHeartbeats 4000000 in
theorem refSizes_ok (w : World) (p : Option Addr) (n c : Nat) (ns : List (Nat × Nat)) (hn : ns.length = n) (hnm : n ≤ 3518437208883) (hr : SzRow w p ns)
    (cC : Calls Try.prog 34 #[.slice p n c] w fun e w' => e = .returned (.tuple #[.int .i64 (0 : Nat), .int .i64 0]) ∧ Below w.heap.size w w') :
    Calls Try.prog 47 #[.slice p n c] w fun e w' => e = .returned (.tuple #[.int .i64 (sumI (ns.map (·.1))), .int .i64 (sumI (ns.map (·.2))), .int .i64 0]) ∧ Below w.heap.size w w' := by
  have HN := Lib.hid hn
  have HR := Lib.hid hr
  clear hn hr
  go_enter Try.func47, Try.ntmps47
  go_wp2_with fail
  refine cC.mono ?_
  rintro e w1 ⟨rfl, hb1⟩
  have HB1 := Lib.hid hb1
  clear cC hb1
  go_wp2_with fail
  go_loopg [7, 8, 9] n (fun g u v vi wr => ∃ k : Nat, k + g = n ∧ vi = .int .i64 k ∧ Below w.heap.size w wr ∧ u = .int .i64 (sumI ((ns.take k).map (·.1))) ∧ v = .int .i64 (sumI ((ns.take k).map (·.2))))
  case atStart => exact ⟨0, by omega, rfl, HB1.out, rfl, rfl⟩
  case round =>
    obtain ⟨k, hk, rfl, hbr, rfl, rfl⟩ := hrel
    have hsr := hbr.size
    by_cases hlt : k < n
    · have hlt' : k < ns.length := by rw [HN.out]; exact hlt
      obtain ⟨b1, o1, kk, q1, d1, q2, d2, rfl, h1c⟩ := HR.out.at k hlt'
      obtain ⟨g0, g1, g2⟩ := h1c wr hbr
      have hsn1 : Hid (wrap64 (sumI ((ns.take k).map (·.1)) + (ns[k].1 : Int)) = sumI ((ns.take (k + 1)).map (·.1))) := by
        show _ = _
        rw [List.take_succ_eq_append_getElem hlt', List.map_append]; exact (sumI_snoc _ _).symm
      have hsn2 : Hid (wrap64 (sumI ((ns.take k).map (·.2)) + (ns[k].2 : Int)) = sumI ((ns.take (k + 1)).map (·.2))) := by
        show _ = _
        rw [List.take_succ_eq_append_getElem hlt', List.map_append]; exact (sumI_snoc _ _).symm
      have hkI : (k : Int) < (n : Int) := by omega
      have hk0 : (0 : Int) ≤ (k : Int) := by omega
      generalize ns[k].1 = x1 at *
      generalize ns[k].2 = x2 at *
      generalize sumI ((ns.take k).map (·.1)) = s1 at *
      generalize sumI ((ns.take k).map (·.2)) = s2 at *
      have HB := Lib.hid hbr
      clear h1c hbr HR
      go_wp2_with fail
      go_quiet (fail)
      go_wp2
      go_roundg (gk - 1)
      case rel => exact ⟨k + 1, by omega, by go_num, belowDN HB.out _, by rw [← hsn1.out], by rw [← hsn2.out]⟩
      case measure => omega
    · obtain rfl : k = n := by omega
      have hall : ns.take k = ns := by rw [← HN.out]; exact List.take_length
      have HB := Lib.hid hbr
      clear hbr
      rw [hall]
      go_wp2_with fail
      go_ret3
      exact ⟨rfl, HB.out⟩
theorem sz_hu {w : World} {p : Option Addr} {hs : List Hu} (h : HuRow w p hs) : SzRow w p (hs.map fun y => (y.old.length, y.new.length)) := fun i hi => by
  rw [List.length_map] at hi
  obtain ⟨b, off, e, hlt, h0, ⟨p1, c1, h1, r1⟩, p2, c2, h2, r2⟩ := h i hi
  simp only [List.getElem_map]
  exact ⟨b, off, _, p1, c1, p2, c2, e, hlt, h0, h1, h2⟩
def goes (hs : List Hu) : Int := sumI (hs.map (·.old.length))
def comes (hs : List Hu) : Int := sumI (hs.map (·.new.length))
/-- What Sizes answers. -/
def sizeX (hs : List Hu) : Int × Int × Int := if may 0 hs < hs.length then (0, 0, 80) else (goes hs, comes hs, 0)
theorem goes_eq (hs : List Hu) : sumI ((hs.map fun y => (y.old.length, y.new.length)).map (·.1)) = goes hs := by rw [List.map_map]; rfl
theorem comes_eq (hs : List Hu) : sumI ((hs.map fun y => (y.old.length, y.new.length)).map (·.2)) = comes hs := by rw [List.map_map]; rfl
theorem count_any (w : World) (p : Option Addr) (n c : Nat) (hs : List Hu) (hn : hs.length = n) (hnb : n ≤ 2513169434917) (hr : HuRow w p hs) :
    Calls Try.prog 68 #[.slice p n c] w fun e w' => e = .returned (.tuple #[.int .i64 (goes hs), .int .i64 (comes hs)]) ∧ Below w.heap.size w w' := by
  have := count_sz w p n c _ (by rw [List.length_map]; exact hn) (by omega) (sz_hu hr)
  rwa [goes_eq, comes_eq] at this
set_option maxRecDepth 100000 in
theorem sizes_any (w : World) (p : Option Addr) (n c : Nat) (hs : List Hu) (hn : hs.length = n) (hnb : n ≤ 2513169434917) (hr : HuRow w p hs) (hB : HuB hs) :
    Calls Try.prog 48 #[.slice p n c] w fun e w' => e = .returned (.tuple #[.int .i64 (sizeX hs).1, .int .i64 (sizeX hs).2.1, .int .i64 (sizeX hs).2.2]) ∧ Below w.heap.size w w' := by
  have cC := check_any w p n c hs hn hnb hr hB
  have cT := fun W (hb : Below w.heap.size w W) => count_any W p n c hs hn hnb (hr.later hb)
  unfold sizeX
  clear hr hB
  by_cases hbad : may 0 hs < hs.length
  · rw [chkX_bad hbad] at cC
    rw [if_pos hbad]
    clear hbad hn cT
    go_enter Try.func48, Try.ntmps48
    go_wp2_with fail
    refine cC.mono ?_
    rintro e w1 ⟨rfl, hb1⟩
    clear cC
    go_wp2_with fail
    go_ret3
    exact ⟨rfl, hb1⟩
  · rw [chkX_ok (by have := may_le 0 hs; omega)] at cC
    rw [if_neg hbad]
    clear hbad hn
    generalize goes hs = s1 at *
    generalize comes hs = s2 at *
    go_enter Try.func48, Try.ntmps48
    go_wp2_with fail
    refine cC.mono ?_
    rintro e w1 ⟨rfl, hb1⟩
    have cT1 := cT w1 hb1
    have HB1 := Lib.hid hb1
    have hs1 := hb1.size
    clear cC cT hb1
    go_wp2_with fail
    refine cT1.mono ?_
    rintro e w2 ⟨rfl, hb2⟩
    have HB2 := Lib.hid (HB1.out.trans (hb2.mono hs1))
    clear cT1 hb2
    go_wp2_with fail
    go_ret3
    exact ⟨rfl, HB2.out⟩
set_option maxRecDepth 100000 in
theorem refSizes_any (w : World) (p : Option Addr) (n c : Nat) (hs : List Hu) (hn : hs.length = n) (hnb : n ≤ 2513169434917) (hr : HuRow w p hs) (hB : HuB hs) :
    Calls Try.prog 47 #[.slice p n c] w fun e w' => e = .returned (.tuple #[.int .i64 (sizeX hs).1, .int .i64 (sizeX hs).2.1, .int .i64 (sizeX hs).2.2]) ∧ Below w.heap.size w w' := by
  have cC := refCheck_any w p n c hs hn hnb hr hB
  unfold sizeX
  by_cases hbad : may 0 hs < hs.length
  · rw [chkX_bad hbad] at cC
    rw [if_pos hbad]
    clear hbad hn hr hB
    go_enter Try.func47, Try.ntmps47
    go_wp2_with fail
    refine cC.mono ?_
    rintro e w1 ⟨rfl, hb1⟩
    clear cC
    go_wp2_with fail
    go_ret3
    exact ⟨rfl, hb1⟩
  · rw [chkX_ok (by have := may_le 0 hs; omega)] at cC
    rw [if_neg hbad]
    have := refSizes_ok w p n c _ (by rw [List.length_map]; exact hn) (by omega) (sz_hu hr) cC
    rwa [goes_eq, comes_eq] at this
/-- What Touch answers of a hunk. -/
theorem min_lt (a b : Nat) : ∃ L : Nat, L ≤ a ∧ L ≤ b ∧ (if (a : Int) < (b : Int) then (a : Int) else (b : Int)) = (L : Int) ∧ (if (b : Int) < (a : Int) then (b : Int) else (a : Int)) = (L : Int) ∧ L = min a b := ⟨min a b, by omega, by omega, by split <;> omega, by split <;> omega, rfl⟩
set_option maxRecDepth 100000 in
theorem touch_any (w : World) (ps : Int) (p1 p2 : Option Addr) (lo ln c1 c2 : Nat) (h1 : lo ≤ 8796093021952) (h2 : ln ≤ 8796093021952) :
    Calls Try.prog 51 #[.agg #[.int .i64 ps, .slice p1 lo c1, .slice p2 ln c2]] w fun e w' => e = .returned (.tuple #[.int .i64 (min lo ln : Nat), .int .i64 (lo - min lo ln : Nat), .int .i64 (ln - min lo ln : Nat)]) ∧ Below w.heap.size w w' := by
  obtain ⟨L, hL1, hL2, m1, m2, hL⟩ := min_lt lo ln
  have m3 : min (lo : Int) (ln : Int) = (L : Int) := by rw [hL]; omega
  have e1 : ((lo - L : Nat) : Int) = (lo : Int) - (L : Int) := by omega
  have e2 : ((ln - L : Nat) : Int) = (ln : Int) - (L : Int) := by omega
  rw [← hL, e1, e2]
  clear hL e1 e2
  go_enter Try.func51, Try.ntmps51
  go_wp2_with fail
  go_quiet (fail)
  go_wp2
  go_ret3
  exact ⟨rfl, belowDN ((Below.refl _ _).alloc (Nat.le_refl _) _) _⟩
set_option maxRecDepth 100000 in
theorem refTouch_any (w : World) (ps : Int) (p1 p2 : Option Addr) (lo ln c1 c2 : Nat) (h1 : lo ≤ 8796093021952) (h2 : ln ≤ 8796093021952) :
    Calls Try.prog 50 #[.agg #[.int .i64 ps, .slice p1 lo c1, .slice p2 ln c2]] w fun e w' => e = .returned (.tuple #[.int .i64 (min lo ln : Nat), .int .i64 (lo - min lo ln : Nat), .int .i64 (ln - min lo ln : Nat)]) ∧ Below w.heap.size w w' := by
  obtain ⟨L, hL1, hL2, m1, m2, hL⟩ := min_lt lo ln
  have m3 : min (lo : Int) (ln : Int) = (L : Int) := by rw [hL]; omega
  have e1 : ((lo - L : Nat) : Int) = (lo : Int) - (L : Int) := by omega
  have e2 : ((ln - L : Nat) : Int) = (ln : Int) - (L : Int) := by omega
  rw [← hL, e1, e2]
  clear hL e1 e2
  go_enter Try.func50, Try.ntmps50
  go_wp2_with fail
  go_quiet (fail)
  go_wp2
  go_ret3
  exact ⟨rfl, belowDN ((Below.refl _ _).alloc (Nat.le_refl _) _) _⟩
end Go.Proofs.Ytjmnbnlhahbcjaa
