/- The document's Both, by its contract. -/
import Derived.Test.YtdpikdkhemhmdaaLbBelow
import Derived.Test.YtdpikdkhemhmdaaLbWord
import Derived.Deep.DeepCutAuto
namespace Go.Proofs.Ytdpikdkhemhmdaa
open Go.RowKit

theorem both1 (a b k : Nat) : bothF 1 a b k = (a.testBit k || b.testBit k) := rfl
theorem both2 (a b k : Nat) : bothF 2 a b k = (a.testBit k && b.testBit k) := rfl
theorem both3 (a b k : Nat) : bothF 3 a b k = (a.testBit k && !b.testBit k) := rfl

set_option maxRecDepth 100000 in
set_option maxHeartbeats 8000000 in
theorem refBoth_any (a b how : Nat) (w : World) (ha : a < 18446744073709551616) (hb : b < 18446744073709551616) (hh : how = 1 ∨ how = 2 ∨ how = 3) :
    Calls Try.prog 34 #[.int .u64 a, .int .u64 b, .int .i64 how] w fun e w' => e = .returned (.int .u64 (wordOf (bothF how a b))) ∧ Below w.heap.size w w' := by
  have cS := refSet_any a w ha
  have cT := fun W => refSet_any b W hb
  have cW := fun cs W h => refWord_any cs (bothF how a b) W h
  generalize wordOf (bothF how a b) = res at *
  go_enter Try.func34, Try.ntmps34
  go_wp2_with fail
  refine cS.mono ?_
  rintro e w1 ⟨cs, rfl, hB, hb1⟩
  go_wp2_with fail
  refine (cT w1).mono ?_
  rintro e w2 ⟨ds, rfl, hD, hb2⟩
  have hbw2 := hb1.trans (hb2.mono hb1.size)
  have hi1 := arrInfo
  rw [← hB.size] at hi1
  have hj1 := arrInfo
  rw [← hD.size] at hj1
  have hone := bools_one hB
  have hone2 := bools_one hD
  have hsz := hB.size
  have hsz2 := hD.size
  have HB := Lib.hid hB
  have HD := Lib.hid hD
  have HW := Lib.hid cW
  clear hB hD cS cT hb1 hb2 cW
  go_upto_region 2 with (first
    | (refine wpList_store_row rfl _ _ _ rfl w2.heap.size cs rfl rfl _ _ (heap_first _ _ _ _) hi1 (by rw [hsz]; rfl) hone ?_)
    | (refine wpList_store_row rfl _ _ _ rfl (w2.heap.size + 1) ds rfl rfl _ _ (heap_second _ _ _ _ _) hj1 (by rw [hsz2]; rfl) hone2 ?_))
  generalize hW : World.setRow (World.setRow _ w2.heap.size cs) (w2.heap.size + 1) ds = w3
  have hT : TwoArr w2 w3 cs ds := by rw [← hW]; exact twoArr _ _ _ _ _ _
  obtain ⟨hs3, hb3, hcB, hcD⟩ := hT
  have hbs := hbw2.trans (hb3.mono hbw2.size)
  have HCB : Hid (∀ o i, i < 64 → (w3.alloc o).cell? ⟨w2.heap.size, i, none⟩ = some (.bool (a.testBit i))) := fun o i h => (World.cell?_alloc_lt _ _ _ (by rw [hs3]; simp)).trans ((hcB i).trans (HB.out.get i h))
  have HCD : Hid (∀ o i, i < 64 → (w3.alloc o).cell? ⟨w2.heap.size + 1, i, none⟩ = some (.bool (b.testBit i))) := fun o i h => (World.cell?_alloc_lt _ _ _ (by rw [hs3]; simp)).trans ((hcD i).trans (HD.out.get i h))
  clear hi1 hj1 hone hone2 hsz hsz2 hW hcB hcD hbw2 hb3 HB HD hs3
  generalize w2.heap.size = B at *
  go_wp2_with fail
  go_loopg [10] 64 (fun g i wr => ∃ (k : Nat) (cur : Array Value), k + g = 64 ∧ i = .int .i64 k ∧ w3.alloc (.cells cur 73) = wr ∧ cur.size = 64 ∧ Hid (∀ i, i < k → cur[i]? = some (.bool (bothF how a b i))))
  case atStart => exact ⟨0, _, rfl, rfl, rfl, rfl, fun i h => absurd h (Nat.not_lt_zero _)⟩
  case round =>
    obtain ⟨k, cur, hk, rfl, rfl, hcur, hd⟩ := hrel
    by_cases h0 : k < 64
    · have hc := HCB.out (.cells cur 73) k h0
      have he := HCD.out (.cells cur 73) k h0
      obtain ⟨o, ho⟩ : ∃ o, cur[k]? = some o := ⟨_, Array.getElem?_eq_getElem (by omega)⟩
      have hcell : (w3.alloc (.cells cur 73)).cell? ⟨w3.heap.size, k, none⟩ = some o := by simp [ho]
      have hnew : Hid (∀ v, v = bothF how a b k → ∀ i, i < k + 1 → (cur.setIfInBounds k (.bool v))[i]? = some (.bool (bothF how a b i))) := by
        intro v hv i hi
        by_cases e : i = k
        · subst e; rw [Array.getElem?_setIfInBounds_self_of_lt (by omega), hv]
        · rw [Array.getElem?_setIfInBounds_ne (fun e' => e e'.symm)]; exact hd.out i (by omega)
      have hkk : (0 : Int) ≤ (k : Int) := Int.natCast_nonneg _
      have H1 := Lib.hid (both1 a b k)
      have H2 := Lib.hid (both2 a b k)
      have H3 := Lib.hid (both3 a b k)
      clear hd HCB HCD HW ho
      generalize a.testBit k = x at *
      generalize b.testBit k = y at *
      rcases hh with rfl | rfl | rfl
      · cases x
        all_goals go_wp2_with fail
        all_goals go_roundg (gk - 1)
        case rel => exact ⟨k + 1, _, by omega, by go_num, rfl, by simpa using hcur, hnew.out _ (by rw [H1.out]; rfl)⟩
        case measure => omega
        case rel => exact ⟨k + 1, _, by omega, by go_num, rfl, by simpa using hcur, hnew.out _ (by rw [H1.out]; rfl)⟩
        case measure => omega
      · cases x
        all_goals go_wp2_with fail
        all_goals go_roundg (gk - 1)
        case rel => exact ⟨k + 1, _, by omega, by go_num, rfl, by simpa using hcur, hnew.out _ (by rw [H2.out]; rfl)⟩
        case measure => omega
        case rel => exact ⟨k + 1, _, by omega, by go_num, rfl, by simpa using hcur, hnew.out _ (by rw [H2.out]; rfl)⟩
        case measure => omega
      · cases x
        all_goals go_wp2_with fail
        all_goals go_roundg (gk - 1)
        case rel => exact ⟨k + 1, _, by omega, by go_num, rfl, by simpa using hcur, hnew.out _ (by rw [H3.out]; rfl)⟩
        case measure => omega
        case rel => exact ⟨k + 1, _, by omega, by go_num, rfl, by simpa using hcur, hnew.out _ (by rw [H3.out]; rfl)⟩
        case measure => omega
    · obtain rfl : k = 64 := by omega
      have hbits : Bits cur (bothF how a b) := ⟨hcur, hd.out⟩
      have cW2 := HW.out cur (w3.alloc (.cells cur 73)) hbits
      have hi1 := arrInfo
      rw [← hcur] at hi1
      have hsz := hbs.size
      clear hd HCB HCD HW hbits
      go_wp2_with (refine wpList_load_row rfl _ _ rfl w3.heap.size rfl _ cur (0, 0) _ (heap_alloc_new _ _) Try.underlying73 rfl hi1 ?_)
      refine cW2.mono ?_
      rintro e w4 ⟨rfl, hb4⟩
      have hb5 := (hbs.alloc hsz (.cells cur 73)).trans (hb4.mono (by simp; omega))
      clear cW2 hb4
      go_wp2_with fail
      go_ret
      exact ⟨rfl, hb5⟩
end Go.Proofs.Ytdpikdkhemhmdaa
