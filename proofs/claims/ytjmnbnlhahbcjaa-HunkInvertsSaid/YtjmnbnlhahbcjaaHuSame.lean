/- Lists of texts held against each other: the document, the library; the same hunks. -/
import Derived.Test.YtjmnbnlhahbcjaaHuFine
namespace Go.Proofs.Ytjmnbnlhahbcjaa
open Go Go.RowKit

set_option maxRecDepth 100000 in
set_option maxHeartbeats 2000000 in
theorem refTexts_any (w : World) (p q : Option Addr) (n m c d : Nat) (xs ys : List Tx) (hp : StrRow w p xs) (hq : StrRow w q ys) (hn : xs.length = n) (hm : ys.length = m) (hnb : n ≤ 8796093022208) (hmb : m ≤ 8796093022208) :
    Calls Try.prog 39 #[.slice p n c, .slice q m d] w fun e w' => e = .returned (.bool (decide (xs = ys))) ∧ Below w.heap.size w w' := by
  by_cases hnm : n = m
  · subst hnm
    have HN := Lib.hid hn
    have HM := Lib.hid hm
    have HP := Lib.hid hp
    have HQ := Lib.hid hq
    clear hn hm hp hq
    go_enter Try.func39, Try.ntmps39
    go_wp2_with fail
    go_loopw [5] (fun i wr => ∃ k : Nat, k ≤ n ∧ i = .int .i64 k ∧ Below w.heap.size w wr ∧ Hid (∀ j, j < k → xs[j]? = ys[j]?)) (fun i _ => n - (intOf i).toNat)
    case atStart => exact ⟨0, by omega, rfl, Below.refl _ _, fun j hj => absurd hj (Nat.not_lt_zero _)⟩
    case round =>
      obtain ⟨k, hk, rfl, hbr, HS⟩ := hrel
      have hk0 : (0 : Int) ≤ (k : Int) := Int.natCast_nonneg _
      by_cases hlt : k < n
      · have hlx : k < xs.length := by rw [HN.out]; exact hlt
        have hly : k < ys.length := by rw [HM.out]; exact hlt
        obtain ⟨b1, o1, rfl, h1c⟩ := HP.out.at k hlx
        obtain ⟨b2, o2, rfl, h2c⟩ := HQ.out.at k hly
        have g1 := h1c wr hbr
        have g2 := h2c wr hbr
        have hkm : (k : Int) < (n : Int) := by omega
        have hyes := Lib.hid (fun (e : xs[k] = ys[k]) j (hj : j < k + 1) => (show xs[j]? = ys[j]? from by
          by_cases e' : j = k
          · rw [e']; exact (get_ne hlx hly).2 e
          · exact HS.out j (by omega)))
        have hno := Lib.hid (fun (e : ¬ xs[k] = ys[k]) => decide_eq_false (list_ne k hlx hly e))
        have HB := Lib.hid hbr
        clear h1c h2c HS hbr
        generalize xs[k] = x at *
        generalize ys[k] = y at *
        by_cases hxy : x = y
        · subst hxy
          have hy : Hid (∀ j, j < k + 1 → xs[j]? = ys[j]?) := hyes.out rfl
          clear hyes hno
          go_wp2_with fail
          go_quiet (fail)
          go_wp2
          go_roundw
          case rel => exact ⟨k + 1, by omega, by go_num, belowDN HB.out _, hy⟩
          case measure => simp [intOf]; omega
        · have hy := Lib.hid (hno.out hxy)
          clear hyes hno
          go_wp2_with fail
          go_quiet (fail)
          have hxf := tl_ne hxy
          simp only [hxf, Bool.not_false]
          go_wp2
          go_ret
          exact ⟨by rw [hy.out]; rfl, belowDN HB.out _⟩
      · obtain rfl : n = k := by omega
        have hy := Lib.hid (decide_eq_true (list_eq (HN.out.trans HM.out.symm) (fun j hj => HS.out j (by rw [HN.out] at hj; exact hj))))
        have HB := Lib.hid hbr
        clear HS hbr
        go_wp2_with fail
        go_ret
        exact ⟨by rw [hy.out]; rfl, HB.out⟩
  · have hne : decide (xs = ys) = false := decide_eq_false (fun e => hnm (by rw [← hn, ← hm, e]))
    rw [hne]
    have h1 : ((n : Int) == (m : Int)) = false := by simp; omega
    have h2 : ¬ (n : Int) = (m : Int) := by omega
    clear hne hp hq hn hm
    go_enter Try.func39, Try.ntmps39
    go_wp2_with fail
    go_ret
    exact ⟨rfl, Below.refl _ _⟩
set_option maxRecDepth 100000 in
set_option maxHeartbeats 2000000 in
theorem equal_any (w : World) (p q : Option Addr) (n m c d : Nat) (xs ys : List Tx) (hp : StrRow w p xs) (hq : StrRow w q ys) (hn : xs.length = n) (hm : ys.length = m) (hnb : n ≤ 8796093022208) (hmb : m ≤ 8796093022208) :
    Calls Try.prog 67 #[.slice p n c, .slice q m d] w fun e w' => e = .returned (.bool (decide (xs = ys))) ∧ Below w.heap.size w w' := by
  by_cases hnm : n = m
  · subst hnm
    have HN := Lib.hid hn
    have HM := Lib.hid hm
    have HP := Lib.hid hp
    have HQ := Lib.hid hq
    clear hn hm hp hq
    go_enter Try.func67, Try.ntmps67
    go_wp2_with fail
    go_loopw [13] (fun i wr => ∃ k : Nat, k ≤ n ∧ i = .int .i64 k ∧ Below w.heap.size w wr ∧ Hid (∀ j, j < k → xs[j]? = ys[j]?)) (fun i _ => n - (intOf i).toNat)
    case atStart => exact ⟨0, by omega, rfl, Below.refl _ _, fun j hj => absurd hj (Nat.not_lt_zero _)⟩
    case round =>
      obtain ⟨k, hk, rfl, hbr, HS⟩ := hrel
      have hk0 : (0 : Int) ≤ (k : Int) := Int.natCast_nonneg _
      by_cases hlt : k < n
      · have hlx : k < xs.length := by rw [HN.out]; exact hlt
        have hly : k < ys.length := by rw [HM.out]; exact hlt
        obtain ⟨b1, o1, rfl, h1c⟩ := HP.out.at k hlx
        obtain ⟨b2, o2, rfl, h2c⟩ := HQ.out.at k hly
        have g1 := h1c wr hbr
        have g2 := h2c wr hbr
        have hkm : (k : Int) < (n : Int) := by omega
        have hyes := Lib.hid (fun (e : xs[k] = ys[k]) j (hj : j < k + 1) => (show xs[j]? = ys[j]? from by
          by_cases e' : j = k
          · rw [e']; exact (get_ne hlx hly).2 e
          · exact HS.out j (by omega)))
        have hno := Lib.hid (fun (e : ¬ xs[k] = ys[k]) => decide_eq_false (list_ne k hlx hly e))
        have HB := Lib.hid hbr
        clear h1c h2c HS hbr
        generalize xs[k] = x at *
        generalize ys[k] = y at *
        by_cases hxy : x = y
        · subst hxy
          have hy : Hid (∀ j, j < k + 1 → xs[j]? = ys[j]?) := hyes.out rfl
          clear hyes hno
          go_wp2_with fail
          go_quiet (fail)
          go_wp2
          go_roundw
          case rel => exact ⟨k + 1, by omega, by go_num, belowDN HB.out _, hy⟩
          case measure => simp [intOf]; omega
        · have hy := Lib.hid (hno.out hxy)
          clear hyes hno
          go_wp2_with fail
          go_quiet (fail)
          have hxf := tl_ne hxy
          simp only [hxf, Bool.not_false]
          go_wp2
          go_ret
          exact ⟨by rw [hy.out]; rfl, belowDN HB.out _⟩
      · obtain rfl : n = k := by omega
        have hy := Lib.hid (decide_eq_true (list_eq (HN.out.trans HM.out.symm) (fun j hj => HS.out j (by rw [HN.out] at hj; exact hj))))
        have HB := Lib.hid hbr
        clear HS hbr
        go_wp2_with fail
        go_ret
        exact ⟨by rw [hy.out]; rfl, HB.out⟩
  · have hne : decide (xs = ys) = false := decide_eq_false (fun e => hnm (by rw [← hn, ← hm, e]))
    rw [hne]
    have h1 : ((n : Int) == (m : Int)) = false := by simp; omega
    have h2 : ¬ (n : Int) = (m : Int) := by omega
    clear hne hp hq hn hm
    go_enter Try.func67, Try.ntmps67
    go_wp2_with fail
    go_ret
    exact ⟨rfl, Below.refl _ _⟩
set_option maxRecDepth 100000 in
set_option maxHeartbeats 4000000 in
/-- The same hunks, in two rows. -/
theorem refSameT_any (w : World) (p q : Option Addr) (n m c d : Nat) (hs : List Hu) (hp : HuRow w p hs) (hq : HuRow w q hs) (hn : hs.length = n) (hm : hs.length = m) (hl : n ≤ 8796093022208) (hsz : ∀ h ∈ hs, h.old.length ≤ 8796093022208 ∧ h.new.length ≤ 8796093022208) :
    Calls Try.prog 38 #[.slice p n c, .slice q m d] w fun e w' => e = .returned (.bool true) ∧ Below w.heap.size w w' := by
  obtain rfl : n = m := hn.symm.trans hm
  have HN := Lib.hid hn
  have HSZ := Lib.hid hsz
  clear hn hm hsz
  go_enter Try.func38, Try.ntmps38
  go_wp2_with fail
  go_loopw [5] (fun i wr => ∃ k : Nat, k ≤ n ∧ i = .int .i64 k ∧ Below w.heap.size w wr) (fun i _ => n - (intOf i).toNat)
  case atStart => exact ⟨0, by omega, rfl, Below.refl _ _⟩
  case round =>
    obtain ⟨k, hk, rfl, hbr⟩ := hrel
    by_cases hlt : k < n
    · have hlt' : k < hs.length := by rw [HN.out]; exact hlt
      obtain ⟨z1, z2⟩ := HSZ.out hs[k] (List.getElem_mem hlt')
      obtain ⟨b1, o1, p1, c1, p2, c2, rfl, r1, r2, h1c⟩ := hp.at k hlt'
      obtain ⟨b2, o2, p3, c3, p4, c4, rfl, r3, r4, h2c⟩ := hq.at k hlt'
      have hto := fun W (hb : Below wr.heap.size wr W) => hbr.trans (hb.mono hbr.size)
      have hmk := fun W (hb : Below wr.heap.size wr W) => And.intro hb (And.intro (h1c W (hto W hb)) (h2c W (hto W hb)))
      have cS := fun W (hb : Below wr.heap.size wr W) => refTexts_any W p1 p3 hs[k].old.length hs[k].old.length c1 c3 hs[k].old hs[k].old (r1.1.later (hto W hb)) (r3.1.later (hto W hb)) rfl rfl z1 z1
      have cT := fun W (hb : Below wr.heap.size wr W) => refTexts_any W p2 p4 hs[k].new.length hs[k].new.length c2 c4 hs[k].new hs[k].new (r2.1.later (hto W hb)) (r4.1.later (hto W hb)) rfl rfl z2 z2
      simp only [decide_true] at cS cT
      have hk0 : (0 : Int) ≤ (k : Int) := Int.natCast_nonneg _
      have hkm : (k : Int) < (n : Int) := by omega
      have HBR := Lib.hid hbr
      clear h1c h2c r1 r2 r3 r4 hto z1 z2 hbr
      generalize hs[k].pos = ps at *
      generalize hs[k].old.length = lo at *
      generalize hs[k].new.length = ln at *
      have HMK := Lib.hid hmk
      have hb0 : Below wr.heap.size wr wr.drew := Below.drew (Below.refl _ _)
      obtain ⟨-, ⟨g1, g2, g3⟩, g4, g5, g6⟩ := hmk _ hb0
      clear hmk
      go_upto_region 6 with fail
      go_region_held3 (fun W => Below wr.heap.size wr W ∧ (W.cell? ⟨b1, o1 + k * 3, none⟩ = some (.int .i64 ps) ∧ W.cell? ⟨b1, o1 + k * 3 + 1, none⟩ = some (.slice p1 lo c1) ∧ W.cell? ⟨b1, o1 + k * 3 + 2, none⟩ = some (.slice p2 ln c2)) ∧ W.cell? ⟨b2, o2 + k * 3, none⟩ = some (.int .i64 ps) ∧ W.cell? ⟨b2, o2 + k * 3 + 1, none⟩ = some (.slice p3 lo c3) ∧ W.cell? ⟨b2, o2 + k * 3 + 2, none⟩ = some (.slice p4 ln c4))
        (first | exact HMK.out _ hb0 | exact HMK.out _ hbA | exact HMK.out _ hbB)
        (first
          | (go_at_call 39; refine (cS _ hb0).mono ?_; rintro e wA ⟨rfl, hbm⟩; have hbA : Below wr.heap.size wr wA := Below.trans hb0 (hbm.mono hb0.size); obtain ⟨-, ⟨g1', g2', g3'⟩, g4', g5', g6'⟩ := HMK.out _ hbA; clear cS)
          | (go_at_call 39; refine (cT _ hbA).mono ?_; rintro e wB ⟨rfl, hbm2⟩; have hbB : Below wr.heap.size wr wB := Below.trans hbA (hbm2.mono hbA.size); obtain ⟨-, ⟨g1', g2', g3'⟩, g4', g5', g6'⟩ := HMK.out _ hbB; clear cT))
      have hwB : Below w.heap.size w wB := HBR.out.trans (hbB.mono HBR.out.size)
      have HWB := Lib.hid hwB
      clear hwB hbA hbB hbm hbm2 hb0 HMK
      go_wp2
      go_roundw
      case rel => exact ⟨k + 1, by omega, by go_num, HWB.out⟩
      case measure => simp [intOf]; omega
    · obtain rfl : n = k := by omega
      go_wp2_with fail
      go_ret
      exact ⟨rfl, hbr⟩
end Go.Proofs.Ytjmnbnlhahbcjaa
