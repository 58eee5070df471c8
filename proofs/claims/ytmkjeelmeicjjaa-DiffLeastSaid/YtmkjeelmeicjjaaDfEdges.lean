/- Edges, and the document's Edges: by contracts. -/
import Derived.Test.YtmkjeelmeicjjaaDfRows
import Derived.Deep.CutBlock
import Derived.Deep.DeepCutAuto
namespace Go.Proofs.Ytmkjeelmeicjjaa
open Go Go.RowKit

theorem tl_ne {x y : ByteArray} (h : ¬ x = y) : (x.toList == y.toList) = false := by
  refine beq_false_of_ne fun e => h ?_
  rw [ByteArray.toList_eq, ByteArray.toList_eq] at e
  cases x with
  | mk d => cases y with
    | mk d' => congr 1; apply Array.toList_inj.1; exact e
theorem get_ne {a b : List Tx} {k : Nat} (ha : k < a.length) (hb : k < b.length) : a[k]? = b[k]? ↔ a[k] = b[k] := by
  rw [List.getElem?_eq_getElem ha, List.getElem?_eq_getElem hb]; simp
theorem get_ne2 {a b : List Tx} {i j : Nat} (ha : i < a.length) (hb : j < b.length) : a[i]? = b[j]? ↔ a[i] = b[j] := by
  rw [List.getElem?_eq_getElem ha, List.getElem?_eq_getElem hb]; simp
set_option maxRecDepth 100000 in
set_option maxHeartbeats 4000000 in
theorem edges_any (w : World) (p q : Option Addr) (n m c d : Nat) (a b : List Tx) (hn : a.length = n) (hm : b.length = m) (hnm : n ≤ 8796093022208) (hmm : m ≤ 8796093022208) (hp : StrRow w p a) (hq : StrRow w q b) :
    Calls Try.prog 24 #[.slice p n c, .slice q m d] w fun e w' => e = .returned (.tuple #[.int .i64 (pre a b), .int .i64 (suf a b)]) ∧ Below w.heap.size w w' := by
  have HN := Lib.hid hn
  have HM := Lib.hid hm
  have HP := Lib.hid hp
  have HQ := Lib.hid hq
  have hsl := suf_le a b
  clear hn hm hp hq
  obtain ⟨L, hLn, hLm, hLe⟩ : ∃ L : Nat, L ≤ n ∧ L ≤ m ∧ Hid (L = n ∨ L = m) := ⟨min n m, by omega, by omega, by show _ ∨ _; omega⟩
  have hmin : (if (m : Int) < (n : Int) then (m : Int) else (n : Int)) = (L : Int) := by have := hLe.out; split <;> omega
  have hmin2 : (if m < n then (m : Int) else (n : Int)) = (L : Int) := by have := hLe.out; split <;> omega
  go_enter Try.func24, Try.ntmps24
  go_upto_block 0 with fail
  go_cut [4] (fun v wx => v = .int .i64 (pre a b : Nat) ∧ Below w.heap.size w wx)
  case first =>
    go_wp2_with fail
    go_loopw [4] (fun i wr => ∃ k : Nat, k ≤ L ∧ i = .int .i64 k ∧ Below w.heap.size w wr ∧ Hid (∀ j, j < k → a[j]? = b[j]?)) (fun i _ => L - (intOf i).toNat)
    case atStart => exact ⟨0, by omega, rfl, Below.refl _ _, fun j hj => absurd hj (Nat.not_lt_zero _)⟩
    case round =>
      obtain ⟨k, hk, rfl, hbr, HS⟩ := hrel
      have hk0 : (0 : Int) ≤ (k : Int) := Int.natCast_nonneg _
      by_cases hlt : k < L
      · have hka : k < a.length := by rw [HN.out]; omega
        have hkb : k < b.length := by rw [HM.out]; omega
        obtain ⟨b1, o1, rfl, h1c⟩ := HP.out.at k hka
        obtain ⟨b2, o2, rfl, h2c⟩ := HQ.out.at k hkb
        have g1 := h1c wr hbr
        have g2 := h2c wr hbr
        have hkL : (k : Int) < (L : Int) := by omega
        have hkn : (k : Int) < (n : Int) := by omega
        have hkm : (k : Int) < (m : Int) := by omega
        have hyes := Lib.hid (fun (e : a[k] = b[k]) j (hj : j < k + 1) => (show a[j]? = b[j]? from by
          by_cases e' : j = k
          · rw [e']; exact (get_ne hka hkb).2 e
          · exact HS.out j (by omega)))
        have hno := Lib.hid (fun (e : ¬ a[k] = b[k]) => pre_is a b k (by omega) (by omega) HS.out (fun _ _ h => e ((get_ne hka hkb).1 h)))
        have HB := Lib.hid hbr
        clear h1c h2c HS hbr
        generalize a[k] = x at *
        generalize b[k] = y at *
        by_cases hxy : x = y
        · subst hxy
          have hy : Hid (∀ j, j < k + 1 → a[j]? = b[j]?) := hyes.out rfl
          clear hyes hno
          go_wp2_with fail
          go_quiet (fail)
          go_wp2
          go_roundw
          case rel => exact ⟨k + 1, by omega, by go_num, belowDN HB.out _, hy⟩
          case measure => simp [intOf]; omega
        · have hy := Lib.hid (hno.out hxy)
          clear hyes hno
          go_wp2_with fail
          go_quiet (fail)
          have hxf := tl_ne hxy
          simp only [hxf]
          go_wp2
          go_meet
          exact ⟨by rw [hy.out], belowDN HB.out _⟩
      · obtain rfl : L = k := by omega
        have hy := Lib.hid (pre_is a b L (by rw [HN.out]; omega) (by rw [HM.out]; omega) HS.out (fun h1 h2 => by rw [HN.out] at h1; rw [HM.out] at h2; have := hLe.out; omega))
        have HB := Lib.hid hbr
        clear HS hbr
        go_wp2_with fail
        go_quiet (fail)
        go_wp2
        go_meet
        exact ⟨by rw [hy.out], belowDN HB.out _⟩
  case rest =>
    obtain ⟨rfl, hbc⟩ := hcut
    have HSI := Lib.hid (suf_is a b)
    rw [HN.out, HM.out] at hsl
    generalize hP : pre a b = P at *
    have HPP := Lib.hid hP
    clear hP
    have hLP : P ≤ L := by have := hLe.out; omega
    go_wp2_with fail
    go_loopw [5] (fun i wr => ∃ k : Nat, k ≤ L - P ∧ i = .int .i64 k ∧ Below w.heap.size w wr ∧ Hid (∀ j, j < k → a[a.length - 1 - j]? = b[b.length - 1 - j]?)) (fun i _ => L - (intOf i).toNat)
    case atStart => exact ⟨0, by omega, rfl, hbc, fun j hj => absurd hj (Nat.not_lt_zero _)⟩
    case round =>
      obtain ⟨k, hk, rfl, hbr, HS⟩ := hrel
      have hk0 : (0 : Int) ≤ (k : Int) := Int.natCast_nonneg _
      by_cases hlt : k < L - P
      · have hka : n - 1 - k < a.length := by rw [HN.out]; omega
        have hkb : m - 1 - k < b.length := by rw [HM.out]; omega
        obtain ⟨b1, o1, rfl, h1c⟩ := HP.out.at (n - 1 - k) hka
        obtain ⟨b2, o2, rfl, h2c⟩ := HQ.out.at (m - 1 - k) hkb
        have g1 := h1c wr hbr
        have g2 := h2c wr hbr
        have hkL : (k : Int) < (L : Int) - (P : Int) := by omega
        have hkn : (n : Int) - 1 - (k : Int) = ((n - 1 - k : Nat) : Int) := by omega
        have hkm : (m : Int) - 1 - (k : Int) = ((m - 1 - k : Nat) : Int) := by omega
        have hw1 : wrap64 ((L : Int) - P) = (L : Int) - P := by unfold wrap64; omega
        have hv1 : IntKind.i64.wrap ((L : Int) - P) = (L : Int) - P := by rw [Go.IntWalk.i64_left]; exact hw1
        have hw2 : wrap64 ((n : Int) - 1) = (n : Int) - 1 := by unfold wrap64; omega
        have hv2 : IntKind.i64.wrap ((n : Int) - 1) = (n : Int) - 1 := by rw [Go.IntWalk.i64_left]; exact hw2
        have hw3 : wrap64 ((m : Int) - 1) = (m : Int) - 1 := by unfold wrap64; omega
        have hv3 : IntKind.i64.wrap ((m : Int) - 1) = (m : Int) - 1 := by rw [Go.IntWalk.i64_left]; exact hw3
        have hw4 : wrap64 ((n : Int) - 1 - k) = ((n - 1 - k : Nat) : Int) := by unfold wrap64; omega
        have hv4 : IntKind.i64.wrap ((n : Int) - 1 - k) = ((n - 1 - k : Nat) : Int) := by rw [Go.IntWalk.i64_left]; exact hw4
        have hw5 : wrap64 ((m : Int) - 1 - k) = ((m - 1 - k : Nat) : Int) := by unfold wrap64; omega
        have hv5 : IntKind.i64.wrap ((m : Int) - 1 - k) = ((m - 1 - k : Nat) : Int) := by rw [Go.IntWalk.i64_left]; exact hw5
        have hb1 : ((n - 1 - k : Nat) : Int) < n := by omega
        have hb2 : ((m - 1 - k : Nat) : Int) < m := by omega
        have hyes := Lib.hid (fun (e : a[n - 1 - k] = b[m - 1 - k]) j (hj : j < k + 1) => (show a[a.length - 1 - j]? = b[b.length - 1 - j]? from by
          by_cases e' : j = k
          · rw [e', HN.out, HM.out]; exact (get_ne2 hka hkb).2 e
          · exact HS.out j (by omega)))
        have hno := Lib.hid (fun (e : ¬ a[n - 1 - k] = b[m - 1 - k]) => HSI.out k (by rw [HN.out]; omega) (by rw [HM.out]; omega) HS.out (fun _ _ h => e ((get_ne2 hka hkb).1 (by rw [HN.out, HM.out] at h; exact h))))
        have HB := Lib.hid hbr
        clear h1c h2c HS hbr hkn hkm
        generalize a[n - 1 - k] = x at *
        generalize b[m - 1 - k] = y at *
        generalize n - 1 - k = u at *
        generalize m - 1 - k = v at *
        by_cases hxy : x = y
        · subst hxy
          have hy : Hid (∀ j, j < k + 1 → a[a.length - 1 - j]? = b[b.length - 1 - j]?) := hyes.out rfl
          clear hyes hno
          go_wp2_with fail
          go_quiet (fail)
          go_wp2
          go_roundw
          case rel => exact ⟨k + 1, by omega, by go_num, belowDN HB.out _, hy⟩
          case measure => simp [intOf]; omega
        · have hy := Lib.hid (hno.out hxy)
          clear hyes hno
          go_wp2_with fail
          go_quiet (fail)
          have hxf := tl_ne hxy
          simp only [hxf]
          go_wp2
          go_ret2
          exact ⟨by rw [HPP.out, hy.out]; rfl, belowDN HB.out _⟩
      · obtain rfl : k = L - P := by omega
        have hy := Lib.hid (HSI.out (L - P) (by rw [HN.out]; omega) (by rw [HM.out]; omega) HS.out (fun h1 h2 => by rw [HN.out] at h1; rw [HM.out] at h2; have := hLe.out; omega))
        have hLI : ((L - P : Nat) : Int) = (L : Int) - P := by omega
        have hw1 : wrap64 ((L : Int) - P) = ((L - P : Nat) : Int) := by unfold wrap64; omega
        have hv1 : IntKind.i64.wrap ((L : Int) - P) = ((L - P : Nat) : Int) := by rw [Go.IntWalk.i64_left]; exact hw1
        have HB := Lib.hid hbr
        clear HS hbr hLI
        generalize L - P = k at *
        go_wp2_with fail
        go_quiet (fail)
        go_wp2
        go_ret2
        exact ⟨by rw [HPP.out, hy.out]; rfl, belowDN HB.out _⟩
end Go.Proofs.Ytmkjeelmeicjjaa
