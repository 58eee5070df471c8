/- Texts of the proof, merged: PrText. -/
import Derived.Test.YtfkkodcppaakjaaGreatDoorRd17
import Derived.Test.YtfkkodcppaakjaaGreatDoorRd29
import Derived.Test.YtfkkodcppaakjaaGreatDoorRd30
import Derived.Test.YtfkkodcppaakjaaGreatDoorRd31
/- The document's Text of chapter 3, by its contract. -/
namespace Go.Proofs.YtfkkodcppaakjaaGreatDoor
open Go Go.RowKit

theorem jn_some {l : List Nat} (h : l ≠ []) : 1 ≤ (jn l).length := by
  rcases List.eq_nil_or_concat l with rfl | ⟨i, x, rfl⟩
  · exact absurd rfl h
  · rw [List.concat_eq_append, jn_snoc]
    have : 1 ≤ (Lib.decDigits x).length := by
      have := dec_ne x
      cases hd : Lib.decDigits x with
      | nil => exact absurd hd this
      | cons c r => simp
    split
    · exact this
    · rw [List.length_append]; omega
theorem jn_le (a k : Nat) (hk : k ≤ 64) : (jn (listTo a k)).length ≤ 192 := by
  have h1 := join_le (listTo a k) (fun i hi => by have := list_lt a k i hi; omega)
  have h2 := listTo_len a k
  unfold jn; omega
theorem itoa_nat (k : Nat) : Lib.itoa (k : Int) = Lib.decDigits k := Lib.itoa_nonneg k
theorem bs_add (x y : List UInt8) : bs x ++ bs y = bs (x ++ y) := WideShapes.bytes_inj (by rw [Joins.data_append, bs_list, bs_list, bs_list])
set_option maxRecDepth 100000 in
set_option maxHeartbeats 2000000 in
theorem prText_any (a : Nat) (w : World) (ha : a < 18446744073709551616) :
    Calls Tryz.prog 88 #[.int .u64 a] w fun e w' => e = .returned (.string (bs (textN a))) ∧ Below w.heap.size w w' := by
  have hend0 : Hid (a = 0 → textN a = [45] ∧ jn (listTo a 64) = []) := fun h => by rw [h, list_zero]; exact ⟨rfl, rfl⟩
  have hend1 : Hid (a ≠ 0 → textN a = jn (listTo a 64) ∧ 1 ≤ (jn (listTo a 64)).length) := fun h => by
    refine ⟨by unfold textN jn; rw [if_neg h], jn_some fun e => ?_⟩
    obtain ⟨n, hn⟩ := list_nonzero a h ha
    rw [e] at hn; simp at hn
  generalize textN a = tx at *
  go_enter Tryz.func88, Tryz.ntmps88
  go_wp2_with fail
  go_loopg [3, 4] 64 (fun g s i wr => ∃ k : Nat, k + g = 64 ∧ i = .int .i64 k ∧ s = .string (bs (jn (listTo a k))) ∧ Below w.heap.size w wr)
  case atStart => exact ⟨0, by omega, rfl, rfl, Below.refl _ _⟩
  case round =>
    obtain ⟨k, hk, rfl, rfl, hbr⟩ := hrel
    have hk0 : (0 : Int) ≤ (k : Int) := by omega
    by_cases hlt : k < 64
    · have hkI : (k : Int) < 64 := by omega
      have hA := bit_and a k ha
      have hst := listTo_step a k
      have hle := jn_le a k (by omega)
      have HB := Lib.hid hbr
      clear hend0 hend1 hbr
      cases h1 : a.testBit k
      · rw [h1] at hA hst
        simp only [Bool.false_eq_true, if_false] at hA hst
        have HS := Lib.hid hst
        clear hst h1
        go_wp2_with fail
        go_roundg (gk - 1)
        case rel => exact ⟨k + 1, by omega, by go_num, by rw [HS.out], HB.out⟩
        case measure => omega
      · rw [h1] at hA hst
        simp only [if_true] at hA hst
        have hsn : jn (listTo a (k + 1)) = if listTo a k = [] then Lib.decDigits k else jn (listTo a k) ++ [43] ++ Lib.decDigits k := by rw [hst, jn_snoc]
        have cN := refNumber_any k (by omega) (by omega)
        have hdl := dec_len2 k (by omega)
        rw [itoa_nat] at cN
        have hj0 : listTo a k = [] → jn (listTo a k) = [] := fun h => by rw [h]; rfl
        have hj1 : listTo a k ≠ [] → 1 ≤ (jn (listTo a k)).length := jn_some
        clear hst h1
        by_cases he : listTo a k = []
        · rw [if_pos he] at hsn
          rw [hj0 he]
          have HS := Lib.hid hsn
          have had : ∀ W : World, (Op.stringOp .add (bs []) ⟨(Lib.decDigits k).toArray⟩).run Tryz.prog W = .ok (.string (bs (Lib.decDigits k))) W := fun W => by
            have := run_string_add_sum (P := Tryz.prog) W (bs []) (bs (Lib.decDigits k)) (by rw [bs_size, bs_size]; simp; omega)
            rw [bs_add] at this
            exact this
          have CN := Lib.hid cN
          obtain ⟨hb1, hb2⟩ := bytes_none (bs []) (by rw [bs_size]; simp)
          clear hsn hj0 hj1 he hle hdl cN
          generalize bs [] = e0 at *
          generalize Lib.decDigits k = dk at *
          go_wp2_with fail
          refine (CN.out _).mono ?_
          rintro e w2 ⟨rfl, hb2'⟩
          have HB2 := Lib.hid (HB.out.trans (hb2'.mono HB.out.size))
          clear hb2' CN
          go_wp2_with fail
          go_roundg (gk - 1)
          case rel => exact ⟨k + 1, by omega, by go_num, by rw [HS.out], HB2.out⟩
          case measure => omega
        · rw [if_neg he] at hsn
          have h1' := hj1 he
          have HS := Lib.hid hsn
          obtain ⟨hb1, hb2⟩ := bytes_some (bs (jn (listTo a k))) (by rw [bs_size]; exact h1')
          have had1 : ∀ W : World, (Op.stringOp .add (bs (jn (listTo a k))) ⟨#[43]⟩).run Tryz.prog W = .ok (.string (bs (jn (listTo a k) ++ [43]))) W := fun W => by
            have := run_string_add_sum (P := Tryz.prog) W (bs (jn (listTo a k))) (bs [43]) (by rw [bs_size, bs_size]; simp; omega)
            rw [bs_add] at this
            exact this
          have had : ∀ W : World, (Op.stringOp .add (bs (jn (listTo a k) ++ [43])) ⟨(Lib.decDigits k).toArray⟩).run Tryz.prog W = .ok (.string (bs (jn (listTo a k) ++ [43] ++ Lib.decDigits k))) W := fun W => by
            have := run_string_add_sum (P := Tryz.prog) W (bs (jn (listTo a k) ++ [43])) (bs (Lib.decDigits k)) (by rw [bs_size, bs_size]; simp; omega)
            rw [bs_add] at this
            exact this
          have CN := Lib.hid cN
          rw [← hsn] at had
          clear hsn hj0 hj1 he hle hdl cN h1'
          obtain ⟨e2, he2⟩ : ∃ e2, bs (jn (listTo a (k + 1))) = e2 := ⟨_, rfl⟩
          rw [he2] at had
          have HE2 := Lib.hid he2
          clear he2
          generalize bs (jn (listTo a k) ++ [43]) = e1 at *
          generalize bs (jn (listTo a k)) = e0 at *
          generalize Lib.decDigits k = dk at *
          go_wp2_with fail
          refine (CN.out _).mono ?_
          rintro e w2 ⟨rfl, hb2'⟩
          have HB2 := Lib.hid (HB.out.trans (hb2'.mono HB.out.size))
          clear hb2' CN
          go_wp2_with fail
          go_roundg (gk - 1)
          case rel => exact ⟨k + 1, by omega, by go_num, by rw [HE2.out], HB2.out⟩
          case measure => omega
    · obtain rfl : k = 64 := by omega
      have HB := Lib.hid hbr
      clear hbr
      by_cases h0 : a = 0
      · obtain ⟨h1, h2⟩ := hend0.out h0
        rw [h2]
        have HT := Lib.hid h1
        obtain ⟨hb1, hb2⟩ := bytes_none (bs []) (by rw [bs_size]; simp)
        clear hend0 hend1 h1 h2 h0
        generalize bs [] = e0 at *
        go_wp2_with fail
        go_ret
        exact ⟨by rw [HT.out]; rfl, HB.out⟩
      · obtain ⟨h1, h2⟩ := hend1.out h0
        have HT := Lib.hid h1
        obtain ⟨hb1, hb2⟩ := bytes_some (bs (jn (listTo a 64))) (by rw [bs_size]; exact h2)
        obtain ⟨e0, he0⟩ : ∃ e0, bs (jn (listTo a 64)) = e0 := ⟨_, rfl⟩
        rw [he0] at hb1 hb2 ⊢
        have HE := Lib.hid he0
        clear hend0 hend1 h1 h2 h0 he0
        go_wp2_with fail
        go_ret
        exact ⟨by rw [HT.out, HE.out]; rfl, HB.out⟩
end Go.Proofs.YtfkkodcppaakjaaGreatDoor
