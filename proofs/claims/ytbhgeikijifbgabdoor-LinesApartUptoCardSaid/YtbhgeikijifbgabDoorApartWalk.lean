/- The law LinesApart by a walk over the contracts. -/
import Derived.Test.YtbhgeikijifbgabDoorWorks
import Derived.Test.YtbhgeikijifbgabDoorConcat
import Derived.Test.YtbhgeikijifbgabDoorStrRow
namespace Go.Proofs.YtbhgeikijifbgabDoor
open Go.RowKit

def catB (ss : List ByteArray) (k : Nat) : ByteArray := ⟨(concatL ((listsOf ss).take k)).toArray⟩
theorem catB_size (ss : List ByteArray) (k : Nat) : (catB ss k).size ≤ 2 * sizeOf' ss := by
  rw [← len_size]
  show (concatL ((listsOf ss).take k)).length ≤ _
  have h1 := concat_len ((listsOf ss).take k)
  have h2 := sum_take (listsOf ss) k
  unfold sizeOf'; omega
theorem catB_zero (ss : List ByteArray) : catB ss 0 = ⟨#[]⟩ := rfl
theorem catB_step (ss : List ByteArray) (k : Nat) (h : k < ss.length) : catB ss k ++ ⟨(showL ss[k].data.toList).toArray⟩ = catB ss (k + 1) := by
  apply WideShapes.bytes_inj
  rw [Joins.data_append]
  show concatL ((listsOf ss).take k) ++ showL ss[k].data.toList = concatL ((listsOf ss).take (k + 1))
  rw [List.take_succ_eq_append_getElem (by unfold listsOf; simpa using h), concat_snoc]
  simp [listsOf]
/-- Are the lists as long as one another, and the same up to k? -/
def sameB (xs ys : List ByteArray) (k : Nat) : Bool := decide (xs.length = ys.length) && decide ((listsOf xs).take k = (listsOf ys).take k)
theorem sameB_zero (xs ys : List ByteArray) : ((xs.length : Int) == (ys.length : Int)) = sameB xs ys 0 := by
  unfold sameB
  rw [List.take_zero, List.take_zero, decide_eq_true rfl, Bool.and_true, Bool.eq_iff_iff]
  simp only [beq_iff_eq, decide_eq_true_eq]
  omega
theorem take_succ_iff (xs ys : List ByteArray) (k : Nat) (h1 : k < xs.length) (h2 : k < ys.length) : (listsOf xs).take (k + 1) = (listsOf ys).take (k + 1) ↔ (listsOf xs).take k = (listsOf ys).take k ∧ xs[k].data.toList = ys[k].data.toList := by
  have e1 : (listsOf xs).take (k + 1) = (listsOf xs).take k ++ [xs[k].data.toList] := by
    rw [List.take_succ_eq_append_getElem (by unfold listsOf; simpa using h1)]; simp [listsOf]
  have e2 : (listsOf ys).take (k + 1) = (listsOf ys).take k ++ [ys[k].data.toList] := by
    rw [List.take_succ_eq_append_getElem (by unfold listsOf; simpa using h2)]; simp [listsOf]
  rw [e1, e2]
  constructor
  · intro h
    have := List.append_inj' h rfl
    exact ⟨this.1, by simpa using this.2⟩
  · rintro ⟨h, h'⟩; rw [h, h']
theorem sameB_step (xs ys : List ByteArray) (k : Nat) (h1 : k < xs.length) (h2 : k < ys.length) (h : sameB xs ys k = true) : (xs[k].toList == ys[k].toList) = sameB xs ys (k + 1) := by
  unfold sameB at h ⊢
  simp only [Bool.and_eq_true, decide_eq_true_eq] at h
  rw [decide_eq_true h.1, Bool.true_and, Bool.eq_iff_iff, ByteArray.toList_eq, ByteArray.toList_eq, beq_iff_eq, decide_eq_true_eq, take_succ_iff xs ys k h1 h2]
  exact ⟨fun e => ⟨h.2, e⟩, fun e => e.2⟩
theorem sameB_off (xs ys : List ByteArray) (k : Nat) (h2 : k < ys.length) (h : sameB xs ys k = false) : false = sameB xs ys (k + 1) := by
  by_cases hl : xs.length = ys.length
  · unfold sameB at h ⊢
    rw [decide_eq_true hl, Bool.true_and] at h ⊢
    symm
    rw [decide_eq_false_iff_not] at h ⊢
    intro e
    exact h ((take_succ_iff xs ys k (by omega) h2).1 e).1
  · unfold sameB; rw [decide_eq_false hl]; rfl
theorem sameB_len (xs ys : List ByteArray) (k : Nat) (h : sameB xs ys k = true) : xs.length = ys.length := by
  unfold sameB at h; simp only [Bool.and_eq_true, decide_eq_true_eq] at h; exact h.1
theorem len_of_mem (ss : List ByteArray) (hz : sizeOf' ss ≤ 1048576) : ∀ l ∈ listsOf ss, l.length ≤ 9223372036854775807 := fun l hl => by
  have := sum_mem _ _ hl
  unfold sizeOf' at hz; omega
theorem catB_all (ss : List ByteArray) : catB ss ss.length = ⟨(concatL (listsOf ss)).toArray⟩ := by
  unfold catB; rw [List.take_of_length_le (by unfold listsOf; simp)]
theorem sameB_end (xs ys : List ByteArray) (hx : sizeOf' xs ≤ 1048576) (hy : sizeOf' ys ≤ 1048576) : ((catB xs xs.length).toList == (catB ys ys.length).toList) = sameB xs ys ys.length := by
  rw [Bool.eq_iff_iff, beq_iff_eq, catB_all, catB_all, ByteArray.toList_eq, ByteArray.toList_eq]
  have e1 : ∀ ss : List ByteArray, (listsOf ss).length = ss.length := fun ss => by simp [listsOf]
  constructor
  · intro h
    have h' := concat_inj _ _ (len_of_mem xs hx) (len_of_mem ys hy) h
    unfold sameB
    rw [h', decide_eq_true rfl, Bool.and_true, decide_eq_true_eq, ← e1, ← e1, h']
  · intro h
    unfold sameB at h
    simp only [Bool.and_eq_true, decide_eq_true_eq] at h
    have h2 := h.2
    rw [List.take_of_length_le (by rw [e1]; omega), List.take_of_length_le (by rw [e1]; omega)] at h2
    show concatL (listsOf xs) = concatL (listsOf ys)
    rw [h2]
/-- What is left when k texts are told. -/
def tailB (ss : List ByteArray) (k : Nat) : ByteArray := ⟨(concatL ((listsOf ss).drop k)).toArray⟩
theorem tailB_zero (ss : List ByteArray) : catB ss ss.length = tailB ss 0 := by rw [catB_all]; unfold tailB; rw [List.drop_zero]
theorem tailB_end (ss : List ByteArray) : tailB ss ss.length = ⟨#[]⟩ := by unfold tailB; rw [List.drop_eq_nil_of_le (by unfold listsOf; simp)]; rfl
theorem tailB_told (ss : List ByteArray) (k : Nat) (h : k < ss.length) (hz : sizeOf' ss ≤ 1048576) :
    (⟨(shownT (tailB ss k).data.toList).toArray⟩ : ByteArray) = ss[k] ∧ (⟨(shownR (tailB ss k).data.toList).toArray⟩ : ByteArray) = tailB ss (k + 1) ∧ shownE (tailB ss k).data.toList = 0 := by
  have e : (tailB ss k).data.toList = showL ss[k].data.toList ++ concatL ((listsOf ss).drop (k + 1)) := by
    show concatL ((listsOf ss).drop k) = _
    rw [List.drop_eq_getElem_cons (by unfold listsOf; simpa using h), concat_cons]
    simp [listsOf]
  have hm := size_mem ss k h
  obtain ⟨_, h1, h2, h3⟩ := shown_show ss[k].data.toList (concatL ((listsOf ss).drop (k + 1))) (by rw [len_size]; omega)
  rw [e]
  exact ⟨WideShapes.bytes_inj (by rw [h1]), WideShapes.bytes_inj (by rw [h2]; rfl), h3⟩
theorem tailB_size (ss : List ByteArray) (k : Nat) : (tailB ss k).size ≤ 2 * sizeOf' ss := by
  rw [← len_size]
  show (concatL ((listsOf ss).drop k)).length ≤ _
  have h1 := concat_len ((listsOf ss).drop k)
  have h2 : (((listsOf ss).drop k).map (fun l => l.length + 1)).sum ≤ ((listsOf ss).map (fun l => l.length + 1)).sum := by
    conv => rhs; rw [← List.take_append_drop k (listsOf ss)]
    rw [List.map_append, List.sum_append]; omega
  unfold sizeOf'; omega

theorem wd_drewN {w W : World} (h : Wd w W) : ∀ n, Wd w (W.drewN n)
  | 0 => h
  | n + 1 => Wd.drew (wd_drewN h n)

set_option maxRecDepth 100000 in
set_option maxHeartbeats 4000000 in
theorem linesApart_any (w : World) (pa pb : Option Addr) (ca cb : Nat) (xs ys : List ByteArray) (hT : Tabs w) (hM : MaxS w) (ha : StrRow w pa xs) (hb : StrRow w pb ys) (hza : sizeOf' xs ≤ 1048576) (hzb : sizeOf' ys ≤ 1048576)
    (hla : xs.length ≤ 1048576) (hlb : ys.length ≤ 1048576) :
    Calls Tryd.prog 3 #[.slice pa xs.length ca, .slice pb ys.length cb] w fun e w' => e = .returned (.bool true) ∧ Below w.heap.size w w' := by
  have hw0 : Wd w w := ⟨hT, hM, Below.refl _ _⟩
  have c1 := works_any w
  obtain ⟨na, hna⟩ : ∃ n, xs.length = n := ⟨_, rfl⟩
  obtain ⟨nb, hnb⟩ : ∃ n, ys.length = n := ⟨_, rfl⟩
  rw [hna, hnb]
  rw [hna] at hla; rw [hnb] at hlb
  have HNA := Lib.hid hna
  have HNB := Lib.hid hnb
  clear hna hnb
  go_enter Tryd.func3, Tryd.ntmps3
  go_wp2_with fail
  refine (c1 _ hw0).mono ?_
  rintro e w1 ⟨rfl, hw1⟩
  clear c1 hw0
  go_wp2_with fail
  go_loopw [5, 6] (fun x i wr => ∃ k : Nat, k ≤ na ∧ i = .int .i64 k ∧ x = .string (catB xs k) ∧ Wd w wr) (fun _ i _ => na - (intOf i).toNat)
  case atStart => exact ⟨0, by omega, rfl, rfl, hw1⟩
  case round =>
    obtain ⟨k, hk, rfl, rfl, hwr⟩ := hrel
    by_cases hlt : k < na
    · have hlt' : k < xs.length := by rw [HNA.out]; exact hlt
      obtain ⟨b, off, rfl, hc⟩ := ha.below hwr.2.2 k hlt'
      have hz := catB_size xs k
      have hs1 := size_mem xs k hlt'
      have hst := Lib.hid (catB_step xs k hlt')
      have cS := show_any xs[k] wr (by omega) hwr.1
      have hS : (⟨(showL xs[k].data.toList).toArray⟩ : ByteArray).size ≤ 2 * xs[k].size + 2 := by
        rw [← len_size, ← len_size]; exact show_len _
      generalize xs[k] = s at *
      generalize (⟨(showL s.data.toList).toArray⟩ : ByteArray) = t at *
      generalize hcat : catB xs k = x at *
      clear hcat
      go_wp2_with (go_at_call 5; refine cS.mono ?_; rintro e w' ⟨rfl, hb'⟩)
      go_roundw
      case rel => exact ⟨k + 1, by omega, by go_num, by rw [hst.out], Wd.next hb' hwr⟩
      case measure => simp [intOf]; omega
    · obtain rfl : na = k := by omega
      go_wp2_with fail
      have hs0 := Lib.hid (sameB_zero xs ys)
      go_loopw [7, 8, 9] (fun y sm i wr => ∃ k : Nat, k ≤ nb ∧ i = .int .i64 k ∧ y = .string (catB ys k) ∧ sm = .bool (sameB xs ys k) ∧ Wd w wr) (fun _ _ i _ => nb - (intOf i).toNat)
      case atStart => exact ⟨0, by omega, rfl, rfl, by rw [← hs0.out, HNA.out, HNB.out], hwr⟩
      case round =>
        obtain ⟨k, hk, rfl, rfl, rfl, hwr⟩ := hrel
        by_cases hlt : k < nb
        · have hlt' : k < ys.length := by rw [HNB.out]; exact hlt
          obtain ⟨b, off, rfl, hcell⟩ := hb.at k hlt'
          have hc := hcell wr hwr.2.2
          have hz := catB_size ys k
          have hs1 := size_mem ys k hlt'
          have hst := Lib.hid (catB_step ys k hlt')
          have cS := show_any ys[k] wr (by omega) hwr.1
          have hS : (⟨(showL ys[k].data.toList).toArray⟩ : ByteArray).size ≤ 2 * ys[k].size + 2 := by
            rw [← len_size, ← len_size]; exact show_len _
          cases hsm : sameB xs ys k
          · have hno := Lib.hid (sameB_off xs ys k hlt' hsm)
            generalize ys[k] = s at *
            generalize (⟨(showL s.data.toList).toArray⟩ : ByteArray) = t at *
            generalize hcat : catB ys k = x at *
            clear hcat hsm hcell
            go_wp2_with (go_at_call 5; refine cS.mono ?_; rintro e w' ⟨rfl, hb'⟩)
            have hw2 := Wd.next hb' hwr
            go_quiet (fail)
            go_wp2
            go_roundw
            case rel => exact ⟨k + 1, by omega, by go_num, by rw [hst.out], by rw [← hno.out], wd_drewN hw2 _⟩
            case measure => simp [intOf]; omega
          · have hlen := sameB_len xs ys k hsm
            have hlt2 : k < xs.length := by omega
            have hyes := Lib.hid (sameB_step xs ys k hlt2 hlt' hsm)
            obtain ⟨b2, off2, rfl, hcell2⟩ := ha.at k hlt2
            generalize xs[k] = s2 at *
            generalize ys[k] = s at *
            generalize (⟨(showL s.data.toList).toArray⟩ : ByteArray) = t at *
            generalize hcat : catB ys k = x at *
            have hk1 : k < na := by rw [HNA.out] at hlt2; exact hlt2
            have HC := Lib.hid hcell
            have HC2 := Lib.hid hcell2
            clear hcat hsm hlen hcell hcell2
            go_wp2_with (go_at_call 5; refine cS.mono ?_; rintro e w' ⟨rfl, hb'⟩)
            have hw2 := Wd.next hb' hwr
            have hc3 := HC.out w' hw2.2.2
            have hc4 := HC2.out w' hw2.2.2
            have hk0 : (0 : Int) ≤ (k : Int) := Int.natCast_nonneg _
            have hka : (k : Int) < (na : Int) := by omega
            have hkb : (k : Int) < (nb : Int) := by omega
            go_quiet (fail)
            go_wp2
            go_roundw
            case rel => exact ⟨k + 1, by omega, by go_num, by rw [hst.out], by rw [← hyes.out], wd_drewN hw2 _⟩
            case measure => simp [intOf]; omega
        · obtain rfl : nb = k := by omega
          have he := sameB_end xs ys hza hzb
          rw [HNA.out, HNB.out] at he
          have HE := Lib.hid he
          have ht0 := tailB_zero xs
          rw [HNA.out] at ht0
          have HT0 := Lib.hid ht0
          have hzx := catB_size xs na
          have hzy := catB_size ys nb
          generalize hX : catB xs na = X at *
          generalize hY : catB ys nb = Y at *
          generalize sameB xs ys nb = sm at *
          clear hX hY he ht0
          have hq : (X.toList == Y.toList) = sm := HE.out
          cases sm
          all_goals
            go_wp2_with fail
            clear hq hzx hzy HE
            go_loopw [5, 10] (fun x i wr => ∃ k : Nat, k ≤ na ∧ i = .int .i64 k ∧ x = .string (tailB xs k) ∧ Wd w wr) (fun _ i _ => na - (intOf i).toNat)
            case atStart => exact ⟨0, by omega, rfl, by rw [HT0.out], hwr⟩
            case round =>
              clear hwr
              obtain ⟨k, hk, rfl, rfl, hwr⟩ := hrel
              by_cases hlt : k < na
              · have hlt' : k < xs.length := by rw [HNA.out]; exact hlt
                obtain ⟨b, off, rfl, hcell⟩ := ha.at k hlt'
                obtain ⟨t1, t2, t3⟩ := tailB_told xs k hlt' hza
                have hz := tailB_size xs k
                have cS := shown_any (tailB xs k) wr (by unfold maxLen; omega) hwr.1
                rw [t1, t2, t3] at cS
                generalize xs[k] = s at *
                have HT := Lib.hid (rfl : tailB xs (k + 1) = tailB xs (k + 1))
                generalize hR : tailB xs (k + 1) = R at cS
                have HR := Lib.hid hR
                generalize tailB xs k = x at *
                have HC := Lib.hid hcell
                clear hR hcell t1 t2 t3 HT
                go_wp2_with fail
                refine cS.mono ?_
                rintro e w' ⟨rfl, hb'⟩
                have hw2 := Wd.next hb' hwr
                have hc3 := HC.out w' hw2.2.2
                have hk0 : (0 : Int) ≤ (k : Int) := Int.natCast_nonneg _
                have hka : (k : Int) < (na : Int) := by omega
                go_wp2_with fail
                go_roundw
                case rel => exact ⟨k + 1, by omega, by go_num, by rw [HR.out], hw2⟩
                case measure => simp [intOf]; omega
              · obtain rfl : na = k := by omega
                have ht1 := tailB_end xs
                rw [HNA.out] at ht1
                rw [ht1]
                have cS := shown_any ⟨#[]⟩ wr (by decide) hwr.1
                rw [show shownT (⟨#[]⟩ : ByteArray).data.toList = [] from by kernel_rfl, show shownR (⟨#[]⟩ : ByteArray).data.toList = [] from by kernel_rfl, show shownE (⟨#[]⟩ : ByteArray).data.toList = 4 from by kernel_rfl] at cS
                clear ht1
                go_wp2_with fail
                refine cS.mono ?_
                rintro e w' ⟨rfl, hb'⟩
                have hw2 := Wd.next hb' hwr
                go_wp2_with fail
                go_ret
                exact ⟨rfl, hw2.2.2⟩
end Go.Proofs.YtbhgeikijifbgabDoor
