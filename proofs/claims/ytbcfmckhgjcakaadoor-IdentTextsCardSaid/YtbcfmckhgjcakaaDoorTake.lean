/- lines.Take and lines.Read, each by its contract. -/
import Derived.Test.YtbcfmckhgjcakaaDoorNums
import Derived.Deep.RegionHeld3
import Derived.StillTactics
import Derived.OwnWalk
namespace Go.Proofs.YtbcfmckhgjcakaaDoor
open Go.RowKit

theorem prefix_neg (l : List UInt8) : Lib.hasPrefix l [45] = negB l := by
  cases l with
  | nil => rfl
  | cons a t => simp only [Lib.hasPrefix, negB, List.isPrefixOf, Bool.and_true, List.head?_cons, Option.some_beq_some]; exact BEq.comm
theorem trim_body (l : List UInt8) : Lib.trimPrefix l [45] = bodyL l := by
  unfold Lib.trimPrefix bodyL
  rw [prefix_neg]
  cases l with
  | nil => simp
  | cons a t => simp
theorem val_neg (l : List UInt8) (h : negB l = true) : wrap64 (-(wrap64 (dv (digsL l)))) = wrap64 (valL l) := by
  unfold valL; rw [h]; simp only [if_true]; unfold wrap64; omega
theorem val_pos (l : List UInt8) (h : negB l = false) : wrap64 (dv (digsL l)) = wrap64 (valL l) := by
  unfold valL; rw [h]; simp only [Bool.false_eq_true, if_false]
theorem wrap64_lo (n : Int) : -9223372036854775808 ≤ wrap64 n ∧ wrap64 n ≤ 9223372036854775807 := by unfold wrap64; omega
theorem wrap64_same (n : Int) (h0 : -9223372036854775808 ≤ n) (h1 : n ≤ 9223372036854775807) : wrap64 n = n := by unfold wrap64; omega
theorem ok_range (l : List UInt8) (h : takeOk l = true) : -9223372036854775808 ≤ valL l ∧ valL l ≤ 9223372036854775807 := by
  unfold takeOk at h
  simp only [Bool.and_eq_true, decide_eq_true_eq] at h
  exact ⟨h.1.2, h.2⟩
theorem ok_iff (l : List UInt8) : Lib.itoa (wrap64 (valL l)) = formL l ↔ takeOk l = true := by
  constructor
  · intro h
    exact (ok_of_form l _ (wrap64_lo _).1 (wrap64_lo _).2 h).1
  · intro h
    obtain ⟨h0, h1⟩ := ok_range l h
    rw [wrap64_same _ h0 h1]
    exact form_of_ok l h
theorem rest_len (l : List UInt8) : (restL l).length ≤ l.length := by
  have := congrArg List.length (form_rest l)
  rw [List.length_append] at this; omega
theorem form_take (l : List UInt8) : l.take (l.length - (restL l).length) = formL l := by
  have h := form_rest l
  have h2 := congrArg List.length h
  rw [List.length_append] at h2
  conv => lhs; rw [← h]
  rw [List.take_append_of_le_length (by rw [h]; omega)]
  rw [List.take_of_length_le (by rw [h]; omega)]
theorem three_ret {n m e f : Int} {a b : ByteArray} (h1 : n = m) (h2 : a = b) (h3 : e = f) : Ending.returned (.tuple #[.int .i64 n, .string a, .int .i64 e]) = .returned (.tuple #[.int .i64 m, .string b, .int .i64 f]) := by rw [h1, h2, h3]

theorem flipW {P : Program} {f : Nat} {a : Array Value} {w : World} {E : Ending → Prop} (h : Calls P f a w fun e w' => E e ∧ w' = w) : Calls P f a w fun e w' => E e ∧ w = w' := h.mono fun _ _ ⟨h1, h2⟩ => ⟨h1, h2.symm⟩
theorem take_bad {l F : List UInt8} {x : Int} (hx : x = wrap64 (valL l)) (hf : F = formL l) (h : (!F == Lib.itoa x) = true) : 0 = takeN l ∧ (⟨#[]⟩ : ByteArray) = ⟨(takeT l).toArray⟩ ∧ 4 = takeE l := by
  have hno : takeOk l = false := by
    cases hk : takeOk l with
    | false => rfl
    | true =>
      rw [hx, hf, (ok_iff l).2 hk] at h
      simp at h
  unfold takeN takeT takeE
  rw [hno]
  exact ⟨rfl, rfl, rfl⟩
theorem take_good {l F : List UInt8} {x : Int} {R : ByteArray} (hx : x = wrap64 (valL l)) (hf : F = formL l) (hR : R.data.toList = restL l) (h : (!F == Lib.itoa x) = false) : x = takeN l ∧ R = ⟨(takeT l).toArray⟩ ∧ 0 = takeE l := by
  have hok : takeOk l = true := by
    rw [← ok_iff, ← hx, ← hf]
    simp only [Bool.not_eq_false', beq_iff_eq] at h
    exact h.symm
  unfold takeN takeT takeE
  rw [hok]
  obtain ⟨h0, h1⟩ := ok_range l hok
  refine ⟨by rw [hx, wrap64_same _ h0 h1]; rfl, ?_, rfl⟩
  apply WideShapes.bytes_inj
  rw [hR]; rfl
theorem extract_upto (s : ByteArray) (k : Nat) : (s.extract 0 k).data.toList = s.data.toList.take k := by simp
theorem form_bytes (s R : ByteArray) (hR : R.data.toList = restL s.data.toList) : (s.extract 0 (s.size - R.size)).toList = formL s.data.toList := by
  rw [ByteArray.toList_eq, extract_upto, ← form_take, len_size, ← hR, len_size]
def NumS (w W : World) : Prop := Tabs W ∧ Below w.heap.size w W
theorem NumS.drew {w W : World} (h : NumS w W) : NumS w W.drew := ⟨h.1, h.2.drew⟩
theorem NumS.next {w W W' : World} (hb : Below W.heap.size W W') (h : NumS w W) : NumS w W' := ⟨h.1.below hb, h.2.trans (hb.mono h.2.size)⟩

end Go.Proofs.YtbcfmckhgjcakaaDoor
