/- Texts of the proof, merged: Take, Show, Concat. -/
import Derived.Test.YtfkkodcppaakjaaGreatDoorRd9
import Derived.Deep.RegionHeld3
import Derived.StillTactics
import Derived.OwnWalk
/- lines.Take and lines.Read, each by its contract. -/
namespace Go.Proofs.YtfkkodcppaakjaaGreatDoor
open Go.RowKit

theorem prefix_neg (l : List UInt8) : Lib.hasPrefix l [45] = negB l := by
  cases l with
  | nil => rfl
  | cons a t => simp only [Lib.hasPrefix, negB, List.isPrefixOf, Bool.and_true, List.head?_cons, Option.some_beq_some]; exact BEq.comm
theorem trim_body (l : List UInt8) : Lib.trimPrefix l [45] = bodyL l := by
  unfold Lib.trimPrefix bodyL
  rw [prefix_neg]
  cases l with
  | nil => simp
  | cons a t => simp
theorem val_neg (l : List UInt8) (h : negB l = true) : wrap64 (-(wrap64 (dv (digsL l)))) = wrap64 (valL l) := by
  unfold valL; rw [h]; simp only [if_true]; unfold wrap64; omega
theorem val_pos (l : List UInt8) (h : negB l = false) : wrap64 (dv (digsL l)) = wrap64 (valL l) := by
  unfold valL; rw [h]; simp only [Bool.false_eq_true, if_false]
theorem wrap64_lo (n : Int) : -9223372036854775808 ≤ wrap64 n ∧ wrap64 n ≤ 9223372036854775807 := by unfold wrap64; omega
theorem wrap64_same (n : Int) (h0 : -9223372036854775808 ≤ n) (h1 : n ≤ 9223372036854775807) : wrap64 n = n := by unfold wrap64; omega
theorem ok_range (l : List UInt8) (h : takeOk l = true) : -9223372036854775808 ≤ valL l ∧ valL l ≤ 9223372036854775807 := by
  unfold takeOk at h
  simp only [Bool.and_eq_true, decide_eq_true_eq] at h
  exact ⟨h.1.2, h.2⟩
theorem ok_iff (l : List UInt8) : Lib.itoa (wrap64 (valL l)) = formL l ↔ takeOk l = true := by
  constructor
  · intro h
    exact (ok_of_form l _ (wrap64_lo _).1 (wrap64_lo _).2 h).1
  · intro h
    obtain ⟨h0, h1⟩ := ok_range l h
    rw [wrap64_same _ h0 h1]
    exact form_of_ok l h
theorem rest_len (l : List UInt8) : (restL l).length ≤ l.length := by
  have := congrArg List.length (form_rest l)
  rw [List.length_append] at this; omega
theorem form_take (l : List UInt8) : l.take (l.length - (restL l).length) = formL l := by
  have h := form_rest l
  have h2 := congrArg List.length h
  rw [List.length_append] at h2
  conv => lhs; rw [← h]
  rw [List.take_append_of_le_length (by rw [h]; omega)]
  rw [List.take_of_length_le (by rw [h]; omega)]
theorem three_ret {n m e f : Int} {a b : ByteArray} (h1 : n = m) (h2 : a = b) (h3 : e = f) : Ending.returned (.tuple #[.int .i64 n, .string a, .int .i64 e]) = .returned (.tuple #[.int .i64 m, .string b, .int .i64 f]) := by rw [h1, h2, h3]

theorem flipW {P : Program} {f : Nat} {a : Array Value} {w : World} {E : Ending → Prop} (h : Calls P f a w fun e w' => E e ∧ w' = w) : Calls P f a w fun e w' => E e ∧ w = w' := h.mono fun _ _ ⟨h1, h2⟩ => ⟨h1, h2.symm⟩
theorem take_bad {l F : List UInt8} {x : Int} (hx : x = wrap64 (valL l)) (hf : F = formL l) (h : (!F == Lib.itoa x) = true) : 0 = takeN l ∧ (⟨#[]⟩ : ByteArray) = ⟨(takeT l).toArray⟩ ∧ 4 = takeE l := by
  have hno : takeOk l = false := by
    cases hk : takeOk l with
    | false => rfl
    | true =>
      rw [hx, hf, (ok_iff l).2 hk] at h
      simp at h
  unfold takeN takeT takeE
  rw [hno]
  exact ⟨rfl, rfl, rfl⟩
theorem take_good {l F : List UInt8} {x : Int} {R : ByteArray} (hx : x = wrap64 (valL l)) (hf : F = formL l) (hR : R.data.toList = restL l) (h : (!F == Lib.itoa x) = false) : x = takeN l ∧ R = ⟨(takeT l).toArray⟩ ∧ 0 = takeE l := by
  have hok : takeOk l = true := by
    rw [← ok_iff, ← hx, ← hf]
    simp only [Bool.not_eq_false', beq_iff_eq] at h
    exact h.symm
  unfold takeN takeT takeE
  rw [hok]
  obtain ⟨h0, h1⟩ := ok_range l hok
  refine ⟨by rw [hx, wrap64_same _ h0 h1]; rfl, ?_, rfl⟩
  apply WideShapes.bytes_inj
  rw [hR]; rfl
theorem extract_upto (s : ByteArray) (k : Nat) : (s.extract 0 k).data.toList = s.data.toList.take k := by simp
theorem form_bytes (s R : ByteArray) (hR : R.data.toList = restL s.data.toList) : (s.extract 0 (s.size - R.size)).toList = formL s.data.toList := by
  rw [ByteArray.toList_eq, extract_upto, ← form_take, len_size, ← hR, len_size]
def NumS (w W : World) : Prop := Tabs W ∧ Below w.heap.size w W
theorem NumS.drew {w W : World} (h : NumS w W) : NumS w W.drew := ⟨h.1, h.2.drew⟩
theorem NumS.next {w W W' : World} (hb : Below W.heap.size W W') (h : NumS w W) : NumS w W' := ⟨h.1.below hb, h.2.trans (hb.mono h.2.size)⟩

end Go.Proofs.YtfkkodcppaakjaaGreatDoor
/- Show and Shown of package lines, each by its contract. -/
namespace Go.Proofs.YtfkkodcppaakjaaGreatDoor
open Go.RowKit

/-- The counted text. -/
def showL (l : List UInt8) : List UInt8 := Lib.itoa l.length ++ 58 :: l
def shownOk (l : List UInt8) : Bool := takeOk l && ((restL l).head? == some 58) && decide (0 ≤ valL l) && decide (valL l ≤ ((restL l).tail.length : Int))
def shownT (l : List UInt8) : List UInt8 := if shownOk l then (restL l).tail.take (valL l).toNat else []
def shownR (l : List UInt8) : List UInt8 := if shownOk l then (restL l).tail.drop (valL l).toNat else []
def shownE (l : List UInt8) : Int := if shownOk l then 0 else 4

theorem show_bytes (s : ByteArray) : (⟨(Lib.itoa (s.size : Int)).toArray⟩ ++ ⟨#[58]⟩ ++ s : ByteArray) = ⟨(showL s.data.toList).toArray⟩ := by
  apply WideShapes.bytes_inj
  rw [Joins.data_append, Joins.data_append]
  unfold showL
  rw [len_size]
  simp

theorem str3_ret {a b c d : ByteArray} {e f : Int} (h1 : a = b) (h2 : c = d) (h3 : e = f) : Ending.returned (.tuple #[.string a, .string c, .int .i64 e]) = .returned (.tuple #[.string b, .string d, .int .i64 f]) := by rw [h1, h2, h3]
theorem shown_no (l : List UInt8) (h : shownOk l = false) : (⟨#[]⟩ : ByteArray) = ⟨(shownT l).toArray⟩ ∧ (⟨#[]⟩ : ByteArray) = ⟨(shownR l).toArray⟩ ∧ 4 = shownE l := by
  unfold shownT shownR shownE; rw [h]; exact ⟨rfl, rfl, rfl⟩
theorem shown_bad1 (l : List UInt8) (h : takeOk l = false) : shownOk l = false := by unfold shownOk; rw [h]; rfl
theorem shown_bad2 (l : List UInt8) (h : Lib.hasPrefix (restL l) [58] = false) : shownOk l = false := by
  unfold shownOk
  rw [show ((restL l).head? == some 58) = false from ?_]
  · simp
  · cases hr : restL l with
    | nil => rfl
    | cons a t =>
      rw [hr] at h
      simp only [Lib.hasPrefix, List.isPrefixOf, Bool.and_true] at h
      simp only [List.head?_cons, Option.some_beq_some]
      rw [BEq.comm]; exact h
theorem shown_bad3 (l : List UInt8) (h : valL l < 0) : shownOk l = false := by
  unfold shownOk; rw [decide_eq_false (by omega : ¬ 0 ≤ valL l)]; simp
theorem shown_bad4 (l : List UInt8) (h : ((restL l).tail.length : Int) < valL l) : shownOk l = false := by
  unfold shownOk; rw [decide_eq_false (by omega : ¬ valL l ≤ ((restL l).tail.length : Int))]; simp
theorem shown_yes (l : List UInt8) (B : ByteArray) (n : Nat) (hB : B.data.toList = (restL l).tail) (h : takeOk l = true) (hp : Lib.hasPrefix (restL l) [58] = true) (hn : valL l = n) (h1 : n ≤ B.size) :
    B.extract 0 n = ⟨(shownT l).toArray⟩ ∧ B.extract n B.size = ⟨(shownR l).toArray⟩ ∧ 0 = shownE l := by
  have hok : shownOk l = true := by
    unfold shownOk
    rw [h, hn, ← hB, len_size]
    have : ((restL l).head? == some 58) = true := by
      cases hr : restL l with
      | nil => rw [hr] at hp; cases hp
      | cons a t =>
        rw [hr] at hp
        simp only [Lib.hasPrefix, List.isPrefixOf, Bool.and_true] at hp
        simp only [List.head?_cons, Option.some_beq_some]
        rw [BEq.comm]; exact hp
    rw [this, decide_eq_true (by omega : (0 : Int) ≤ (n : Int)), decide_eq_true (by omega : (n : Int) ≤ (B.size : Int))]; rfl
  unfold shownT shownR shownE
  rw [hok, hn, ← hB, Int.toNat_natCast]
  refine ⟨?_, ?_, rfl⟩
  · apply WideShapes.bytes_inj; rw [extract_upto]; rfl
  · apply WideShapes.bytes_inj; rw [Lib.extract_to_end]; rfl
theorem trim_colon (l : List UInt8) (h : Lib.hasPrefix l [58] = true) : Lib.trimPrefix l [58] = l.tail := by
  unfold Lib.trimPrefix; rw [h]
  cases l with
  | nil => rfl
  | cons a t => rfl
theorem take_is (l : List UInt8) (h : takeOk l = true) : takeN l = valL l ∧ takeT l = restL l ∧ takeE l = 0 := by
  unfold takeN takeT takeE; rw [h]; exact ⟨rfl, rfl, rfl⟩
theorem take_not (l : List UInt8) (h : takeOk l = false) : takeN l = 0 ∧ takeT l = [] ∧ takeE l = 4 := by
  unfold takeN takeT takeE; rw [h]; exact ⟨rfl, rfl, rfl⟩

end Go.Proofs.YtfkkodcppaakjaaGreatDoor
/- Plain facts about counted texts, one behind the other: no program. -/
namespace Go.Proofs.YtfkkodcppaakjaaGreatDoor
open Go

theorem dig_head (u : Nat) : ∃ c t, Lib.decDigits u = c :: t ∧ isDig c = true := by
  have h := dec_digs u
  cases hd : Lib.decDigits u with
  | nil => exact absurd hd (dec_ne u)
  | cons c t =>
    rw [hd] at h
    simp only [List.all_cons, Bool.and_eq_true] at h
    exact ⟨c, t, rfl, h.1⟩
/-- A counted text, with whatever behind it, is read as that text and what is behind it. -/
theorem shown_show (s t : List UInt8) (hs : s.length ≤ 9223372036854775807) :
    shownOk (showL s ++ t) = true ∧ shownT (showL s ++ t) = s ∧ shownR (showL s ++ t) = t ∧ shownE (showL s ++ t) = 0 := by
  have hl : showL s ++ t = Lib.decDigits s.length ++ 58 :: (s ++ t) := by
    unfold showL; rw [Lib.itoa_nonneg]; simp
  have hneg : negB (showL s ++ t) = false := by
    obtain ⟨c, r, hd, hc⟩ := dig_head s.length
    rw [hl, hd]
    unfold negB
    rw [List.cons_append, List.head?_cons]
    simpa using dig_not_sign c hc
  have hbody : bodyL (showL s ++ t) = Lib.decDigits s.length ++ 58 :: (s ++ t) := by unfold bodyL; rw [hneg, hl]; rfl
  have hall : ∀ c ∈ Lib.decDigits s.length, isDig c = true := List.all_eq_true.1 (dec_digs _)
  have h58 : isDig 58 = false := by decide
  have hdigs : digsL (showL s ++ t) = Lib.decDigits s.length := by
    unfold digsL; rw [hbody, List.takeWhile_append_of_pos hall, List.takeWhile_cons, h58]; simp
  have hrest : restL (showL s ++ t) = 58 :: (s ++ t) := by
    unfold restL; rw [hbody, List.dropWhile_append_of_pos hall, List.dropWhile_cons, h58]; simp
  have hval : valL (showL s ++ t) = s.length := by unfold valL; rw [hneg, hdigs, dv_dec]; rfl
  have hok : takeOk (showL s ++ t) = true := by
    refine (ok_of_form _ (s.length : Int) (by omega) (by omega) ?_).1
    unfold formL; rw [hneg, hdigs, Lib.itoa_nonneg]; rfl
  have hshown : shownOk (showL s ++ t) = true := by
    unfold shownOk
    rw [hok, hrest, hval]
    simp only [List.head?_cons, List.tail_cons, List.length_append]
    rw [decide_eq_true (by omega : (0 : Int) ≤ (s.length : Int)), decide_eq_true (by omega : (s.length : Int) ≤ ((s.length + t.length : Nat) : Int))]
    rfl
  refine ⟨hshown, ?_, ?_, ?_⟩
  · unfold shownT; rw [hshown, hrest, hval, Int.toNat_natCast]; simp
  · unfold shownR; rw [hshown, hrest, hval, Int.toNat_natCast]; simp
  · unfold shownE; rw [hshown]; rfl

/-- Counted texts, one behind the other. -/
def concatL (ls : List (List UInt8)) : List UInt8 := (ls.map showL).flatten
theorem concat_nil : concatL [] = [] := rfl
theorem concat_cons (l : List UInt8) (ls : List (List UInt8)) : concatL (l :: ls) = showL l ++ concatL ls := by simp [concatL]
theorem concat_snoc (ls : List (List UInt8)) (l : List UInt8) : concatL (ls ++ [l]) = concatL ls ++ showL l := by simp [concatL]
theorem show_ne (l : List UInt8) (t : List UInt8) : showL l ++ t ≠ [] := by
  unfold showL; simp
/-- From unlike lists of texts come unlike ones. -/
theorem concat_inj : ∀ (a b : List (List UInt8)), (∀ l ∈ a, l.length ≤ 9223372036854775807) → (∀ l ∈ b, l.length ≤ 9223372036854775807) → concatL a = concatL b → a = b
  | [], [], _, _, _ => rfl
  | [], y :: b, _, _, h => by rw [concat_cons] at h; exact absurd h.symm (show_ne y _)
  | x :: a, [], _, _, h => by rw [concat_cons] at h; exact absurd h (show_ne x _)
  | x :: a, y :: b, ha, hb, h => by
    rw [concat_cons, concat_cons] at h
    have hx := shown_show x (concatL a) (ha x (List.mem_cons_self ..))
    have hy := shown_show y (concatL b) (hb y (List.mem_cons_self ..))
    rw [h] at hx
    have e1 : x = y := hx.2.1.symm.trans hy.2.1
    have e2 : concatL a = concatL b := hx.2.2.1.symm.trans hy.2.2.1
    rw [e1, concat_inj a b (fun l hl => ha l (List.mem_cons_of_mem _ hl)) (fun l hl => hb l (List.mem_cons_of_mem _ hl)) e2]
/-- How long they get. -/
theorem show_len (l : List UInt8) : (showL l).length ≤ 2 * l.length + 2 := by
  unfold showL
  rw [Lib.itoa_nonneg, List.length_append, List.length_cons]
  have := dec_len l.length
  omega
theorem concat_len : ∀ (ls : List (List UInt8)), (concatL ls).length ≤ 2 * (ls.map (fun l => l.length + 1)).sum
  | [] => by simp [concatL]
  | l :: ls => by
    rw [concat_cons, List.length_append, List.map_cons, List.sum_cons]
    have h1 := show_len l
    have h2 := concat_len ls
    omega
theorem sum_take (ls : List (List UInt8)) (k : Nat) : ((ls.take k).map (fun l => l.length + 1)).sum ≤ (ls.map (fun l => l.length + 1)).sum := by
  conv => rhs; rw [← List.take_append_drop k ls]
  rw [List.map_append, List.sum_append]; omega
theorem sum_mem (ls : List (List UInt8)) (l : List UInt8) (h : l ∈ ls) : l.length + 1 ≤ (ls.map (fun l => l.length + 1)).sum := by
  induction ls with
  | nil => cases h
  | cons x ls ih =>
    rw [List.map_cons, List.sum_cons]
    cases h with
    | head => omega
    | tail _ h => have := ih h; omega
end Go.Proofs.YtfkkodcppaakjaaGreatDoor
