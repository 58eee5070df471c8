/- Plain facts about counted texts, one behind the other: no program. -/
import Derived.Test.YtbhgeikijifbgaaDoorTake
import Derived.Test.YtbhgeikijifbgaaDoorShow
namespace Go.Proofs.YtbhgeikijifbgaaDoor
open Go

theorem dig_head (u : Nat) : ∃ c t, Lib.decDigits u = c :: t ∧ isDig c = true := by
  have h := dec_digs u
  cases hd : Lib.decDigits u with
  | nil => exact absurd hd (dec_ne u)
  | cons c t =>
    rw [hd] at h
    simp only [List.all_cons, Bool.and_eq_true] at h
    exact ⟨c, t, rfl, h.1⟩
/-- A counted text, with whatever behind it, is read as that text and what is behind it. -/
theorem shown_show (s t : List UInt8) (hs : s.length ≤ 9223372036854775807) :
    shownOk (showL s ++ t) = true ∧ shownT (showL s ++ t) = s ∧ shownR (showL s ++ t) = t ∧ shownE (showL s ++ t) = 0 := by
  have hl : showL s ++ t = Lib.decDigits s.length ++ 58 :: (s ++ t) := by
    unfold showL; rw [Lib.itoa_nonneg]; simp
  have hneg : negB (showL s ++ t) = false := by
    obtain ⟨c, r, hd, hc⟩ := dig_head s.length
    rw [hl, hd]
    unfold negB
    rw [List.cons_append, List.head?_cons]
    simpa using dig_not_sign c hc
  have hbody : bodyL (showL s ++ t) = Lib.decDigits s.length ++ 58 :: (s ++ t) := by unfold bodyL; rw [hneg, hl]; rfl
  have hall : ∀ c ∈ Lib.decDigits s.length, isDig c = true := List.all_eq_true.1 (dec_digs _)
  have h58 : isDig 58 = false := by decide
  have hdigs : digsL (showL s ++ t) = Lib.decDigits s.length := by
    unfold digsL; rw [hbody, List.takeWhile_append_of_pos hall, List.takeWhile_cons, h58]; simp
  have hrest : restL (showL s ++ t) = 58 :: (s ++ t) := by
    unfold restL; rw [hbody, List.dropWhile_append_of_pos hall, List.dropWhile_cons, h58]; simp
  have hval : valL (showL s ++ t) = s.length := by unfold valL; rw [hneg, hdigs, dv_dec]; rfl
  have hok : takeOk (showL s ++ t) = true := by
    refine (ok_of_form _ (s.length : Int) (by omega) (by omega) ?_).1
    unfold formL; rw [hneg, hdigs, Lib.itoa_nonneg]; rfl
  have hshown : shownOk (showL s ++ t) = true := by
    unfold shownOk
    rw [hok, hrest, hval]
    simp only [List.head?_cons, List.tail_cons, List.length_append]
    rw [decide_eq_true (by omega : (0 : Int) ≤ (s.length : Int)), decide_eq_true (by omega : (s.length : Int) ≤ ((s.length + t.length : Nat) : Int))]
    rfl
  refine ⟨hshown, ?_, ?_, ?_⟩
  · unfold shownT; rw [hshown, hrest, hval, Int.toNat_natCast]; simp
  · unfold shownR; rw [hshown, hrest, hval, Int.toNat_natCast]; simp
  · unfold shownE; rw [hshown]; rfl

/-- Counted texts, one behind the other. -/
def concatL (ls : List (List UInt8)) : List UInt8 := (ls.map showL).flatten
theorem concat_nil : concatL [] = [] := rfl
theorem concat_cons (l : List UInt8) (ls : List (List UInt8)) : concatL (l :: ls) = showL l ++ concatL ls := by simp [concatL]
theorem concat_snoc (ls : List (List UInt8)) (l : List UInt8) : concatL (ls ++ [l]) = concatL ls ++ showL l := by simp [concatL]
theorem show_ne (l : List UInt8) (t : List UInt8) : showL l ++ t ≠ [] := by
  unfold showL; simp
/-- From unlike lists of texts come unlike ones. -/
theorem concat_inj : ∀ (a b : List (List UInt8)), (∀ l ∈ a, l.length ≤ 9223372036854775807) → (∀ l ∈ b, l.length ≤ 9223372036854775807) → concatL a = concatL b → a = b
  | [], [], _, _, _ => rfl
  | [], y :: b, _, _, h => by rw [concat_cons] at h; exact absurd h.symm (show_ne y _)
  | x :: a, [], _, _, h => by rw [concat_cons] at h; exact absurd h (show_ne x _)
  | x :: a, y :: b, ha, hb, h => by
    rw [concat_cons, concat_cons] at h
    have hx := shown_show x (concatL a) (ha x (List.mem_cons_self ..))
    have hy := shown_show y (concatL b) (hb y (List.mem_cons_self ..))
    rw [h] at hx
    have e1 : x = y := hx.2.1.symm.trans hy.2.1
    have e2 : concatL a = concatL b := hx.2.2.1.symm.trans hy.2.2.1
    rw [e1, concat_inj a b (fun l hl => ha l (List.mem_cons_of_mem _ hl)) (fun l hl => hb l (List.mem_cons_of_mem _ hl)) e2]
/-- How long they get. -/
theorem show_len (l : List UInt8) : (showL l).length ≤ 2 * l.length + 2 := by
  unfold showL
  rw [Lib.itoa_nonneg, List.length_append, List.length_cons]
  have := dec_len l.length
  omega
theorem concat_len : ∀ (ls : List (List UInt8)), (concatL ls).length ≤ 2 * (ls.map (fun l => l.length + 1)).sum
  | [] => by simp [concatL]
  | l :: ls => by
    rw [concat_cons, List.length_append, List.map_cons, List.sum_cons]
    have h1 := show_len l
    have h2 := concat_len ls
    omega
theorem sum_take (ls : List (List UInt8)) (k : Nat) : ((ls.take k).map (fun l => l.length + 1)).sum ≤ (ls.map (fun l => l.length + 1)).sum := by
  conv => rhs; rw [← List.take_append_drop k ls]
  rw [List.map_append, List.sum_append]; omega
theorem sum_mem (ls : List (List UInt8)) (l : List UInt8) (h : l ∈ ls) : l.length + 1 ≤ (ls.map (fun l => l.length + 1)).sum := by
  induction ls with
  | nil => cases h
  | cons x ls ih =>
    rw [List.map_cons, List.sum_cons]
    cases h with
    | head => omega
    | tail _ h => have := ih h; omega
end Go.Proofs.YtbhgeikijifbgaaDoor
