/- Texts of the proof, merged: Num, Nums. -/
import Derived.Test.YtfkkodcppaakjaaGreatDoorRd1
import Derived.Test.YtfkkodcppaakjaaGreatDoorRd6
import Derived.Test.YtfkkodcppaakjaaGreatDoorRd8
import Derived.Lib.ItoaNum
import Derived.Lib.ItoaMem
import Derived.IntWalk
import Derived.Lib.LaidTab
import Derived.Lib.AppendIntMem
import Derived.Lib.OthersKept
import Derived.Deep.LoopGhost
import Derived.Deep.QuietTactic
import Derived.BigQuiet
/- Plain facts about numbers and their forms: no program. -/
namespace Go.Proofs.YtfkkodcppaakjaaGreatDoor
open Go

def isDig (c : UInt8) : Bool := decide (48 ≤ c.toNat) && decide (c.toNat ≤ 57)
/-- The number that the digits write. -/
def dv (l : List UInt8) : Nat := l.foldl (fun a c => a * 10 + (c.toNat - 48)) 0
theorem dv_snoc (l : List UInt8) (c : UInt8) : dv (l ++ [c]) = dv l * 10 + (c.toNat - 48) := by simp [dv]
theorem dv_nil : dv [] = 0 := rfl

theorem isDig_iff (c : UInt8) : isDig c = true ↔ 48 ≤ c.toNat ∧ c.toNat ≤ 57 := by unfold isDig; simp
theorem toNat_ofNat (d : Nat) (h : d < 10) : (UInt8.ofNat (48 + d)).toNat = 48 + d := by
  rw [UInt8.toNat_ofNat']; omega
theorem ofNat_digit (c : UInt8) (h : isDig c = true) : UInt8.ofNat (48 + (c.toNat - 48)) = c := by
  have := (isDig_iff c).1 h
  rw [show 48 + (c.toNat - 48) = c.toNat from by omega]
  exact UInt8.ofNat_toNat

theorem dec_small {u : Nat} (h : u < 10) : Lib.decDigits u = [UInt8.ofNat (48 + u)] := by rw [Lib.decDigits, dif_pos h]
theorem dec_big {u : Nat} (h : ¬ u < 10) : Lib.decDigits u = Lib.decDigits (u / 10) ++ [UInt8.ofNat (48 + u % 10)] := by rw [Lib.decDigits, dif_neg h]

theorem dv_dec (u : Nat) : dv (Lib.decDigits u) = u := by
  induction u using Nat.strongRecOn with
  | _ u ih =>
    by_cases h : u < 10
    · rw [dec_small h, show [UInt8.ofNat (48 + u)] = [] ++ [UInt8.ofNat (48 + u)] from rfl, dv_snoc, toNat_ofNat u h, dv_nil]; omega
    · rw [dec_big h, dv_snoc, ih (u / 10) (by omega), toNat_ofNat _ (by omega)]; omega
theorem dec_digs (u : Nat) : (Lib.decDigits u).all isDig = true := by
  induction u using Nat.strongRecOn with
  | _ u ih =>
    by_cases h : u < 10
    · rw [dec_small h]; simp only [List.all_cons, List.all_nil, Bool.and_true]; rw [isDig_iff, toNat_ofNat u h]; omega
    · rw [dec_big h, List.all_append, ih (u / 10) (by omega)]
      simp only [List.all_cons, List.all_nil, Bool.and_true, Bool.true_and]; rw [isDig_iff, toNat_ofNat _ (by omega)]; omega
theorem dec_ne (u : Nat) : Lib.decDigits u ≠ [] := by
  by_cases h : u < 10
  · rw [dec_small h]; simp
  · rw [dec_big h]; simp
theorem dec_head (u : Nat) (h1 : 1 ≤ u) : (Lib.decDigits u).head? ≠ some 48 := by
  induction u using Nat.strongRecOn with
  | _ u ih =>
    by_cases h : u < 10
    · rw [dec_small h]
      simp only [List.head?_cons, ne_eq, Option.some.injEq]
      intro e
      have := congrArg UInt8.toNat e
      rw [toNat_ofNat u h] at this
      have h48 : (48 : UInt8).toNat = 48 := rfl
      omega
    · rw [dec_big h]
      have h2 := ih (u / 10) (by omega) (by omega)
      rw [List.head?_append]
      cases hd : (Lib.decDigits (u / 10)).head? with
      | none => exact absurd (List.head?_eq_none_iff.1 hd) (dec_ne _)
      | some x => rw [hd] at h2; simpa using h2

/-- Digits without noughts ahead are the numeral of their number. -/
theorem dec_dv : ∀ (n : Nat) (l : List UInt8), l.length = n → l.all isDig = true → l ≠ [] → (l.head? = some 48 → l.length = 1) → Lib.decDigits (dv l) = l := by
  intro n
  induction n with
  | zero => intro l h _ hne _; exact absurd (List.eq_nil_of_length_eq_zero h) hne
  | succ n ih =>
    intro l hl ha hne hz
    obtain ⟨t, c, rfl⟩ : ∃ t c, l = t ++ [c] := ⟨l.dropLast, l.getLast hne, (List.dropLast_concat_getLast hne).symm⟩
    rw [List.all_append] at ha
    simp only [List.all_cons, List.all_nil, Bool.and_true, Bool.and_eq_true] at ha
    have hc := (isDig_iff c).1 ha.2
    rw [dv_snoc]
    by_cases ht : t = []
    · subst ht
      rw [dv_nil, dec_small (by omega), Nat.zero_mul, Nat.zero_add, ofNat_digit c ha.2]; rfl
    · have hlen : t.length = n := by simpa using hl
      have hpos : 1 ≤ t.length := by cases t with
        | nil => exact absurd rfl ht
        | cons _ _ => simp
      have hh : t.head? ≠ some 48 := by
        intro e
        have : (t ++ [c]).head? = some 48 := by rw [List.head?_append, e]; rfl
        have := hz this
        rw [List.length_append, List.length_singleton] at this; omega
      have hi := ih t hlen ha.1 ht (fun e => absurd e hh)
      have h1 : 1 ≤ dv t := by
        apply Nat.pos_of_ne_zero
        intro e
        rw [e, dec_small (by decide)] at hi
        rw [← hi] at hh
        exact hh rfl
      rw [dec_big (by omega), show (dv t * 10 + (c.toNat - 48)) / 10 = dv t from by omega, show (dv t * 10 + (c.toNat - 48)) % 10 = c.toNat - 48 from by omega, hi, ofNat_digit c ha.2]

/-! What Take answers. -/
def negB (l : List UInt8) : Bool := l.head? == some 45
def bodyL (l : List UInt8) : List UInt8 := if negB l then l.tail else l
def digsL (l : List UInt8) : List UInt8 := (bodyL l).takeWhile isDig
def restL (l : List UInt8) : List UInt8 := (bodyL l).dropWhile isDig
def valL (l : List UInt8) : Int := if negB l then -(dv (digsL l) : Int) else dv (digsL l)
def formL (l : List UInt8) : List UInt8 := if negB l then 45 :: digsL l else digsL l
/-- Do the digits at the beginning, with the sign, make a number's form? -/
def takeOk (l : List UInt8) : Bool := !(digsL l).isEmpty && !((digsL l).head? == some 48 && (decide (1 < (digsL l).length) || negB l)) && decide (-9223372036854775808 ≤ valL l) && decide (valL l ≤ 9223372036854775807)
def takeN (l : List UInt8) : Int := if takeOk l then valL l else 0
def takeT (l : List UInt8) : List UInt8 := if takeOk l then restL l else []
def takeE (l : List UInt8) : Int := if takeOk l then 0 else 4

theorem digs_all (l : List UInt8) : (digsL l).all isDig = true := List.all_takeWhile
theorem form_rest (l : List UInt8) : formL l ++ restL l = l := by
  unfold formL restL digsL bodyL negB
  by_cases h : l.head? = some 45
  · cases l with
    | nil => simp at h
    | cons a t =>
      simp only [List.head?_cons, Option.some.injEq] at h
      subst h
      simp [List.takeWhile_append_dropWhile]
  · rw [if_neg (by simpa using h), if_neg (by simpa using h), List.takeWhile_append_dropWhile]
theorem dig_not_sign (c : UInt8) (h : isDig c = true) : c ≠ 45 := by
  intro e; subst e; exact absurd h (by decide)

theorem itoa_neg' (n : Int) (h : n < 0) : Lib.itoa n = 45 :: Lib.decDigits n.natAbs := by unfold Lib.itoa; rw [if_pos h]
theorem itoa_pos' (n : Int) (h : ¬ n < 0) : Lib.itoa n = Lib.decDigits n.toNat := by unfold Lib.itoa; rw [if_neg h]

/-- Where the digits make a number's form, the form is the number's. -/
theorem form_of_ok (l : List UInt8) (h : takeOk l = true) : Lib.itoa (valL l) = formL l := by
  unfold takeOk at h
  simp only [Bool.and_eq_true, Bool.not_eq_true', List.isEmpty_eq_false_iff, decide_eq_true_eq] at h
  obtain ⟨⟨⟨hne, hz⟩, _⟩, _⟩ := h
  have hz' : (digsL l).head? = some 48 → (digsL l).length = 1 ∧ negB l = false := by
    intro e
    rw [e] at hz
    simp only [beq_self_eq_true, Bool.true_and, Bool.or_eq_false_iff, decide_eq_false_iff_not] at hz
    have : 1 ≤ (digsL l).length := by cases hd : digsL l with
      | nil => exact absurd hd hne
      | cons _ _ => simp
    exact ⟨by omega, hz.2⟩
  have hd := dec_dv _ (digsL l) rfl (digs_all l) hne (fun e => (hz' e).1)
  unfold valL formL
  cases hn : negB l with
  | false => simp only [Bool.false_eq_true, if_false]; rw [itoa_pos' _ (by omega)]; simpa using hd
  | true =>
    simp only [if_true]
    have h1 : 1 ≤ dv (digsL l) := by
      apply Nat.pos_of_ne_zero
      intro e
      rw [e, dec_small (by decide)] at hd
      have := (hz' (by rw [← hd]; rfl)).2
      rw [hn] at this; cases this
    rw [itoa_neg' _ (by omega)]
    have e : (-(dv (digsL l) : Int)).natAbs = dv (digsL l) := by omega
    rw [e, hd]

/-- A number whose numeral is the form that stands there is the number there, and the digits make a form. -/
theorem ok_of_form (l : List UInt8) (n : Int) (h1 : -9223372036854775808 ≤ n) (h2 : n ≤ 9223372036854775807) (h : Lib.itoa n = formL l) : takeOk l = true ∧ valL l = n := by
  have key : digsL l ≠ [] ∧ ((digsL l).head? = some 48 → (digsL l).length = 1 ∧ negB l = false) ∧ valL l = n := by
    by_cases hn : n < 0
    · rw [itoa_neg' n hn] at h
      unfold formL at h
      cases hb : negB l with
      | false =>
        rw [hb] at h
        simp only [Bool.false_eq_true, if_false] at h
        have := digs_all l
        rw [← h] at this
        simp only [List.all_cons, Bool.and_eq_true] at this
        exact absurd rfl (dig_not_sign 45 this.1)
      | true =>
        rw [hb] at h
        simp only [if_true, List.cons.injEq, true_and] at h
        refine ⟨by rw [← h]; exact dec_ne _, fun e => ?_, ?_⟩
        · rw [← h] at e
          exact absurd e (dec_head _ (by omega))
        · unfold valL; rw [hb, ← h, dv_dec]; simp only [if_true]; omega
    · rw [itoa_pos' n hn] at h
      unfold formL at h
      cases hb : negB l with
      | false =>
        rw [hb] at h
        simp only [Bool.false_eq_true, if_false] at h
        refine ⟨by rw [← h]; exact dec_ne _, fun e => ⟨?_, rfl⟩, ?_⟩
        · by_cases h0 : n.toNat = 0
          · rw [← h, h0, dec_small (by decide)]; rfl
          · rw [← h] at e
            exact absurd e (dec_head _ (by omega))
        · unfold valL; rw [hb, ← h, dv_dec]; simp only [Bool.false_eq_true, if_false]; omega
      | true =>
        rw [hb] at h
        simp only [if_true] at h
        have := dec_digs n.toNat
        rw [h] at this
        simp only [List.all_cons, Bool.and_eq_true] at this
        exact absurd rfl (dig_not_sign 45 this.1)
  obtain ⟨k1, k2, k3⟩ := key
  refine ⟨?_, k3⟩
  unfold takeOk
  rw [k3, decide_eq_true h1, decide_eq_true h2]
  have e1 : (digsL l).isEmpty = false := List.isEmpty_eq_false_iff.2 k1
  rw [e1]
  simp only [Bool.not_false, Bool.true_and, Bool.and_true, Bool.not_eq_true']
  by_cases e : (digsL l).head? = some 48
  · rw [(k2 e).1, (k2 e).2]; simp
  · rw [show ((digsL l).head? == some 48) = false from by simpa using e]; rfl
theorem dec_len (u : Nat) : (Lib.decDigits u).length ≤ u / 9 + 1 := by
  induction u using Nat.strongRecOn with
  | _ u ih =>
    by_cases h : u < 10
    · rw [dec_small h]; simp
    · rw [dec_big h, List.length_append, List.length_singleton]
      have := ih (u / 10) (by omega)
      omega
end Go.Proofs.YtfkkodcppaakjaaGreatDoor
/- Number, digits, Take, Read of package lines, each by its contract. -/
namespace Go.Proofs.YtfkkodcppaakjaaGreatDoor
open Go.RowKit

/-- The library's table of powers, as the world holds it. -/
def Tabs (w : World) : Prop := Lib.TabIs Tryz.prog w "internal/strconv.uint64pow10" .u64 Lib.pow10Tab
theorem Tabs.below {w w' : World} (h : Tabs w) (hb : Below w.heap.size w w') : Tabs w' := by
  unfold Tabs Lib.TabIs World.var? at h ⊢
  rw [show Tryz.prog.globalNamed "internal/strconv.uint64pow10" = some 6 by kernel_rfl] at h ⊢
  simp only [Option.bind_some] at h ⊢
  have hg : 6 < w.heap.size := by
    cases hh : w.heap[6]? with
    | none => rw [hh] at h; cases h
    | some o => exact (Array.getElem?_eq_some_iff.1 hh).1
  rw [hb.block _ hg]; exact h

/-- Every byte before place k is a digit. -/
def DigTo (s : ByteArray) (k : Nat) : Prop := (s.data.toList.take k).all isDig = true
theorem digTo_step (s : ByteArray) (k : Nat) (h : k < s.size) (hn : DigTo s k) (hb : isDig s[k] = true) : DigTo s (k + 1) := by
  unfold DigTo at hn ⊢
  rw [take_snoc s k h, List.all_append, hn]
  simp [hb]
theorem digTo_split (s : ByteArray) (k : Nat) (hn : DigTo s k) (hend : ∀ h : k < s.size, isDig s[k] = false) :
    s.data.toList.takeWhile isDig = s.data.toList.take k ∧ s.data.toList.dropWhile isDig = s.data.toList.drop k := by
  have e := List.take_append_drop k s.data.toList
  have h0 : (s.data.toList.drop k).takeWhile isDig = [] ∧ (s.data.toList.drop k).dropWhile isDig = s.data.toList.drop k := by
    by_cases h : k < s.size
    · rw [drop_cons s k h, List.takeWhile_cons, List.dropWhile_cons, hend h]; simp
    · rw [List.drop_eq_nil_of_le (by simpa using Nat.le_of_not_lt h)]; simp
  have h1 : ∀ c ∈ s.data.toList.take k, isDig c = true := List.all_eq_true.1 hn
  constructor
  · conv => lhs; rw [← e]
    rw [List.takeWhile_append_of_pos h1, h0.1, List.append_nil]
  · conv => lhs; rw [← e]
    rw [List.dropWhile_append_of_pos h1, h0.2]
theorem dv_take (s : ByteArray) (k : Nat) (h : k < s.size) : dv (s.data.toList.take (k + 1)) = dv (s.data.toList.take k) * 10 + (s[k].toNat - 48) := by
  rw [take_snoc s k h, dv_snoc]

theorem step64 (x : Int) (a d : Nat) (hx : x = wrap64 (a : Int)) : wrap64 (wrap64 (x * 10) + (d : Int)) = wrap64 ((a * 10 + d : Nat) : Int) := by
  subst hx
  unfold wrap64
  omega
theorem notDig (s : ByteArray) (k : Nat) (h : k < s.size) (hb : isDig s[k] = false) : ((Utf8.decode s k).1 : Int) < 48 ∨ 57 < ((Utf8.decode s k).1 : Int) := by
  by_cases hl : s[k].toNat < 128
  · rw [dec_lo s k h hl]
    have : ¬ (48 ≤ s[k].toNat ∧ s[k].toNat ≤ 57) := fun h' => Bool.false_ne_true (hb.symm.trans ((isDig_iff _).2 h'))
    simp only; omega
  · have := dec_hi s k h (by omega); omega
theorem extract_drop (s : ByteArray) (k : Nat) : s.extract k s.size = ⟨(s.data.toList.drop k).toArray⟩ := by
  apply WideShapes.bytes_inj
  rw [Lib.extract_to_end]
theorem pair_ret {n m : Int} {a b : ByteArray} (h1 : n = m) (h2 : a = b) : Ending.returned (.tuple #[.int .i64 n, .string a]) = .returned (.tuple #[.int .i64 m, .string b]) := by rw [h1, h2]

def DigRel (s : ByteArray) (k : Nat) (n : Value) : Prop := ∃ x : Int, n = .int .i64 x ∧ x = wrap64 (dv (s.data.toList.take k)) ∧ DigTo s k

end Go.Proofs.YtfkkodcppaakjaaGreatDoor
