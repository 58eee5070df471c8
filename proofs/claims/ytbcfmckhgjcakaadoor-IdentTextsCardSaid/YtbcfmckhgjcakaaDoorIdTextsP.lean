/- Plain facts on identities' texts. No program. -/
import Derived.Test.YtbcfmckhgjcakaaDoorLbParseP
import Derived.Test.YtbcfmckhgjcakaaDoorRead
import Derived.Lib.AtoiAllCases
import Derived.Lib.ItoaLen
namespace Go.Proofs.YtbcfmckhgjcakaaDoor
open Go

theorem fold_grow : ∀ (l : List UInt8) (acc : Nat), acc ≤ l.foldl (fun a c => a * 10 + (c.toNat - 48)) acc
  | [], acc => Nat.le_refl _
  | c :: r, acc => by
    rw [List.foldl_cons]
    have := fold_grow r (acc * 10 + (c.toNat - 48))
    omega
theorem pu_dig : ∀ (l : List UInt8) (acc : Nat), l.all isDig = true → l.foldl (fun a c => a * 10 + (c.toNat - 48)) acc < 18446744073709551616 →
    Lib.parseUint10 acc l = .ok (l.foldl (fun a c => a * 10 + (c.toNat - 48)) acc)
  | [], acc, _, _ => rfl
  | c :: r, acc, h, hv => by
    rw [List.all_cons, Bool.and_eq_true] at h
    rw [List.foldl_cons] at hv ⊢
    have hg := fold_grow r (acc * 10 + (c.toNat - 48))
    have hc := (isDig_iff c).1 h.1
    unfold Lib.parseUint10
    rw [if_pos hc, if_neg (by omega), if_neg (by omega)]
    exact pu_dig r _ h.2 hv
theorem atoi_itoa (n : Int) (h1 : 1 ≤ n) (h2 : n ≤ 9223372036854775807) : Lib.atoiAll (Lib.itoa n) = .ok n := by
  rw [itoa_pos' n (by omega)]
  have hd := dec_digs n.toNat
  have hv := dv_dec n.toNat
  cases hl : Lib.decDigits n.toNat with
  | nil => exact absurd hl (dec_ne _)
  | cons c r =>
    rw [hl] at hd hv
    have hc : isDig c = true := by
      rw [List.all_cons, Bool.and_eq_true] at hd
      exact hd.1
    have hc2 := (isDig_iff c).1 hc
    have hp : Lib.parseMag (c :: r) = .ok n.toNat := by
      unfold Lib.parseMag
      rw [if_neg (by simp)]
      have := pu_dig (c :: r) 0 hd (by
        have : dv (c :: r) < 18446744073709551616 := by omega
        exact this)
      rw [this]
      congr 1
    rw [Lib.atoiAll_plain c r (by omega) (by omega), hp]
    unfold Lib.signless
    simp only
    rw [if_neg (by omega)]
    congr 1
    omega
theorem join_mem : ∀ (L : List (List UInt8)) (sep : List UInt8) (c : UInt8), c ∈ Lib.join L sep → c ∈ sep ∨ ∃ l ∈ L, c ∈ l
  | [], sep, c, h => by rw [Lib.join_nil] at h; simp at h
  | x :: r, sep, c, h => by
    rw [Lib.join_cons, List.mem_append] at h
    rcases h with h | h
    · exact .inr ⟨x, by simp, h⟩
    · unfold Lib.joinTail at h
      obtain ⟨l, hl, hc⟩ := List.mem_flatten.1 h
      obtain ⟨y, hy, rfl⟩ := List.mem_map.1 hl
      rcases List.mem_append.1 hc with hc | hc
      · exact .inl hc
      · exact .inr ⟨y, List.mem_cons_of_mem _ hy, hc⟩
theorem text_no35 (a : Nat) : (35 : UInt8) ∉ textN a := by
  unfold textN
  split
  · decide
  · intro h
    rcases join_mem _ _ _ h with h | ⟨l, h1, h2⟩
    · revert h; decide
    · obtain ⟨i, _, rfl⟩ := List.mem_map.1 h1
      have := List.all_eq_true.1 (dec_digs i) _ h2
      revert this; decide
theorem cut_uniq : ∀ {x x' y y' : List UInt8}, x ++ 35 :: y = x' ++ 35 :: y' → (35 : UInt8) ∉ x → (35 : UInt8) ∉ x' → x = x' ∧ y = y'
  | [], [], y, y', h, _, _ => by simpa using h
  | [], c :: x', y, y', h, _, h2 => by
    simp only [List.nil_append, List.cons_append, List.cons.injEq] at h
    exact absurd (by rw [← h.1]; simp) h2
  | c :: x, [], y, y', h, h1, _ => by
    simp only [List.nil_append, List.cons_append, List.cons.injEq] at h
    exact absurd (by rw [h.1]; simp) h1
  | c :: x, d :: x', y, y', h, h1, h2 => by
    simp only [List.cons_append, List.cons.injEq] at h
    obtain ⟨e1, e2⟩ := cut_uniq h.2 (fun hh => h1 (List.mem_cons_of_mem _ hh)) (fun hh => h2 (List.mem_cons_of_mem _ hh))
    exact ⟨by rw [h.1, e1], e2⟩
/-- Where a text is cut at its first '#'. -/
def CutAs (l x y : List UInt8) (b : Bool) : Prop := (b = true ∧ l = x ++ 35 :: y ∧ (35 : UInt8) ∉ x) ∨ (b = false ∧ x = l ∧ y = [] ∧ (35 : UInt8) ∉ l)
/-- How an identity's text is read. -/
def idText (a : Nat) (n : Int) : List UInt8 := textN a ++ 35 :: Lib.itoa n
def IdReads (s : List UInt8) (a : Nat) (n : Int) (e : Int) : Prop := (e = 0 ∧ a < 18446744073709551616 ∧ 1 ≤ n ∧ n ≤ 9223372036854775807 ∧ idText a n = s) ∨
  (e = 4 ∧ a = 0 ∧ n = 0 ∧ ∀ b m, b < 18446744073709551616 → 1 ≤ m → m ≤ 9223372036854775807 → idText b m ≠ s)
theorem idText_inj {a b : Nat} {n m : Int} (ha : a < 18446744073709551616) (hb : b < 18446744073709551616) (h1 : 1 ≤ n) (h2 : n ≤ 9223372036854775807) (k1 : 1 ≤ m) (k2 : m ≤ 9223372036854775807) (h : idText a n = idText b m) : a = b ∧ n = m := by
  obtain ⟨e1, e2⟩ := cut_uniq h (text_no35 a) (text_no35 b)
  refine ⟨text_inj a b ha hb e1, ?_⟩
  have q1 := atoi_itoa n h1 h2
  have q2 := atoi_itoa m k1 k2
  rw [e2, q2] at q1
  injection q1 with q1
  exact q1.symm
theorem idReads_one {s : List UInt8} {a b : Nat} {n m e f : Int} (h : IdReads s a n e) (k : IdReads s b m f) : a = b ∧ n = m ∧ e = f := by
  rcases h with ⟨rfl, ha, h1, h2, ht⟩ | ⟨rfl, rfl, rfl, hno⟩
  · rcases k with ⟨rfl, hb, k1, k2, kt⟩ | ⟨rfl, rfl, rfl, kno⟩
    · obtain ⟨e1, e2⟩ := idText_inj ha hb h1 h2 k1 k2 (ht.trans kt.symm)
      exact ⟨e1, e2, rfl⟩
    · exact absurd ht (kno _ _ ha h1 h2)
  · rcases k with ⟨rfl, hb, k1, k2, kt⟩ | ⟨rfl, rfl, rfl, _⟩
    · exact absurd kt (hno _ _ hb k1 k2)
    · exact ⟨rfl, rfl, rfl⟩
/-- What is no identity: by its cut. -/
theorem id_none {l x y : List UInt8} {b : Bool} (hc : CutAs l x y b) (h : ∀ a n, a < 18446744073709551616 → 1 ≤ n → n ≤ 9223372036854775807 → x = textN a → y = Lib.itoa n → False) : IdReads l 0 0 4 := by
  refine .inr ⟨rfl, rfl, rfl, fun a n ha h1 h2 e => ?_⟩
  rcases hc with ⟨_, e2, hx⟩ | ⟨_, _, _, hx⟩
  · obtain ⟨e3, e4⟩ := cut_uniq (e.trans e2) (text_no35 a) hx
    exact h a n ha h1 h2 e3.symm e4.symm
  · refine hx ?_
    rw [← e]
    simp [idText]
theorem id_bad_label {l x y : List UInt8} {b : Bool} {a : Nat} {er : Int} (hc : CutAs l x y b) (hr : ReadAs x a er) (he : er ≠ 0) : IdReads l 0 0 4 :=
  id_none hc fun a' n ha _ _ ex _ => by
    rcases hr with ⟨h, _⟩ | ⟨_, _, hno⟩
    · exact he h
    · exact hno a' ha ex.symm
theorem id_bad_num {l x y : List UInt8} {b : Bool} (hc : CutAs l x y b) (hn : ∀ v, Lib.atoiAll y ≠ .ok v) : IdReads l 0 0 4 :=
  id_none hc fun a n _ h1 h2 _ ey => hn n (by rw [ey]; exact atoi_itoa n h1 h2)
theorem id_bad_low {l x y : List UInt8} {b : Bool} {v : Int} (hc : CutAs l x y b) (hn : Lib.atoiAll y = .ok v) (hv : v < 1) : IdReads l 0 0 4 :=
  id_none hc fun a n _ h1 h2 _ ey => by
    rw [ey, atoi_itoa n h1 h2] at hn
    injection hn with hn
    omega
theorem id_bad_text {l x y : List UInt8} {b : Bool} {a : Nat} {v : Int} (hc : CutAs l x y b) (hr : ReadAs x a 0) (hn : Lib.atoiAll y = .ok v) (ht : idText a v ≠ l) : IdReads l 0 0 4 :=
  id_none hc fun a' n ha h1 h2 ex ey => by
    rw [ey, atoi_itoa n h1 h2] at hn
    injection hn with hn
    have ha' : a = a' := by
      rcases hr with ⟨_, h, e⟩ | ⟨h, _⟩
      · exact text_inj a a' h ha (e.trans ex)
      · cases h
    rcases hc with ⟨_, e2, _⟩ | ⟨_, _, ey2, _⟩
    · refine ht ?_
      rw [e2, ex, ey, ← hn, ha']; rfl
    · rw [ey] at ey2
      exact absurd ey2 (by rw [itoa_pos' n (by omega)]; exact dec_ne _)
theorem id_good {l : List UInt8} {x : List UInt8} {a : Nat} {v : Int} {y : List UInt8} (hr : ReadAs x a 0) (hn : Lib.atoiAll y = .ok v) (hv : 1 ≤ v) (ht : idText a v = l) : IdReads l a v 0 := by
  have ha : a < 18446744073709551616 := by
    rcases hr with ⟨_, h, _⟩ | ⟨h, _⟩
    · exact h
    · cases h
  exact .inl ⟨rfl, ha, hv, (Lib.atoiAll_bounds hn).2, ht⟩
/-! By the document's reading of numbers. -/
theorem read_itoa (n : Int) (h1 : 1 ≤ n) (h2 : n ≤ 9223372036854775807) : readOk (Lib.itoa n) = true ∧ readN (Lib.itoa n) = n := by
  have hp := itoa_pos' n (by omega)
  have hd := dec_digs n.toNat
  have hneg : negB (Lib.itoa n) = false := by
    rw [hp]
    cases hl : Lib.decDigits n.toNat with
    | nil => exact absurd hl (dec_ne _)
    | cons c r =>
      rw [hl, List.all_cons, Bool.and_eq_true] at hd
      unfold negB
      simpa using dig_not_sign c hd.1
  have hdig : digsL (Lib.itoa n) = Lib.itoa n := by
    unfold digsL bodyL
    rw [hneg, hp]
    simp only [Bool.false_eq_true, if_false]
    have := List.takeWhile_append_of_pos (l₂ := []) (fun c hc => List.all_eq_true.1 hd c hc)
    simpa using this
  have hrest : restL (Lib.itoa n) = [] := by
    have := form_rest (Lib.itoa n)
    unfold formL at this
    rw [hneg, hdig] at this
    simpa using this
  have hform : formL (Lib.itoa n) = Lib.itoa n := by unfold formL; rw [hneg, hdig]; rfl
  obtain ⟨h3, h4⟩ := ok_of_form (Lib.itoa n) n (by omega) h2 hform.symm
  have hok : readOk (Lib.itoa n) = true := by unfold readOk; rw [h3, hrest]; rfl
  refine ⟨hok, ?_⟩
  unfold readN
  rw [hok]; exact h4
theorem read_is {l : List UInt8} (h : readOk l = true) : l = Lib.itoa (readN l) ∧ readN l ≤ 9223372036854775807 := by
  have h0 := h
  unfold readOk at h
  rw [Bool.and_eq_true] at h
  have e1 := form_of_ok l h.1
  have e2 := form_rest l
  rw [List.isEmpty_iff.1 h.2, List.append_nil] at e2
  unfold readN
  rw [h0]
  exact ⟨(e1.trans e2).symm, (ok_range l h.1).2⟩
theorem readE_ok {l : List UInt8} : readE l = 0 ↔ readOk l = true := by
  unfold readE
  split <;> simp_all
theorem ref_bad_num {l x y : List UInt8} {b : Bool} (hc : CutAs l x y b) (hn : readE y ≠ 0) : IdReads l 0 0 4 :=
  id_none hc fun a n _ h1 h2 _ ey => hn (readE_ok.2 (by rw [ey]; exact (read_itoa n h1 h2).1))
theorem ref_bad_low {l x y : List UInt8} {b : Bool} (hc : CutAs l x y b) (hv : readN y < 1) : IdReads l 0 0 4 :=
  id_none hc fun a n _ h1 h2 _ ey => by
    have := (read_itoa n h1 h2).2
    rw [← ey] at this
    omega
theorem ref_good {l x y : List UInt8} {a : Nat} (hc : CutAs l x y true) (hr : ReadAs x a 0) (he : readE y = 0) (hv : 1 ≤ readN y) : IdReads l a (readN y) 0 := by
  obtain ⟨e1, e2⟩ := read_is (readE_ok.1 he)
  rcases hr with ⟨_, h, et⟩ | ⟨h, _⟩
  · refine .inl ⟨rfl, h, hv, e2, ?_⟩
    rcases hc with ⟨_, el, _⟩ | ⟨h, _⟩
    · unfold idText
      rw [et, ← e1, el]
    · cases h
  · cases h
theorem id_long {l : List UInt8} (h : (35 : UInt8) ∉ l) : IdReads l 0 0 4 := .inr ⟨rfl, rfl, rfl, fun b m _ _ _ e => h (by rw [← e]; simp [idText])⟩
theorem idText_len (a : Nat) (n : Int) (h1 : -9223372036854775808 ≤ n) (h2 : n ≤ 9223372036854775807) : (textN a).length + 1 + (Lib.itoa n).length ≤ 300 := by
  have := text_le a
  have := Lib.itoa_length_le n h1 h2
  omega
end Go.Proofs.YtbcfmckhgjcakaaDoor
