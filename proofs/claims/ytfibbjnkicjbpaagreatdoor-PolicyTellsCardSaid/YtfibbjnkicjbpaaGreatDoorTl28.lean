/- Texts of the proof, merged: PrText, LbSplP. -/
import Derived.Test.YtfibbjnkicjbpaaGreatDoorTl3
import Derived.Test.YtfibbjnkicjbpaaGreatDoorTl6
import Derived.Test.YtfibbjnkicjbpaaGreatDoorTl23
import Derived.Test.YtfibbjnkicjbpaaGreatDoorTl25
import Derived.Test.YtfibbjnkicjbpaaGreatDoorTl27
import Derived.Lib.IndexBytes
import Derived.Lib.AtoiAll
/- The document's Text of chapter 3, by its contract. -/
namespace Go.Proofs.YtfibbjnkicjbpaaGreatDoor
open Go Go.RowKit

theorem jn_some {l : List Nat} (h : l ≠ []) : 1 ≤ (jn l).length := by
  rcases List.eq_nil_or_concat l with rfl | ⟨i, x, rfl⟩
  · exact absurd rfl h
  · rw [List.concat_eq_append, jn_snoc]
    have : 1 ≤ (Lib.decDigits x).length := by
      have := dec_ne x
      cases hd : Lib.decDigits x with
      | nil => exact absurd hd this
      | cons c r => simp
    split
    · exact this
    · rw [List.length_append]; omega
theorem jn_le (a k : Nat) (hk : k ≤ 64) : (jn (listTo a k)).length ≤ 192 := by
  have h1 := join_le (listTo a k) (fun i hi => by have := list_lt a k i hi; omega)
  have h2 := listTo_len a k
  unfold jn; omega
theorem itoa_nat (k : Nat) : Lib.itoa (k : Int) = Lib.decDigits k := Lib.itoa_nonneg k
theorem bs_add (x y : List UInt8) : bs x ++ bs y = bs (x ++ y) := WideShapes.bytes_inj (by rw [Joins.data_append, bs_list, bs_list, bs_list])
set_option maxRecDepth 100000 in
set_option maxHeartbeats 2000000 in
theorem prText_any (a : Nat) (w : World) (ha : a < 18446744073709551616) :
    Calls Tryz.prog 64 #[.int .u64 a] w fun e w' => e = .returned (.string (bs (textN a))) ∧ Below w.heap.size w w' := by
  have hend0 : Hid (a = 0 → textN a = [45] ∧ jn (listTo a 64) = []) := fun h => by rw [h, list_zero]; exact ⟨rfl, rfl⟩
  have hend1 : Hid (a ≠ 0 → textN a = jn (listTo a 64) ∧ 1 ≤ (jn (listTo a 64)).length) := fun h => by
    refine ⟨by unfold textN jn; rw [if_neg h], jn_some fun e => ?_⟩
    obtain ⟨n, hn⟩ := list_nonzero a h ha
    rw [e] at hn; simp at hn
  generalize textN a = tx at *
  go_enter Tryz.func64, Tryz.ntmps64
  go_wp2_with fail
  go_loopg [3, 4] 64 (fun g s i wr => ∃ k : Nat, k + g = 64 ∧ i = .int .i64 k ∧ s = .string (bs (jn (listTo a k))) ∧ Below w.heap.size w wr)
  case atStart => exact ⟨0, by omega, rfl, rfl, Below.refl _ _⟩
  case round =>
    obtain ⟨k, hk, rfl, rfl, hbr⟩ := hrel
    have hk0 : (0 : Int) ≤ (k : Int) := by omega
    by_cases hlt : k < 64
    · have hkI : (k : Int) < 64 := by omega
      have hA := bit_and a k ha
      have hst := listTo_step a k
      have hle := jn_le a k (by omega)
      have HB := Lib.hid hbr
      clear hend0 hend1 hbr
      cases h1 : a.testBit k
      · rw [h1] at hA hst
        simp only [Bool.false_eq_true, if_false] at hA hst
        have HS := Lib.hid hst
        clear hst h1
        go_wp2_with fail
        go_roundg (gk - 1)
        case rel => exact ⟨k + 1, by omega, by go_num, by rw [HS.out], HB.out⟩
        case measure => omega
      · rw [h1] at hA hst
        simp only [if_true] at hA hst
        have hsn : jn (listTo a (k + 1)) = if listTo a k = [] then Lib.decDigits k else jn (listTo a k) ++ [43] ++ Lib.decDigits k := by rw [hst, jn_snoc]
        have cN := refNumber_any k (by omega) (by omega)
        have hdl := dec_len2 k (by omega)
        rw [itoa_nat] at cN
        have hj0 : listTo a k = [] → jn (listTo a k) = [] := fun h => by rw [h]; rfl
        have hj1 : listTo a k ≠ [] → 1 ≤ (jn (listTo a k)).length := jn_some
        clear hst h1
        by_cases he : listTo a k = []
        · rw [if_pos he] at hsn
          rw [hj0 he]
          have HS := Lib.hid hsn
          have had : ∀ W : World, (Op.stringOp .add (bs []) ⟨(Lib.decDigits k).toArray⟩).run Tryz.prog W = .ok (.string (bs (Lib.decDigits k))) W := fun W => by
            have := run_string_add_sum (P := Tryz.prog) W (bs []) (bs (Lib.decDigits k)) (by rw [bs_size, bs_size]; simp; omega)
            rw [bs_add] at this
            exact this
          have CN := Lib.hid cN
          obtain ⟨hb1, hb2⟩ := bytes_none (bs []) (by rw [bs_size]; simp)
          clear hsn hj0 hj1 he hle hdl cN
          generalize bs [] = e0 at *
          generalize Lib.decDigits k = dk at *
          go_wp2_with fail
          refine (CN.out _).mono ?_
          rintro e w2 ⟨rfl, hb2'⟩
          have HB2 := Lib.hid (HB.out.trans (hb2'.mono HB.out.size))
          clear hb2' CN
          go_wp2_with fail
          go_roundg (gk - 1)
          case rel => exact ⟨k + 1, by omega, by go_num, by rw [HS.out], HB2.out⟩
          case measure => omega
        · rw [if_neg he] at hsn
          have h1' := hj1 he
          have HS := Lib.hid hsn
          obtain ⟨hb1, hb2⟩ := bytes_some (bs (jn (listTo a k))) (by rw [bs_size]; exact h1')
          have had1 : ∀ W : World, (Op.stringOp .add (bs (jn (listTo a k))) ⟨#[43]⟩).run Tryz.prog W = .ok (.string (bs (jn (listTo a k) ++ [43]))) W := fun W => by
            have := run_string_add_sum (P := Tryz.prog) W (bs (jn (listTo a k))) (bs [43]) (by rw [bs_size, bs_size]; simp; omega)
            rw [bs_add] at this
            exact this
          have had : ∀ W : World, (Op.stringOp .add (bs (jn (listTo a k) ++ [43])) ⟨(Lib.decDigits k).toArray⟩).run Tryz.prog W = .ok (.string (bs (jn (listTo a k) ++ [43] ++ Lib.decDigits k))) W := fun W => by
            have := run_string_add_sum (P := Tryz.prog) W (bs (jn (listTo a k) ++ [43])) (bs (Lib.decDigits k)) (by rw [bs_size, bs_size]; simp; omega)
            rw [bs_add] at this
            exact this
          have CN := Lib.hid cN
          rw [← hsn] at had
          clear hsn hj0 hj1 he hle hdl cN h1'
          obtain ⟨e2, he2⟩ : ∃ e2, bs (jn (listTo a (k + 1))) = e2 := ⟨_, rfl⟩
          rw [he2] at had
          have HE2 := Lib.hid he2
          clear he2
          generalize bs (jn (listTo a k) ++ [43]) = e1 at *
          generalize bs (jn (listTo a k)) = e0 at *
          generalize Lib.decDigits k = dk at *
          go_wp2_with fail
          refine (CN.out _).mono ?_
          rintro e w2 ⟨rfl, hb2'⟩
          have HB2 := Lib.hid (HB.out.trans (hb2'.mono HB.out.size))
          clear hb2' CN
          go_wp2_with fail
          go_roundg (gk - 1)
          case rel => exact ⟨k + 1, by omega, by go_num, by rw [HE2.out], HB2.out⟩
          case measure => omega
    · obtain rfl : k = 64 := by omega
      have HB := Lib.hid hbr
      clear hbr
      by_cases h0 : a = 0
      · obtain ⟨h1, h2⟩ := hend0.out h0
        rw [h2]
        have HT := Lib.hid h1
        obtain ⟨hb1, hb2⟩ := bytes_none (bs []) (by rw [bs_size]; simp)
        clear hend0 hend1 h1 h2 h0
        generalize bs [] = e0 at *
        go_wp2_with fail
        go_ret
        exact ⟨by rw [HT.out]; rfl, HB.out⟩
      · obtain ⟨h1, h2⟩ := hend1.out h0
        have HT := Lib.hid h1
        obtain ⟨hb1, hb2⟩ := bytes_some (bs (jn (listTo a 64))) (by rw [bs_size]; exact h2)
        obtain ⟨e0, he0⟩ : ∃ e0, bs (jn (listTo a 64)) = e0 := ⟨_, rfl⟩
        rw [he0] at hb1 hb2 ⊢
        have HE := Lib.hid he0
        clear hend0 hend1 h1 h2 h0 he0
        go_wp2_with fail
        go_ret
        exact ⟨by rw [HT.out, HE.out]; rfl, HB.out⟩
end Go.Proofs.YtfibbjnkicjbpaaGreatDoor
/- A text cut at each plus, plainly; what a label's text is cut into: no program. -/
namespace Go.Proofs.YtfibbjnkicjbpaaGreatDoor
open Go

/-- What stands between the pluses: one piece at least. -/
def spl : List UInt8 → List (List UInt8)
  | [] => [[]]
  | c :: r => if c = 43 then [] :: spl r else (c :: (spl r).headD []) :: (spl r).tail
theorem spl_ne : ∀ l, spl l ≠ []
  | [] => by simp [spl]
  | c :: r => by unfold spl; split <;> simp
theorem spl_cut : ∀ l, (Lib.indexByte l 43 = -1 ∧ spl l = [l]) ∨ (∃ i : Nat, Lib.indexByte l 43 = i ∧ i < l.length ∧ spl l = l.take i :: spl (l.drop (i + 1)))
  | [] => .inl ⟨rfl, rfl⟩
  | c :: r => by
    have e1 : Lib.indexByte (c :: r) 43 = if c == 43 then 0 else if Lib.indexByte r 43 == -1 then -1 else Lib.indexByte r 43 + 1 := rfl
    have e2 : spl (c :: r) = if c = 43 then [] :: spl r else (c :: (spl r).headD []) :: (spl r).tail := rfl
    rw [e1, e2]
    by_cases h : c = 43
    · subst h
      exact .inr ⟨0, by simp, by simp, by simp⟩
    · rw [if_neg h, if_neg (by simpa using h)]
      rcases spl_cut r with ⟨h1, h2⟩ | ⟨i, h1, h2, h3⟩
      · left
        rw [h1, h2]
        exact ⟨by simp, rfl⟩
      · right
        refine ⟨i + 1, ?_, by simp; omega, ?_⟩
        · rw [h1, if_neg (by rw [beq_iff_eq]; omega)]; rfl
        · rw [h3]; rfl
/-- Pieces without a plus, put together, are cut into these. -/
theorem spl_one (p : List UInt8) (h : ∀ c ∈ p, c ≠ 43) : spl p = [p] := by
  rcases spl_cut p with ⟨_, h2⟩ | ⟨i, h1, h2, _⟩
  · exact h2
  · obtain ⟨h3, _⟩ := Lib.indexByte_some h1
    rw [List.getElem?_eq_getElem h2] at h3
    exact absurd (Option.some.inj h3) (h _ (List.getElem_mem h2))
theorem spl_app : ∀ (p l : List UInt8), (∀ c ∈ p, c ≠ 43) → spl (p ++ 43 :: l) = p :: spl l
  | [], l, _ => by simp [spl]
  | c :: p, l, h => by
    have hc := h c (List.mem_cons_self ..)
    have ih := spl_app p l fun d hd => h d (List.mem_cons_of_mem _ hd)
    rw [List.cons_append, spl, if_neg hc, ih]; rfl
theorem spl_join : ∀ (x : List UInt8) (ps : List (List UInt8)), (∀ p ∈ x :: ps, ∀ c ∈ p, c ≠ 43) → spl (Lib.join (x :: ps) [43]) = x :: ps
  | x, [], h => by
    rw [Lib.join_one]; exact spl_one x (h x (List.mem_cons_self ..))
  | x, y :: ps, h => by
    have ih := spl_join y ps fun p hp => h p (List.mem_cons_of_mem _ hp)
    have e : Lib.join (x :: y :: ps) [43] = x ++ 43 :: Lib.join (y :: ps) [43] := by
      rw [Lib.join_cons, Lib.join_cons]; simp [Lib.joinTail]
    rw [e, spl_app x _ (h x (List.mem_cons_self ..)), ih]
theorem dec_noplus (i : Nat) (h : i < 100) : ∀ c ∈ Lib.decDigits i, c ≠ 43 := by
  intro c hc
  rw [dec_lt i h] at hc
  have hd : ∀ d, d < 10 → UInt8.ofNat (48 + d) ≠ 43 := by decide
  split at hc
  · rw [List.mem_singleton] at hc; rw [hc]; exact hd i (by omega)
  · simp only [List.mem_cons, List.not_mem_nil, or_false] at hc
    rcases hc with hc | hc
    · rw [hc]; exact hd _ (by omega)
    · rw [hc]; exact hd _ (by omega)
/-- What a label's text is cut into. -/
theorem spl_text (a : Nat) (h0 : a ≠ 0) (ha : a < 18446744073709551616) : spl (textN a) = (listTo a 64).map Lib.decDigits := by
  unfold textN
  rw [if_neg h0]
  have hm := list_below a
  obtain ⟨e, _⟩ := list_low a h0 ha
  cases hl : listTo a 64 with
  | nil => rw [hl] at e; cases e
  | cons x r =>
    rw [hl] at hm
    rw [List.map_cons]
    refine spl_join _ _ ?_
    intro p hp
    rw [← List.map_cons] at hp
    obtain ⟨i, hi, rfl⟩ := List.mem_map.1 hp
    exact dec_noplus i (hm i hi)
end Go.Proofs.YtfibbjnkicjbpaaGreatDoor
