/- Texts of the proof, merged: LbOf, LbOps, LbMyOf, LbParseP, ShelfB, Num, Nums, Take, Show, Concat. -/
import Derived.Test.YtfibbjnkicjbpaaGreatDoorNm1
import Derived.Laws.BitsAllLaws
import Derived.Shelf.Strings.Builder1
import Derived.Shelf.Strings.Builder2
import Derived.Shelf.Strings.OnBuilder
import Derived.Shelf.Small.Bits
import Derived.Shelf.Small.Wraps
import Derived.Shelf.Strings.BuilderF
import Derived.Shelf.Strings.BuilderK
import Derived.Shelf.Strings.Builder2Cap
import Derived.Shelf.Strconv.Atoi
import Derived.Shelf.Strconv.Itoa0
import Derived.Shelf.Strconv.Itoa1
import Derived.Shelf.LaysM
import Derived.Shelf.Strconv.Itoa2
import Derived.Shelf.Strconv.Itoa3
import Derived.Shelf.Strconv.AtoiErrFast
import Derived.Shelf.Strconv.ParseIntEmpty
import Derived.Shelf.Strconv.AtoiFail
import Derived.Shelf.Strconv.Clone
import Derived.Shelf.Strconv.SyntaxError
import Derived.Shelf.LaysC
import Derived.Shelf.Strconv.ToError
import Derived.Shelf.Strconv.Lower
import Derived.Shelf.Strconv.ParseUint10
import Derived.Shelf.Strconv.ParseUint10Empty
import Derived.Shelf.Strconv.ParseUint10Any
import Derived.Shelf.Strconv.ParseInt10
import Derived.Shelf.Strconv.AtoiLong
import Derived.Shelf.Strconv.AtoiInnerAll
import Derived.Shelf.Strconv.RangeError
import Derived.Shelf.Strconv.ToErrorRange
import Derived.Shelf.Strconv.AtoiAll
import Derived.Shelf.Strconv.ErrVarAll
import Derived.Shelf.Strings.Search1
import Derived.Shelf.Strings.Search2
import Derived.Shelf.Strings.Search3
import Derived.Shelf.Strings.Cut
import Derived.Shelf.Strings.Count
import Derived.Shelf.Strings.Shaped
import Derived.Shelf.GgClosure.StringsIndexFunc
import Derived.Ground.GgwProg
import Derived.Shelf.GgClosure.StringsIndexFuncTop
import Derived.Shelf.Strings.Prefix
import Derived.Shelf.Strings.Split
import Derived.Shelf.Strings.SplitShaped
import Derived.Shelf.Unicode.DecodeSlow
import Derived.Test.YtfibbjnkicjbpaaGreatDoorProg
import Derived.Lib.ItoaNum
import Derived.Lib.ItoaMem
import Derived.IntWalk
import Derived.Lib.LaidTab
import Derived.Lib.AppendIntMem
import Derived.Lib.OthersKept
import Derived.Deep.LoopGhost
import Derived.Deep.QuietTactic
import Derived.BigQuiet
import Derived.Deep.RegionHeld3
import Derived.StillTactics
import Derived.OwnWalk
/- The document's Of, by its contract; rows of numbers; lists of numbers compared. -/
namespace Go.Proofs.YtfibbjnkicjbpaaGreatDoor
open Go.RowKit

/-- The slice at p holds these numbers. -/
def NumRow (k : IntKind) (w : World) (p : Option Addr) (xs : List Int) : Prop := ∀ i (h : i < xs.length), ∃ b off, p = some ⟨b, off, none⟩ ∧ b < w.heap.size ∧ w.cell? ⟨b, off + i, none⟩ = some (.int k xs[i])
theorem NumRow.at {kd : IntKind} {w : World} {p : Option Addr} {xs : List Int} (h : NumRow kd w p xs) (i : Nat) (hi : i < xs.length) : ∃ b off, p = some ⟨b, off, none⟩ ∧ b < w.heap.size ∧ ∀ W, Below w.heap.size w W → W.cell? ⟨b, off + i, none⟩ = some (.int kd xs[i]) := by
  obtain ⟨b, off, e, hlt, hc⟩ := h i hi
  exact ⟨b, off, e, hlt, fun W hb => (hb.cell (p := ⟨b, off + i, none⟩) hlt).trans hc⟩
theorem NumRow.later {kd : IntKind} {w W : World} {p : Option Addr} {xs : List Int} (h : NumRow kd w p xs) (hb : Below w.heap.size w W) : NumRow kd W p xs := fun i hi => by
  obtain ⟨b, off, e, hlt, hc⟩ := h i hi
  exact ⟨b, off, e, Nat.lt_of_lt_of_le hlt hb.size, (hb.cell (p := ⟨b, off + i, none⟩) hlt).trans hc⟩

def ofOk (xs : List Int) : Bool := xs.all fun x => decide (0 ≤ x) && decide (x ≤ 63)
def ofF (xs : List Int) (i : Nat) : Bool := xs.contains (i : Int)
def ofW (xs : List Int) : Nat := if ofOk xs then wordOf (ofF xs) else 0
def ofE (xs : List Int) : Int := if ofOk xs then 0 else 1
theorem of_bad (xs : List Int) (k : Nat) (h : k < xs.length) (hx : xs[k] < 0 ∨ 63 < xs[k]) : ofW xs = 0 ∧ ofE xs = 1 := by
  have e : ofOk xs = false := by
    unfold ofOk
    rw [List.all_eq_false]
    refine ⟨xs[k], List.getElem_mem h, ?_⟩
    simp; omega
  unfold ofW ofE; rw [e]; exact ⟨rfl, rfl⟩
theorem of_good (xs : List Int) (h : ∀ (k : Nat) (hk : k < xs.length), 0 ≤ xs[k] ∧ xs[k] ≤ 63) : ofW xs = wordOf (ofF xs) ∧ ofE xs = 0 := by
  have e : ofOk xs = true := by
    unfold ofOk
    rw [List.all_eq_true]
    intro x hx
    obtain ⟨k, hk, rfl⟩ := List.getElem_of_mem hx
    have := h k hk
    simp [this.1, this.2]
  unfold ofW ofE; rw [e]; exact ⟨rfl, rfl⟩
theorem ofF_take (xs : List Int) (k m i : Nat) (h : k < xs.length) (hm : xs[k] = (m : Int)) : ofF (xs.take (k + 1)) i = (ofF (xs.take k) i || decide (i = m)) := by
  unfold ofF
  rw [List.take_succ_eq_append_getElem h, List.contains_append, hm]
  congr 1
  rw [Bool.eq_iff_iff]; simp; omega
theorem zeros_at (i : Nat) (h : i < 64) : (Array.replicate 64 (Value.bool false))[i]? = some (.bool false) := by
  rw [Array.getElem?_replicate, if_pos h]
theorem ofF_all (xs : List Int) (n : Nat) (h : xs.length = n) : ofF (xs.take n) = ofF xs := by rw [List.take_of_length_le (by omega)]

end Go.Proofs.YtfibbjnkicjbpaaGreatDoor
/- label's own words on two labels, by contract: the world stays as it is. -/
namespace Go.Proofs.YtfibbjnkicjbpaaGreatDoor
open Go.RowKit

/-- What is in a and not in b. -/
def lessN (a b : Nat) : Nat := a &&& (18446744073709551615 - b)
theorem less_bit (a b : Nat) (hb : b < 18446744073709551616) (i : Nat) (hi : i < 64) : (lessN a b).testBit i = (a.testBit i && !b.testBit i) := by
  have e : 18446744073709551615 - b = 2 ^ 64 - (b + 1) := by omega
  unfold lessN
  rw [Nat.testBit_and, e, Nat.testBit_two_pow_sub_succ hb i, decide_eq_true hi, Bool.true_and]
theorem less_lt (a b : Nat) (ha : a < 18446744073709551616) : lessN a b < 18446744073709551616 := Nat.lt_of_le_of_lt Nat.and_le_left ha
theorem both_less (a b : Nat) (ha : a < 18446744073709551616) (hb : b < 18446744073709551616) : wordOf (bothF 3 a b) = lessN a b :=
  word_ext (wordOf_lt _) (less_lt a b ha) fun i hi => by rw [wordOf_bit _ i hi, less_bit a b hb i hi]; rfl
theorem less_zero (a b : Nat) (ha : a < 18446744073709551616) (hb : b < 18446744073709551616) : (((lessN a b : Nat) : Int) == 0) = belowB a b := by
  rw [Bool.eq_iff_iff, below_iff, beq_iff_eq]
  constructor
  · intro h i hi hai
    have h0 : lessN a b = 0 := by omega
    have := less_bit a b hb i hi
    rw [h0, hai, Nat.zero_testBit] at this
    cases hbi : b.testBit i with
    | true => rfl
    | false => rw [hbi] at this; cases this
  · intro h
    have h0 : lessN a b = 0 := word_ext (less_lt a b ha) (by decide) fun i hi => by
      rw [less_bit a b hb i hi, Nat.zero_testBit]
      cases hai : a.testBit i with
      | false => rfl
      | true => rw [h i hi hai]; rfl
    rw [h0]; rfl
theorem or_lt (a b : Nat) (ha : a < 18446744073709551616) (hb : b < 18446744073709551616) : a ||| b < 18446744073709551616 := Nat.or_lt_two_pow (n := 64) ha hb
theorem and_lt (a b : Nat) (ha : a < 18446744073709551616) : a &&& b < 18446744073709551616 := Nat.lt_of_le_of_lt Nat.and_le_left ha

theorem less_any (a b : Nat) (w : World) (ha : a < 18446744073709551616) (hb : b < 18446744073709551616) :
    Calls Tryz.prog 80 #[.int .u64 a, .int .u64 b] w fun e w' => e = .returned (.int .u64 (lessN a b : Nat)) ∧ w = w' := by
  have H := Lib.hid (u64_andNot_nat a b ha hb)
  go_enter Tryz.func80, Tryz.ntmps80
  go_wp2
  go_ret
  exact ⟨ret_int H.out, rfl⟩
theorem below_any (a b : Nat) (w : World) (ha : a < 18446744073709551616) (hb : b < 18446744073709551616) :
    Calls Tryz.prog 49 #[.int .u64 a, .int .u64 b] w fun e w' => e = .returned (.bool (belowB a b)) ∧ w = w' := by
  have cL := less_any a b w ha hb
  have H := Lib.hid (less_zero a b ha hb)
  go_enter Tryz.func49, Tryz.ntmps49
  go_wp2_with (go_at_call 80; refine cL.mono ?_; rintro e w' ⟨rfl, rfl⟩)
  go_ret
  exact ⟨ret_bool H.out, rfl⟩
end Go.Proofs.YtfibbjnkicjbpaaGreatDoor
/- label's own Of, by its contract. -/
namespace Go.Proofs.YtfibbjnkicjbpaaGreatDoor
open Go.RowKit

theorem ofF_none : ofF [] = fun _ => false := by funext i; simp [ofF]
theorem wordOf_none : wordOf (ofF []) = 0 := word_ext (wordOf_lt _) (by decide) fun i hi => by
  rw [wordOf_bit _ i hi, ofF_none, Nat.zero_testBit]
theorem wordOf_or (xs : List Int) (k m : Nat) (h : k < xs.length) (hm : xs[k] = (m : Int)) (hm64 : m < 64) : wordOf (ofF (xs.take k)) ||| 2 ^ m = wordOf (ofF (xs.take (k + 1))) :=
  word_ext (or_lt _ _ (wordOf_lt _) (Nat.pow_lt_pow_right (by decide) hm64)) (wordOf_lt _) fun i hi => by
    rw [Nat.testBit_or, wordOf_bit _ i hi, wordOf_bit _ i hi, ofF_take xs k m i h hm, Nat.testBit_two_pow]
    congr 1
    rw [Bool.eq_iff_iff]; simp; omega

theorem ofW_lt (xs : List Int) : ofW xs < 18446744073709551616 := by
  unfold ofW; split
  · exact wordOf_lt _
  · decide

theorem wrap_pow (m : Nat) (h : 2 ^ m < 18446744073709551616) : IntKind.u64.wrap ((2 : Int) ^ m) = ((2 ^ m : Nat) : Int) := by
  have e : ((2 : Int) ^ m) = ((2 ^ m : Nat) : Int) := (Int.natCast_pow 2 m).symm
  rw [e, IntKind.wrap_u64]
  generalize 2 ^ m = p at *
  omega

set_option maxRecDepth 100000 in
set_option maxHeartbeats 4000000 in
theorem of_any (w : World) (p : Option Addr) (n c : Nat) (xs : List Int) (hp : NumRow .i64 w p xs) (hn : xs.length = n) (hl : n ≤ 17592186044416) :
    Calls Tryz.prog 95 #[.slice p n c] w fun e w' => e = .returned (.tuple #[.int .u64 (ofW xs), .int .i64 (ofE xs)]) ∧ w = w' := by
  have hbad := Lib.hid (of_bad xs)
  have hgood := Lib.hid (of_good xs)
  have hall := Lib.hid (ofF_all xs n hn)
  have HN := Lib.hid hn
  have H0 := Lib.hid wordOf_none
  generalize ofW xs = r at *
  generalize ofE xs = f at *
  clear hn
  go_enter Tryz.func95, Tryz.ntmps95
  go_wp2_with fail
  go_loopg [4, 9] n (fun g a i wr => ∃ (k : Nat), k + g = n ∧ i = .int .i64 k ∧ w = wr ∧ a = .int .u64 (wordOf (ofF (xs.take k)) : Nat) ∧ Hid (∀ (j : Nat) (hj : j < xs.length), j < k → 0 ≤ xs[j] ∧ xs[j] ≤ 63))
  case atStart => exact ⟨0, by omega, rfl, rfl, by rw [List.take_zero, H0.out]; rfl, fun j _ h => absurd h (Nat.not_lt_zero _)⟩
  case round =>
    obtain ⟨k, hk, rfl, rfl, rfl, hr⟩ := hrel
    by_cases h0 : k < n
    · have hx : k < xs.length := by rw [HN.out]; exact h0
      obtain ⟨b1, o1, rfl, l1, h1c⟩ := hp.at k hx
      have g1 := h1c w (Below.refl _ _)
      have hb' := Lib.hid (hbad.out k hx)
      have htk := Lib.hid (fun m => wordOf_or xs k m hx)
      have hrk : Hid (0 ≤ xs[k] → xs[k] ≤ 63 → ∀ (j : Nat) (hj : j < xs.length), j < k + 1 → 0 ≤ xs[j] ∧ xs[j] ≤ 63) := by
        intro q1 q2 j hj hjk
        by_cases e : j = k
        · subst e; exact ⟨q1, q2⟩
        · exact hr.out j hj (by omega)
      have hkk : (0 : Int) ≤ (k : Int) := Int.natCast_nonneg _
      have hkn : (k : Int) < (n : Int) := by omega
      have hwl := wordOf_lt (ofF (xs.take k))
      clear h1c hbad hgood hall hr H0
      generalize xs[k] = x at *
      by_cases hneg : x < 0
      · have e := hb'.out (.inl hneg)
        obtain ⟨rfl, rfl⟩ := e
        clear hb' htk hrk
        go_wp2_with fail
        go_ret2
        exact ⟨rfl, rfl⟩
      · by_cases hbig : 63 < x
        · have e := hb'.out (.inr hbig)
          obtain ⟨rfl, rfl⟩ := e
          clear hb' htk hrk
          go_wp2_with fail
          go_ret2
          exact ⟨rfl, rfl⟩
        · obtain ⟨m, rfl⟩ : ∃ m : Nat, x = m := ⟨x.toNat, by omega⟩
          have hm : m < 64 := by omega
          have hpw : 2 ^ m < 18446744073709551616 := (Nat.pow_lt_pow_right (by decide : 1 < 2) hm : 2 ^ m < 2 ^ 64)
          have ho := u64_or_nat (wordOf (ofF (xs.take k))) (2 ^ m) hwl hpw
          rw [htk.out m rfl hm] at ho
          have hrn := Lib.hid (hrk.out (by omega) (by omega))
          have hmm : (0 : Int) ≤ (m : Int) := Int.natCast_nonneg _
          generalize wordOf (ofF (xs.take k)) = a at *
          obtain ⟨a', ha'⟩ : ∃ a', wordOf (ofF (xs.take (k + 1))) = a' := ⟨_, rfl⟩
          rw [ha'] at ho
          have HA := Lib.hid ha'
          clear ha' hb' htk hrk
          go_wp2_with fail
          go_roundg (gk - 1)
          case rel =>
            refine ⟨k + 1, by omega, by go_num, rfl, ?_, hrn⟩
            rw [HA.out, ← ho, wrap_pow m hpw]
          case measure => omega
    · obtain rfl : k = n := by omega
      have e := hgood.out fun j hj => hr.out j hj (by have := HN.out; omega)
      obtain ⟨rfl, rfl⟩ := e
      have e2 := hall.out
      clear hbad hgood hall hr H0
      go_wp2_with fail
      go_ret2
      rw [e2]
      exact ⟨rfl, rfl⟩
end Go.Proofs.YtfibbjnkicjbpaaGreatDoor
/- What a text is read as, plainly. -/
namespace Go.Proofs.YtfibbjnkicjbpaaGreatDoor
open Go

/-- The compartment that a piece names. -/
def pieceV (p : List UInt8) : Option Nat :=
  match Lib.atoiAll p with
  | .ok v => if 0 ≤ v ∧ v ≤ 63 then some v.toNat else none
  | _ => none
theorem piece_ok {p : List UInt8} {v : Int} (h : Lib.atoiAll p = .ok v) (h0 : 0 ≤ v) (h1 : v ≤ 63) : pieceV p = some v.toNat := by
  unfold pieceV; rw [h]; simp [h0, h1]
theorem piece_out {p : List UInt8} {v : Int} (h : Lib.atoiAll p = .ok v) (h0 : v < 0 ∨ 63 < v) : pieceV p = none := by
  unfold pieceV; rw [h]
  have : ¬ (0 ≤ v ∧ v ≤ 63) := by omega
  simp only [if_neg this]
theorem piece_no {p : List UInt8} (h : ∀ v, Lib.atoiAll p ≠ .ok v) : pieceV p = none := by
  unfold pieceV
  cases e : Lib.atoiAll p with
  | ok v => exact absurd e (h v)
  | _ => rfl
theorem piece_digits : ∀ i : Fin 64, pieceV (if i.val < 10 then [UInt8.ofNat (48 + i.val)] else [UInt8.ofNat (48 + i.val / 10), UInt8.ofNat (48 + i.val % 10)]) = some i.val := by decide +kernel
theorem piece_dec (i : Nat) (h : i < 64) : pieceV (Lib.decDigits i) = some i := by
  rw [dec_lt i (by omega)]; exact piece_digits ⟨i, h⟩
/-- What the pieces name together. -/
def accP (ps : List (List UInt8)) : Nat := wordOf (ofF (ps.map fun p => (((pieceV p).getD 0 : Nat) : Int)))
theorem acc_nil : accP [] = 0 := wordOf_none
theorem acc_lt (ps : List (List UInt8)) : accP ps < 18446744073709551616 := wordOf_lt _
theorem acc_snoc (ps : List (List UInt8)) (p : List UInt8) (c : Nat) (h : pieceV p = some c) (hc : c < 64) : accP (ps ++ [p]) = accP ps ||| 2 ^ c := by
  unfold accP
  rw [List.map_append, List.map_singleton, h]
  refine word_ext (wordOf_lt _) (or_lt _ _ (wordOf_lt _) (Nat.pow_lt_pow_right (by decide) hc)) fun i hi => ?_
  rw [Nat.testBit_or, wordOf_bit _ i hi, wordOf_bit _ i hi, Nat.testBit_two_pow]
  unfold ofF
  rw [List.contains_append]
  congr 1
  rw [Bool.eq_iff_iff]; simp; omega
theorem mem_list (b i : Nat) : i ∈ listTo b 64 ↔ i < 64 ∧ b.testBit i = true := by
  unfold listTo
  rw [List.mem_filter, List.mem_range]
theorem acc_text (b : Nat) (h0 : b ≠ 0) (hb : b < 18446744073709551616) : accP (spl (textN b)) = b := by
  rw [spl_text b h0 hb]
  unfold accP
  have e : ((listTo b 64).map Lib.decDigits).map (fun p => (((pieceV p).getD 0 : Nat) : Int)) = (listTo b 64).map fun i : Nat => (i : Int) := by
    rw [List.map_map]
    apply List.map_congr_left
    intro i hi
    show (((pieceV (Lib.decDigits i)).getD 0 : Nat) : Int) = _
    rw [piece_dec i (list_lt b 64 i hi)]; rfl
  rw [e]
  refine word_ext (wordOf_lt _) hb fun i hi => ?_
  rw [wordOf_bit _ i hi]
  unfold ofF
  rw [Bool.eq_iff_iff, List.contains_iff_mem, List.mem_map]
  constructor
  · rintro ⟨j, hj, e⟩
    have : j = i := by omega
    rw [← this]; exact ((mem_list b j).1 hj).2
  · intro h
    exact ⟨i, (mem_list b i).2 ⟨hi, h⟩, rfl⟩
/-- What a text is read as. -/
def ReadAs (s : List UInt8) (a : Nat) (e : Int) : Prop := (e = 0 ∧ a < 18446744073709551616 ∧ textN a = s) ∨ (e = 4 ∧ a = 0 ∧ ∀ b, b < 18446744073709551616 → textN b ≠ s)
theorem text_inj (a b : Nat) (ha : a < 18446744073709551616) (hb : b < 18446744073709551616) (h : textN a = textN b) : a = b := by
  have key : ∀ c, c < 18446744073709551616 → c ≠ 0 → textN c ≠ [45] := by
    intro c hc h0 e
    have h1 := acc_text c h0 hc
    rw [e] at h1
    have h2 : accP (spl [45]) = 1 := by decide +kernel
    rw [h2] at h1
    subst h1
    have h3 : textN 1 = [48] := by
      unfold textN
      rw [if_neg (by decide), show listTo 1 64 = [0] by decide +kernel, List.map_cons, List.map_nil, Lib.join_one, dec_lt 0 (by decide)]
      decide +kernel
    rw [h3] at e
    exact absurd e (by decide)
  by_cases h0 : a = 0
  · by_cases h1 : b = 0
    · rw [h0, h1]
    · rw [h0] at h; exact absurd h.symm (key b hb h1)
  · by_cases h1 : b = 0
    · rw [h1] at h; exact absurd h (key a ha h0)
    · rw [← acc_text a h0 ha, h, acc_text b h1 hb]
theorem readAs_one {s : List UInt8} {a b : Nat} {e f : Int} (h : ReadAs s a e) (k : ReadAs s b f) : a = b ∧ e = f := by
  rcases h with ⟨rfl, ha, h1⟩ | ⟨rfl, rfl, h1⟩ <;> rcases k with ⟨rfl, hb, k1⟩ | ⟨rfl, rfl, k1⟩
  · exact ⟨text_inj a b ha hb (h1.trans k1.symm), rfl⟩
  · exact absurd h1 (k1 a ha)
  · exact absurd k1 (h1 b hb)
  · exact ⟨rfl, rfl⟩
/-- A piece that names none: the text is no label's. -/
theorem read_bad {s : List UInt8} (hs : s ≠ [45]) {ps : List (List UInt8)} (hp : ps <+: spl s) {p : List UInt8} (hm : p ∈ ps) (hv : pieceV p = none) : ReadAs s 0 4 := by
  refine .inr ⟨rfl, rfl, fun b hb e => ?_⟩
  by_cases h0 : b = 0
  · subst h0; exact hs e.symm
  · have h1 := spl_text b h0 hb
    rw [e] at h1
    have h2 := hp.subset hm
    rw [h1] at h2
    obtain ⟨i, hi, rfl⟩ := List.mem_map.1 h2
    rw [piece_dec i (list_lt b 64 i hi)] at hv
    cases hv
/-- All pieces name one: it is the label's text, or no label's. -/
theorem read_good_lb {s : List UInt8} (hs : s ≠ [45]) : ReadAs s (accP (spl s)) 0 ∧ textN (accP (spl s)) = s ∨ ReadAs s 0 4 ∧ textN (accP (spl s)) ≠ s := by
  by_cases h : textN (accP (spl s)) = s
  · exact .inl ⟨.inl ⟨rfl, acc_lt _, h⟩, h⟩
  · refine .inr ⟨.inr ⟨rfl, rfl, fun b hb e => ?_⟩, h⟩
    by_cases h0 : b = 0
    · subst h0; exact hs e.symm
    · have h1 := acc_text b h0 hb
      rw [e] at h1
      rw [h1] at h
      exact h e
theorem read_dash : ReadAs [45] 0 0 := .inl ⟨rfl, by decide, rfl⟩
end Go.Proofs.YtfibbjnkicjbpaaGreatDoor
/- The library's contracts that the walks call, laid at this program by the shelf's own tool (plain mode), without its remarks. -/
namespace Go.Proofs
open Go.Shelf
def Tryz.lays169_ren : Go.Shelf.Ren := ⟨fun | 169 => 57 | n => n, fun | 70 => 86 | 9 => 9 | 0 => 0 | 72 => 88 | 37 => 64 | 127 => 116 | 3 => 3 | 5 => 5 | n => n, fun | n => n⟩
theorem Tryz.lays169 : Go.Proofs.Lays.n169 Tryz.prog Tryz.lays169_ren := {
  mixed := by kernel_rfl
  f169 := Tryz.func57.trans (congrArg some (by kernel_rfl))
  t0 := Tryz.underlying0
  a0 := Tryz.isAgg0
  z0 := Tryz.sizeOf0
  v0 := Tryz.zeroValue0
  t3 := Tryz.underlying3
  a3 := Tryz.isAgg3
  z3 := Tryz.sizeOf3
  v3 := Tryz.zeroValue3
  t9 := Tryz.underlying9
  a9 := Tryz.isAgg9
  z9 := Tryz.sizeOf9
  v9 := Tryz.zeroValue9
  t37 := Tryz.underlying64
  a37 := Tryz.isAgg64
  z37 := Tryz.sizeOf64
  v37 := Tryz.zeroValue64
  t70 := Tryz.underlying86
  a70 := Tryz.isAgg86
  z70 := Tryz.sizeOf86
  v70 := Tryz.zeroValue86
  t72 := Tryz.underlying88
  a72 := Tryz.isAgg88
  z72 := Tryz.sizeOf88
  v72 := Tryz.zeroValue88
  t127 := Tryz.underlying116
  a127 := Tryz.isAgg116
  z127 := Tryz.sizeOf116
  v127 := Tryz.zeroValue116 }
theorem Tryz.Builder_Extra_169 : Builder.Extra Tryz.prog Tryz.lays169_ren := {
  sizeBuilder := by kernel_rfl
  liesBuilder := by kernel_rfl
  t5 := Tryz.underlying5
  a5 := Tryz.isAgg5
  z5 := Tryz.sizeOf5
  v5 := Tryz.zeroValue5
  infoByte := by kernel_rfl
  cellsByte := by kernel_rfl
  sizeByte := by kernel_rfl
  neB5 := by decide }
open Go.RowKit in
theorem Tryz.Builder_String_any (B b : Nat) (l : List UInt8) (w : World) (h : Lib.IsBuilder 88 5 B b (Lib.byteCells l) w) (hBw : B ≤ w.heap.size) :
    Calls Tryz.prog 57 #[.pointer (some ⟨b, 0, none⟩)] w fun e w' => e = .returned (.string ⟨l.toArray⟩) ∧ Below B w w' := Any.Builder_String_any Tryz.lays169 Tryz.Builder_Extra_169 B b l w h hBw
def Tryz.lays165_ren : Go.Shelf.Ren := ⟨fun | 165 => 54 | 240 => 84 | 241 => 85 | 276 => 107 | 277 => 108 | n => n, fun | 70 => 86 | 3 => 3 | 0 => 0 | 4 => 4 | 9 => 9 | 20 => 20 | 72 => 88 | 37 => 64 | 164 => 135 | 5 => 5 | n => n, fun | n => n⟩
theorem Tryz.lays165 : Go.Proofs.Lays.n165 Tryz.prog Tryz.lays165_ren := {
  mixed := by kernel_rfl
  f165 := Tryz.func54.trans (congrArg some (by kernel_rfl))
  f240 := Tryz.func84.trans (congrArg some (by kernel_rfl))
  f241 := Tryz.func85.trans (congrArg some (by kernel_rfl))
  f276 := Tryz.func107.trans (congrArg some (by kernel_rfl))
  f277 := Tryz.func108.trans (congrArg some (by kernel_rfl))
  t0 := Tryz.underlying0
  a0 := Tryz.isAgg0
  z0 := Tryz.sizeOf0
  v0 := Tryz.zeroValue0
  t3 := Tryz.underlying3
  a3 := Tryz.isAgg3
  z3 := Tryz.sizeOf3
  v3 := Tryz.zeroValue3
  t4 := Tryz.underlying4
  a4 := Tryz.isAgg4
  z4 := Tryz.sizeOf4
  v4 := Tryz.zeroValue4
  t9 := Tryz.underlying9
  a9 := Tryz.isAgg9
  z9 := Tryz.sizeOf9
  v9 := Tryz.zeroValue9
  t20 := Tryz.underlying20
  a20 := Tryz.isAgg20
  z20 := Tryz.sizeOf20
  v20 := Tryz.zeroValue20
  t37 := Tryz.underlying64
  a37 := Tryz.isAgg64
  z37 := Tryz.sizeOf64
  v37 := Tryz.zeroValue64
  t70 := Tryz.underlying86
  a70 := Tryz.isAgg86
  z70 := Tryz.sizeOf86
  v70 := Tryz.zeroValue86
  t72 := Tryz.underlying88
  a72 := Tryz.isAgg88
  z72 := Tryz.sizeOf88
  v72 := Tryz.zeroValue88
  t164 := Tryz.underlying135
  a164 := Tryz.isAgg135
  z164 := Tryz.sizeOf135
  v164 := Tryz.zeroValue135 }
theorem Tryz.Builder_Extra_165 : Builder.Extra Tryz.prog Tryz.lays165_ren := {
  sizeBuilder := by kernel_rfl
  liesBuilder := by kernel_rfl
  t5 := Tryz.underlying5
  a5 := Tryz.isAgg5
  z5 := Tryz.sizeOf5
  v5 := Tryz.zeroValue5
  infoByte := by kernel_rfl
  cellsByte := by kernel_rfl
  sizeByte := by kernel_rfl
  neB5 := by decide }
open Go.RowKit in
theorem Tryz.Builder_Grow_fresh (B b n : Nat) (w : World) (hB : B ≤ b) (hbk : w.heap[b]? = some (.cells #[.pointer none, .slice none 0 0] 88 (0, 0))) (hBw : B ≤ w.heap.size) (hn : n ≤ 281474976710656) :
    Calls Tryz.prog 54 #[.pointer (some ⟨b, 0, none⟩), .int .i64 n] w fun e w' => e = .returned (.tuple #[]) ∧ (Lib.BuilderAt 88 5 B b (.pointer (some ⟨b, 0, none⟩)) [] w' ∧ Below B w w') := Any.Builder_Grow_fresh Tryz.lays165 Tryz.Builder_Extra_165 B b n w hB hbk hBw hn
def Tryz.lays156_ren : Go.Shelf.Ren := ⟨fun | 156 => 53 | 165 => 54 | 166 => 55 | 169 => 57 | 240 => 84 | 241 => 85 | 276 => 107 | 277 => 108 | n => n, fun | 31 => 33 | 9 => 9 | 3 => 3 | 4 => 4 | 0 => 0 | 20 => 20 | 72 => 88 | 76 => 92 | 70 => 86 | 37 => 64 | 75 => 91 | 127 => 116 | 164 => 135 | 5 => 5 | 80 => 35 | n => n, fun | n => n⟩
theorem Tryz.lays156 : Go.Proofs.Lays.n156 Tryz.prog Tryz.lays156_ren := {
  mixed := by kernel_rfl
  f156 := Tryz.func53.trans (congrArg some (by kernel_rfl))
  f165 := Tryz.func54.trans (congrArg some (by kernel_rfl))
  f166 := Tryz.func55.trans (congrArg some (by kernel_rfl))
  f169 := Tryz.func57.trans (congrArg some (by kernel_rfl))
  f240 := Tryz.func84.trans (congrArg some (by kernel_rfl))
  f241 := Tryz.func85.trans (congrArg some (by kernel_rfl))
  f276 := Tryz.func107.trans (congrArg some (by kernel_rfl))
  f277 := Tryz.func108.trans (congrArg some (by kernel_rfl))
  t0 := Tryz.underlying0
  a0 := Tryz.isAgg0
  z0 := Tryz.sizeOf0
  v0 := Tryz.zeroValue0
  t3 := Tryz.underlying3
  a3 := Tryz.isAgg3
  z3 := Tryz.sizeOf3
  v3 := Tryz.zeroValue3
  t4 := Tryz.underlying4
  a4 := Tryz.isAgg4
  z4 := Tryz.sizeOf4
  v4 := Tryz.zeroValue4
  t9 := Tryz.underlying9
  a9 := Tryz.isAgg9
  z9 := Tryz.sizeOf9
  v9 := Tryz.zeroValue9
  t20 := Tryz.underlying20
  a20 := Tryz.isAgg20
  z20 := Tryz.sizeOf20
  v20 := Tryz.zeroValue20
  t31 := Tryz.underlying33
  a31 := Tryz.isAgg33
  z31 := Tryz.sizeOf33
  v31 := Tryz.zeroValue33
  t37 := Tryz.underlying64
  a37 := Tryz.isAgg64
  z37 := Tryz.sizeOf64
  v37 := Tryz.zeroValue64
  t70 := Tryz.underlying86
  a70 := Tryz.isAgg86
  z70 := Tryz.sizeOf86
  v70 := Tryz.zeroValue86
  t72 := Tryz.underlying88
  a72 := Tryz.isAgg88
  z72 := Tryz.sizeOf88
  v72 := Tryz.zeroValue88
  t75 := Tryz.underlying91
  a75 := Tryz.isAgg91
  z75 := Tryz.sizeOf91
  v75 := Tryz.zeroValue91
  t76 := Tryz.underlying92
  a76 := Tryz.isAgg92
  z76 := Tryz.sizeOf92
  v76 := Tryz.zeroValue92
  t127 := Tryz.underlying116
  a127 := Tryz.isAgg116
  z127 := Tryz.sizeOf116
  v127 := Tryz.zeroValue116
  t164 := Tryz.underlying135
  a164 := Tryz.isAgg135
  z164 := Tryz.sizeOf135
  v164 := Tryz.zeroValue135 }
theorem Tryz.Builder_Extra_156 : Builder.Extra Tryz.prog Tryz.lays156_ren := {
  sizeBuilder := by kernel_rfl
  liesBuilder := by kernel_rfl
  t5 := Tryz.underlying5
  a5 := Tryz.isAgg5
  z5 := Tryz.sizeOf5
  v5 := Tryz.zeroValue5
  infoByte := by kernel_rfl
  cellsByte := by kernel_rfl
  sizeByte := by kernel_rfl
  neB5 := by decide }
open Go.RowKit in
theorem Tryz.strings_Join (bk o c : Nat) (xs : List ByteArray) (sep : ByteArray) (w : World) (hcells : ∀ (j : Nat) x, xs[j]? = some x → w.cell? ⟨bk, o + j, none⟩ = some (.string x)) (hbk : bk < w.heap.size) (hN : xs.length ≤ 140737488355328) (hcap : xs.length ≤ c) (hlen : (Lib.join (xs.map (·.data.toList)) sep.data.toList).length ≤ 140737488355328) :
    Calls Tryz.prog 53 #[.slice (some ⟨bk, o, none⟩) xs.length c, .string sep] w fun e w' => e = .returned (.string ⟨(Lib.join (xs.map (·.data.toList)) sep.data.toList).toArray⟩) ∧ Below w.heap.size w w' := Any.strings_Join Tryz.lays156 Tryz.Builder_Extra_156 bk o c xs sep w hcells hbk hN hcap hlen
def Tryz.lays171_ren : Go.Shelf.Ren := ⟨fun | 171 => 52 | 243 => 83 | 246 => 106 | 283 => 126 | 284 => 127 | 285 => 128 | 286 => 129 | 129 => 79 | 317 => 147 | 318 => 148 | 319 => 149 | 320 => 150 | 337 => 158 | 338 => 82 | n => n, fun | 3 => 3 | 9 => 9 | 2 => 2 | 4 => 4 | 171 => 151 | 0 => 0 | 53 => 24 | 37 => 64 | 5 => 5 | 173 => 153 | 212 => 168 | 51 => 112 | 20 => 20 | 213 => 169 | 46 => 81 | 232 => 188 | 233 => 133 | n => n, fun | 17 => 2 | 18 => 7 | 19 => 0 | n => n⟩
theorem Tryz.lays171 : Go.Proofs.Lays.n171 Tryz.prog Tryz.lays171_ren := {
  mixed := by kernel_rfl
  f129 := Tryz.func79.trans (congrArg some (by kernel_rfl))
  f171 := Tryz.func52.trans (congrArg some (by kernel_rfl))
  f243 := Tryz.func83.trans (congrArg some (by kernel_rfl))
  f246 := Tryz.func106.trans (congrArg some (by kernel_rfl))
  f283 := Tryz.func126.trans (congrArg some (by kernel_rfl))
  f284 := Tryz.func127.trans (congrArg some (by kernel_rfl))
  f285 := Tryz.func128.trans (congrArg some (by kernel_rfl))
  f286 := Tryz.func129.trans (congrArg some (by kernel_rfl))
  f317 := Tryz.func147.trans (congrArg some (by kernel_rfl))
  f318 := Tryz.func148.trans (congrArg some (by kernel_rfl))
  f319 := Tryz.func149.trans (congrArg some (by kernel_rfl))
  f320 := Tryz.func150.trans (congrArg some (by kernel_rfl))
  f337 := Tryz.func158.trans (congrArg some (by kernel_rfl))
  f338 := Tryz.func82.trans (congrArg some (by kernel_rfl))
  t0 := Tryz.underlying0
  a0 := Tryz.isAgg0
  z0 := Tryz.sizeOf0
  v0 := Tryz.zeroValue0
  t2 := Tryz.underlying2
  a2 := Tryz.isAgg2
  z2 := Tryz.sizeOf2
  v2 := Tryz.zeroValue2
  t3 := Tryz.underlying3
  a3 := Tryz.isAgg3
  z3 := Tryz.sizeOf3
  v3 := Tryz.zeroValue3
  t4 := Tryz.underlying4
  a4 := Tryz.isAgg4
  z4 := Tryz.sizeOf4
  v4 := Tryz.zeroValue4
  t5 := Tryz.underlying5
  a5 := Tryz.isAgg5
  z5 := Tryz.sizeOf5
  v5 := Tryz.zeroValue5
  t9 := Tryz.underlying9
  a9 := Tryz.isAgg9
  z9 := Tryz.sizeOf9
  v9 := Tryz.zeroValue9
  t20 := Tryz.underlying20
  a20 := Tryz.isAgg20
  z20 := Tryz.sizeOf20
  v20 := Tryz.zeroValue20
  t37 := Tryz.underlying64
  a37 := Tryz.isAgg64
  z37 := Tryz.sizeOf64
  v37 := Tryz.zeroValue64
  t46 := Tryz.underlying81
  a46 := Tryz.isAgg81
  z46 := Tryz.sizeOf81
  v46 := Tryz.zeroValue81
  t51 := Tryz.underlying112
  a51 := Tryz.isAgg112
  z51 := Tryz.sizeOf112
  v51 := Tryz.zeroValue112
  t53 := Tryz.underlying24
  a53 := Tryz.isAgg24
  z53 := Tryz.sizeOf24
  v53 := Tryz.zeroValue24
  t171 := Tryz.underlying151
  a171 := Tryz.isAgg151
  z171 := Tryz.sizeOf151
  v171 := Tryz.zeroValue151
  t173 := Tryz.underlying153
  a173 := Tryz.isAgg153
  z173 := Tryz.sizeOf153
  v173 := Tryz.zeroValue153
  t212 := Tryz.underlying168
  a212 := Tryz.isAgg168
  z212 := Tryz.sizeOf168
  v212 := Tryz.zeroValue168
  t213 := Tryz.underlying169
  a213 := Tryz.isAgg169
  z213 := Tryz.sizeOf169
  t232 := Tryz.underlying188
  a232 := Tryz.isAgg188
  z232 := Tryz.sizeOf188
  v232 := Tryz.zeroValue188
  t233 := Tryz.underlying133
  a233 := Tryz.isAgg133
  z233 := Tryz.sizeOf133
  v233 := Tryz.zeroValue133
  g17 := by kernel_rfl
  g18 := by kernel_rfl
  g19 := by kernel_rfl }
open Go.RowKit Go.Sort Go.Lib in
theorem Tryz.strconv_Itoa_small (i : Nat) (hi : i < 100) (w : World) :
    Calls Tryz.prog 52 #[.int .i64 i] w fun e w' => e = .returned (.string ⟨(Lib.decDigits i).toArray⟩) ∧ w' = w := Any.strconv_Itoa_small Tryz.lays171 i hi w
def Tryz.laysC172_ren : Go.Shelf.Ren := ⟨fun | 172 => 94 | 244 => 114 | 245 => 115 | 247 => 138 | 279 => 139 | 280 => 140 | 281 => 141 | 282 => 142 | 287 => 154 | 316 => 155 | 171 => 52 | 205 => 156 | 321 => 159 | 322 => 160 | 243 => 83 | 246 => 106 | 283 => 126 | 284 => 127 | 285 => 128 | 286 => 129 | 129 => 79 | 317 => 147 | 318 => 148 | 319 => 149 | 320 => 150 | 337 => 158 | 338 => 82 | n => n, fun | 9 => 9 | 3 => 3 | 75 => 91 | 76 => 92 | 4 => 4 | 5 => 5 | 167 => 159 | 37 => 64 | 0 => 0 | 85 => 160 | 2 => 2 | 168 => 162 | 53 => 24 | 175 => 173 | 46 => 81 | 210 => 177 | 127 => 116 | 145 => 187 | 143 => 185 | 21 => 21 | 171 => 151 | 173 => 153 | 212 => 168 | 51 => 112 | 20 => 20 | 213 => 169 | 232 => 188 | 233 => 133 | 80 => 35 | n => n, fun | 15 => 3 | 16 => 4 | 17 => 2 | 18 => 7 | 19 => 0 | n => n⟩
theorem Tryz.laysC172 : Go.Proofs.LaysC.n172 Tryz.prog Tryz.laysC172_ren := {
  mixed := by kernel_rfl
  f129 := Tryz.func79.trans (congrArg some (by kernel_rfl))
  f171 := Tryz.func52.trans (congrArg some (by kernel_rfl))
  f172 := Tryz.func94.trans (congrArg some (by kernel_rfl))
  f205 := Tryz.func156.trans (congrArg some (by kernel_rfl))
  f243 := Tryz.func83.trans (congrArg some (by kernel_rfl))
  f244 := Tryz.func114.trans (congrArg some (by kernel_rfl))
  f245 := Tryz.func115.trans (congrArg some (by kernel_rfl))
  f246 := Tryz.func106.trans (congrArg some (by kernel_rfl))
  f247 := Tryz.func138.trans (congrArg some (by kernel_rfl))
  f279 := Tryz.func139.trans (congrArg some (by kernel_rfl))
  f280 := Tryz.func140.trans (congrArg some (by kernel_rfl))
  f281 := Tryz.func141.trans (congrArg some (by kernel_rfl))
  f282 := Tryz.func142.trans (congrArg some (by kernel_rfl))
  f283 := Tryz.func126.trans (congrArg some (by kernel_rfl))
  f284 := Tryz.func127.trans (congrArg some (by kernel_rfl))
  f285 := Tryz.func128.trans (congrArg some (by kernel_rfl))
  f286 := Tryz.func129.trans (congrArg some (by kernel_rfl))
  f287 := Tryz.func154.trans (congrArg some (by kernel_rfl))
  f316 := Tryz.func155.trans (congrArg some (by kernel_rfl))
  f317 := Tryz.func147.trans (congrArg some (by kernel_rfl))
  f318 := Tryz.func148.trans (congrArg some (by kernel_rfl))
  f319 := Tryz.func149.trans (congrArg some (by kernel_rfl))
  f320 := Tryz.func150.trans (congrArg some (by kernel_rfl))
  f321 := Tryz.func159.trans (congrArg some (by kernel_rfl))
  f322 := Tryz.func160.trans (congrArg some (by kernel_rfl))
  f337 := Tryz.func158.trans (congrArg some (by kernel_rfl))
  f338 := Tryz.func82.trans (congrArg some (by kernel_rfl))
  t0 := Tryz.underlying0
  a0 := Tryz.isAgg0
  z0 := Tryz.sizeOf0
  v0 := Tryz.zeroValue0
  t2 := Tryz.underlying2
  a2 := Tryz.isAgg2
  z2 := Tryz.sizeOf2
  v2 := Tryz.zeroValue2
  t3 := Tryz.underlying3
  a3 := Tryz.isAgg3
  z3 := Tryz.sizeOf3
  v3 := Tryz.zeroValue3
  t4 := Tryz.underlying4
  a4 := Tryz.isAgg4
  z4 := Tryz.sizeOf4
  v4 := Tryz.zeroValue4
  t5 := Tryz.underlying5
  a5 := Tryz.isAgg5
  z5 := Tryz.sizeOf5
  v5 := Tryz.zeroValue5
  t9 := Tryz.underlying9
  a9 := Tryz.isAgg9
  z9 := Tryz.sizeOf9
  v9 := Tryz.zeroValue9
  t20 := Tryz.underlying20
  a20 := Tryz.isAgg20
  z20 := Tryz.sizeOf20
  v20 := Tryz.zeroValue20
  t21 := Tryz.underlying21
  a21 := Tryz.isAgg21
  z21 := Tryz.sizeOf21
  v21 := Tryz.zeroValue21
  t37 := Tryz.underlying64
  a37 := Tryz.isAgg64
  z37 := Tryz.sizeOf64
  v37 := Tryz.zeroValue64
  t46 := Tryz.underlying81
  a46 := Tryz.isAgg81
  z46 := Tryz.sizeOf81
  v46 := Tryz.zeroValue81
  t51 := Tryz.underlying112
  a51 := Tryz.isAgg112
  z51 := Tryz.sizeOf112
  v51 := Tryz.zeroValue112
  t53 := Tryz.underlying24
  a53 := Tryz.isAgg24
  z53 := Tryz.sizeOf24
  v53 := Tryz.zeroValue24
  t75 := Tryz.underlying91
  a75 := Tryz.isAgg91
  z75 := Tryz.sizeOf91
  v75 := Tryz.zeroValue91
  t76 := Tryz.underlying92
  a76 := Tryz.isAgg92
  z76 := Tryz.sizeOf92
  v76 := Tryz.zeroValue92
  t85 := Tryz.underlying160
  a85 := Tryz.isAgg160
  z85 := Tryz.sizeOf160
  v85 := Tryz.zeroValue160
  t127 := Tryz.underlying116
  a127 := Tryz.isAgg116
  z127 := Tryz.sizeOf116
  v127 := Tryz.zeroValue116
  t143 := Tryz.underlying185
  a143 := Tryz.isAgg185
  z143 := Tryz.sizeOf185
  v143 := Tryz.zeroValue185
  t145 := Tryz.underlying187
  a145 := Tryz.isAgg187
  z145 := Tryz.sizeOf187
  v145 := Tryz.zeroValue187
  t167 := Tryz.underlying159
  a167 := Tryz.isAgg159
  z167 := Tryz.sizeOf159
  v167 := Tryz.zeroValue159
  t168 := Tryz.underlying162
  a168 := Tryz.isAgg162
  z168 := Tryz.sizeOf162
  v168 := Tryz.zeroValue162
  t171 := Tryz.underlying151
  a171 := Tryz.isAgg151
  z171 := Tryz.sizeOf151
  v171 := Tryz.zeroValue151
  t173 := Tryz.underlying153
  a173 := Tryz.isAgg153
  z173 := Tryz.sizeOf153
  v173 := Tryz.zeroValue153
  t175 := Tryz.underlying173
  a175 := Tryz.isAgg173
  z175 := Tryz.sizeOf173
  v175 := Tryz.zeroValue173
  t210 := Tryz.underlying177
  a210 := Tryz.isAgg177
  z210 := Tryz.sizeOf177
  v210 := Tryz.zeroValue177
  t212 := Tryz.underlying168
  a212 := Tryz.isAgg168
  z212 := Tryz.sizeOf168
  v212 := Tryz.zeroValue168
  t213 := Tryz.underlying169
  a213 := Tryz.isAgg169
  z213 := Tryz.sizeOf169
  t232 := Tryz.underlying188
  a232 := Tryz.isAgg188
  z232 := Tryz.sizeOf188
  v232 := Tryz.zeroValue188
  t233 := Tryz.underlying133
  a233 := Tryz.isAgg133
  z233 := Tryz.sizeOf133
  v233 := Tryz.zeroValue133
  g15 := by kernel_rfl
  g16 := by kernel_rfl
  g17 := by kernel_rfl
  g18 := by kernel_rfl
  g19 := by kernel_rfl
  t80 := Tryz.underlying35
  a80 := Tryz.isAgg35
  z80 := Tryz.sizeOf35
  v80 := Tryz.zeroValue35
  i0 := by kernel_rfl
  i2 := by kernel_rfl
  i3 := by kernel_rfl
  i4 := by kernel_rfl
  i5 := by kernel_rfl
  i9 := by kernel_rfl
  i20 := by kernel_rfl
  i21 := by kernel_rfl
  i37 := by kernel_rfl
  i46 := by kernel_rfl
  i51 := by kernel_rfl
  i53 := by kernel_rfl
  i75 := by kernel_rfl
  i76 := by kernel_rfl
  i80 := by kernel_rfl
  i85 := by kernel_rfl
  i127 := by kernel_rfl
  i143 := by kernel_rfl
  i145 := by kernel_rfl
  i167 := by kernel_rfl
  i168 := by kernel_rfl
  i171 := by kernel_rfl
  i173 := by kernel_rfl
  i175 := by kernel_rfl
  i210 := by kernel_rfl
  i212 := by kernel_rfl
  i232 := by kernel_rfl
  i233 := by kernel_rfl
  m15 := by kernel_rfl
  m16 := by kernel_rfl
  m17 := by kernel_rfl
  m18 := by kernel_rfl
  m19 := by kernel_rfl
  c0 := by kernel_rfl
  c2 := by kernel_rfl
  c3 := by kernel_rfl
  c4 := by kernel_rfl
  c5 := by kernel_rfl
  c9 := by kernel_rfl
  c20 := by kernel_rfl
  c21 := by kernel_rfl
  c37 := by kernel_rfl
  c46 := by kernel_rfl
  c51 := by kernel_rfl
  c53 := by kernel_rfl
  c75 := by kernel_rfl
  c76 := by kernel_rfl
  c80 := by kernel_rfl
  c85 := by kernel_rfl
  c127 := by kernel_rfl
  c143 := by kernel_rfl
  c145 := by kernel_rfl
  c167 := by kernel_rfl
  c168 := by kernel_rfl
  c171 := by kernel_rfl
  c173 := by kernel_rfl
  c175 := by kernel_rfl
  c210 := by kernel_rfl
  c212 := by kernel_rfl
  c213 := by kernel_rfl
  c232 := by kernel_rfl
  c233 := by kernel_rfl }
open Go.RowKit in
theorem Tryz.strconv_Atoi_ok (s : ByteArray) (hmax : s.size ≤ 9223372036854775806) (v : Int) (h : Lib.atoiAll s.data.toList = .ok v) (w : World) :
    Calls Tryz.prog 94 #[.string s] w fun e w' => e = .returned (.tuple #[.int .i64 v, .nilIface]) ∧ (w' = w ∨ ∃ t, w' = Lib.bytesWorld w 5 t) := Any.strconv_Atoi_ok Tryz.laysC172 s hmax v h w
open Go.RowKit in
theorem Tryz.strconv_Atoi_range (s : ByteArray) (hlim : s.size ≤ 281474976710656) (h : Lib.atoiAll s.data.toList = .range) (ev : Value) (w : World) (hv : w.cell? ⟨4, 0, none⟩ = some ev) (hev : ev = .nilIface ∨ ∃ te pe, ev = .iface te pe) :
    Calls Tryz.prog 94 #[.string s] w fun e w' => ∃ N, e = .returned (.tuple #[.int .i64 (Lib.atoiSat s.data.toList), .iface 162 (.pointer (some ⟨N, 0, none⟩))]) ∧ w.heap.size ≤ N ∧ w'.heap[N]? = some (.cells #[.string ⟨#[65, 116, 111, 105]⟩, .string s, ev] 177 (0, 0)) ∧ Below w.heap.size w w' := Any.strconv_Atoi_range Tryz.laysC172 s hlim h ev w hv hev
end Go.Proofs
/- Plain facts about numbers and their forms: no program. -/
namespace Go.Proofs.YtfibbjnkicjbpaaGreatDoor
open Go

def isDig (c : UInt8) : Bool := decide (48 ≤ c.toNat) && decide (c.toNat ≤ 57)
/-- The number that the digits write. -/
def dv (l : List UInt8) : Nat := l.foldl (fun a c => a * 10 + (c.toNat - 48)) 0
theorem dv_snoc (l : List UInt8) (c : UInt8) : dv (l ++ [c]) = dv l * 10 + (c.toNat - 48) := by simp [dv]
theorem dv_nil : dv [] = 0 := rfl

theorem isDig_iff (c : UInt8) : isDig c = true ↔ 48 ≤ c.toNat ∧ c.toNat ≤ 57 := by unfold isDig; simp
theorem toNat_ofNat (d : Nat) (h : d < 10) : (UInt8.ofNat (48 + d)).toNat = 48 + d := by
  rw [UInt8.toNat_ofNat']; omega
theorem ofNat_digit (c : UInt8) (h : isDig c = true) : UInt8.ofNat (48 + (c.toNat - 48)) = c := by
  have := (isDig_iff c).1 h
  rw [show 48 + (c.toNat - 48) = c.toNat from by omega]
  exact UInt8.ofNat_toNat

theorem dec_small {u : Nat} (h : u < 10) : Lib.decDigits u = [UInt8.ofNat (48 + u)] := by rw [Lib.decDigits, dif_pos h]
theorem dec_big {u : Nat} (h : ¬ u < 10) : Lib.decDigits u = Lib.decDigits (u / 10) ++ [UInt8.ofNat (48 + u % 10)] := by rw [Lib.decDigits, dif_neg h]

theorem dv_dec (u : Nat) : dv (Lib.decDigits u) = u := by
  induction u using Nat.strongRecOn with
  | _ u ih =>
    by_cases h : u < 10
    · rw [dec_small h, show [UInt8.ofNat (48 + u)] = [] ++ [UInt8.ofNat (48 + u)] from rfl, dv_snoc, toNat_ofNat u h, dv_nil]; omega
    · rw [dec_big h, dv_snoc, ih (u / 10) (by omega), toNat_ofNat _ (by omega)]; omega
theorem dec_digs (u : Nat) : (Lib.decDigits u).all isDig = true := by
  induction u using Nat.strongRecOn with
  | _ u ih =>
    by_cases h : u < 10
    · rw [dec_small h]; simp only [List.all_cons, List.all_nil, Bool.and_true]; rw [isDig_iff, toNat_ofNat u h]; omega
    · rw [dec_big h, List.all_append, ih (u / 10) (by omega)]
      simp only [List.all_cons, List.all_nil, Bool.and_true, Bool.true_and]; rw [isDig_iff, toNat_ofNat _ (by omega)]; omega
theorem dec_ne (u : Nat) : Lib.decDigits u ≠ [] := by
  by_cases h : u < 10
  · rw [dec_small h]; simp
  · rw [dec_big h]; simp
theorem dec_head (u : Nat) (h1 : 1 ≤ u) : (Lib.decDigits u).head? ≠ some 48 := by
  induction u using Nat.strongRecOn with
  | _ u ih =>
    by_cases h : u < 10
    · rw [dec_small h]
      simp only [List.head?_cons, ne_eq, Option.some.injEq]
      intro e
      have := congrArg UInt8.toNat e
      rw [toNat_ofNat u h] at this
      have h48 : (48 : UInt8).toNat = 48 := rfl
      omega
    · rw [dec_big h]
      have h2 := ih (u / 10) (by omega) (by omega)
      rw [List.head?_append]
      cases hd : (Lib.decDigits (u / 10)).head? with
      | none => exact absurd (List.head?_eq_none_iff.1 hd) (dec_ne _)
      | some x => rw [hd] at h2; simpa using h2

/-- Digits without noughts ahead are the numeral of their number. -/
theorem dec_dv : ∀ (n : Nat) (l : List UInt8), l.length = n → l.all isDig = true → l ≠ [] → (l.head? = some 48 → l.length = 1) → Lib.decDigits (dv l) = l := by
  intro n
  induction n with
  | zero => intro l h _ hne _; exact absurd (List.eq_nil_of_length_eq_zero h) hne
  | succ n ih =>
    intro l hl ha hne hz
    obtain ⟨t, c, rfl⟩ : ∃ t c, l = t ++ [c] := ⟨l.dropLast, l.getLast hne, (List.dropLast_concat_getLast hne).symm⟩
    rw [List.all_append] at ha
    simp only [List.all_cons, List.all_nil, Bool.and_true, Bool.and_eq_true] at ha
    have hc := (isDig_iff c).1 ha.2
    rw [dv_snoc]
    by_cases ht : t = []
    · subst ht
      rw [dv_nil, dec_small (by omega), Nat.zero_mul, Nat.zero_add, ofNat_digit c ha.2]; rfl
    · have hlen : t.length = n := by simpa using hl
      have hpos : 1 ≤ t.length := by cases t with
        | nil => exact absurd rfl ht
        | cons _ _ => simp
      have hh : t.head? ≠ some 48 := by
        intro e
        have : (t ++ [c]).head? = some 48 := by rw [List.head?_append, e]; rfl
        have := hz this
        rw [List.length_append, List.length_singleton] at this; omega
      have hi := ih t hlen ha.1 ht (fun e => absurd e hh)
      have h1 : 1 ≤ dv t := by
        apply Nat.pos_of_ne_zero
        intro e
        rw [e, dec_small (by decide)] at hi
        rw [← hi] at hh
        exact hh rfl
      rw [dec_big (by omega), show (dv t * 10 + (c.toNat - 48)) / 10 = dv t from by omega, show (dv t * 10 + (c.toNat - 48)) % 10 = c.toNat - 48 from by omega, hi, ofNat_digit c ha.2]

/-! What Take answers. -/
def negB (l : List UInt8) : Bool := l.head? == some 45
def bodyL (l : List UInt8) : List UInt8 := if negB l then l.tail else l
def digsL (l : List UInt8) : List UInt8 := (bodyL l).takeWhile isDig
def restL (l : List UInt8) : List UInt8 := (bodyL l).dropWhile isDig
def valL (l : List UInt8) : Int := if negB l then -(dv (digsL l) : Int) else dv (digsL l)
def formL (l : List UInt8) : List UInt8 := if negB l then 45 :: digsL l else digsL l
/-- Do the digits at the beginning, with the sign, make a number's form? -/
def takeOk (l : List UInt8) : Bool := !(digsL l).isEmpty && !((digsL l).head? == some 48 && (decide (1 < (digsL l).length) || negB l)) && decide (-9223372036854775808 ≤ valL l) && decide (valL l ≤ 9223372036854775807)
def takeN (l : List UInt8) : Int := if takeOk l then valL l else 0
def takeT (l : List UInt8) : List UInt8 := if takeOk l then restL l else []
def takeE (l : List UInt8) : Int := if takeOk l then 0 else 4

theorem digs_all (l : List UInt8) : (digsL l).all isDig = true := List.all_takeWhile
theorem form_rest (l : List UInt8) : formL l ++ restL l = l := by
  unfold formL restL digsL bodyL negB
  by_cases h : l.head? = some 45
  · cases l with
    | nil => simp at h
    | cons a t =>
      simp only [List.head?_cons, Option.some.injEq] at h
      subst h
      simp [List.takeWhile_append_dropWhile]
  · rw [if_neg (by simpa using h), if_neg (by simpa using h), List.takeWhile_append_dropWhile]
theorem dig_not_sign (c : UInt8) (h : isDig c = true) : c ≠ 45 := by
  intro e; subst e; exact absurd h (by decide)

theorem itoa_neg' (n : Int) (h : n < 0) : Lib.itoa n = 45 :: Lib.decDigits n.natAbs := by unfold Lib.itoa; rw [if_pos h]
theorem itoa_pos' (n : Int) (h : ¬ n < 0) : Lib.itoa n = Lib.decDigits n.toNat := by unfold Lib.itoa; rw [if_neg h]

/-- Where the digits make a number's form, the form is the number's. -/
theorem form_of_ok (l : List UInt8) (h : takeOk l = true) : Lib.itoa (valL l) = formL l := by
  unfold takeOk at h
  simp only [Bool.and_eq_true, Bool.not_eq_true', List.isEmpty_eq_false_iff, decide_eq_true_eq] at h
  obtain ⟨⟨⟨hne, hz⟩, _⟩, _⟩ := h
  have hz' : (digsL l).head? = some 48 → (digsL l).length = 1 ∧ negB l = false := by
    intro e
    rw [e] at hz
    simp only [beq_self_eq_true, Bool.true_and, Bool.or_eq_false_iff, decide_eq_false_iff_not] at hz
    have : 1 ≤ (digsL l).length := by cases hd : digsL l with
      | nil => exact absurd hd hne
      | cons _ _ => simp
    exact ⟨by omega, hz.2⟩
  have hd := dec_dv _ (digsL l) rfl (digs_all l) hne (fun e => (hz' e).1)
  unfold valL formL
  cases hn : negB l with
  | false => simp only [Bool.false_eq_true, if_false]; rw [itoa_pos' _ (by omega)]; simpa using hd
  | true =>
    simp only [if_true]
    have h1 : 1 ≤ dv (digsL l) := by
      apply Nat.pos_of_ne_zero
      intro e
      rw [e, dec_small (by decide)] at hd
      have := (hz' (by rw [← hd]; rfl)).2
      rw [hn] at this; cases this
    rw [itoa_neg' _ (by omega)]
    have e : (-(dv (digsL l) : Int)).natAbs = dv (digsL l) := by omega
    rw [e, hd]

/-- A number whose numeral is the form that stands there is the number there, and the digits make a form. -/
theorem ok_of_form (l : List UInt8) (n : Int) (h1 : -9223372036854775808 ≤ n) (h2 : n ≤ 9223372036854775807) (h : Lib.itoa n = formL l) : takeOk l = true ∧ valL l = n := by
  have key : digsL l ≠ [] ∧ ((digsL l).head? = some 48 → (digsL l).length = 1 ∧ negB l = false) ∧ valL l = n := by
    by_cases hn : n < 0
    · rw [itoa_neg' n hn] at h
      unfold formL at h
      cases hb : negB l with
      | false =>
        rw [hb] at h
        simp only [Bool.false_eq_true, if_false] at h
        have := digs_all l
        rw [← h] at this
        simp only [List.all_cons, Bool.and_eq_true] at this
        exact absurd rfl (dig_not_sign 45 this.1)
      | true =>
        rw [hb] at h
        simp only [if_true, List.cons.injEq, true_and] at h
        refine ⟨by rw [← h]; exact dec_ne _, fun e => ?_, ?_⟩
        · rw [← h] at e
          exact absurd e (dec_head _ (by omega))
        · unfold valL; rw [hb, ← h, dv_dec]; simp only [if_true]; omega
    · rw [itoa_pos' n hn] at h
      unfold formL at h
      cases hb : negB l with
      | false =>
        rw [hb] at h
        simp only [Bool.false_eq_true, if_false] at h
        refine ⟨by rw [← h]; exact dec_ne _, fun e => ⟨?_, rfl⟩, ?_⟩
        · by_cases h0 : n.toNat = 0
          · rw [← h, h0, dec_small (by decide)]; rfl
          · rw [← h] at e
            exact absurd e (dec_head _ (by omega))
        · unfold valL; rw [hb, ← h, dv_dec]; simp only [Bool.false_eq_true, if_false]; omega
      | true =>
        rw [hb] at h
        simp only [if_true] at h
        have := dec_digs n.toNat
        rw [h] at this
        simp only [List.all_cons, Bool.and_eq_true] at this
        exact absurd rfl (dig_not_sign 45 this.1)
  obtain ⟨k1, k2, k3⟩ := key
  refine ⟨?_, k3⟩
  unfold takeOk
  rw [k3, decide_eq_true h1, decide_eq_true h2]
  have e1 : (digsL l).isEmpty = false := List.isEmpty_eq_false_iff.2 k1
  rw [e1]
  simp only [Bool.not_false, Bool.true_and, Bool.and_true, Bool.not_eq_true']
  by_cases e : (digsL l).head? = some 48
  · rw [(k2 e).1, (k2 e).2]; simp
  · rw [show ((digsL l).head? == some 48) = false from by simpa using e]; rfl
theorem dec_len (u : Nat) : (Lib.decDigits u).length ≤ u / 9 + 1 := by
  induction u using Nat.strongRecOn with
  | _ u ih =>
    by_cases h : u < 10
    · rw [dec_small h]; simp
    · rw [dec_big h, List.length_append, List.length_singleton]
      have := ih (u / 10) (by omega)
      omega
end Go.Proofs.YtfibbjnkicjbpaaGreatDoor
/- Number, digits, Take, Read of package lines, each by its contract. -/
namespace Go.Proofs.YtfibbjnkicjbpaaGreatDoor
open Go.RowKit

/-- The library's table of powers, as the world holds it. -/
def Tabs (w : World) : Prop := Lib.TabIs Tryz.prog w "internal/strconv.uint64pow10" .u64 Lib.pow10Tab
theorem Tabs.below {w w' : World} (h : Tabs w) (hb : Below w.heap.size w w') : Tabs w' := by
  unfold Tabs Lib.TabIs World.var? at h ⊢
  rw [show Tryz.prog.globalNamed "internal/strconv.uint64pow10" = some 2 by kernel_rfl] at h ⊢
  simp only [Option.bind_some] at h ⊢
  have hg : 2 < w.heap.size := by
    cases hh : w.heap[2]? with
    | none => rw [hh] at h; cases h
    | some o => exact (Array.getElem?_eq_some_iff.1 hh).1
  rw [hb.block _ hg]; exact h

/-- Every byte before place k is a digit. -/
def DigTo (s : ByteArray) (k : Nat) : Prop := (s.data.toList.take k).all isDig = true
theorem digTo_step (s : ByteArray) (k : Nat) (h : k < s.size) (hn : DigTo s k) (hb : isDig s[k] = true) : DigTo s (k + 1) := by
  unfold DigTo at hn ⊢
  rw [take_snoc s k h, List.all_append, hn]
  simp [hb]
theorem digTo_split (s : ByteArray) (k : Nat) (hn : DigTo s k) (hend : ∀ h : k < s.size, isDig s[k] = false) :
    s.data.toList.takeWhile isDig = s.data.toList.take k ∧ s.data.toList.dropWhile isDig = s.data.toList.drop k := by
  have e := List.take_append_drop k s.data.toList
  have h0 : (s.data.toList.drop k).takeWhile isDig = [] ∧ (s.data.toList.drop k).dropWhile isDig = s.data.toList.drop k := by
    by_cases h : k < s.size
    · rw [drop_cons s k h, List.takeWhile_cons, List.dropWhile_cons, hend h]; simp
    · rw [List.drop_eq_nil_of_le (by simpa using Nat.le_of_not_lt h)]; simp
  have h1 : ∀ c ∈ s.data.toList.take k, isDig c = true := List.all_eq_true.1 hn
  constructor
  · conv => lhs; rw [← e]
    rw [List.takeWhile_append_of_pos h1, h0.1, List.append_nil]
  · conv => lhs; rw [← e]
    rw [List.dropWhile_append_of_pos h1, h0.2]
theorem dv_take (s : ByteArray) (k : Nat) (h : k < s.size) : dv (s.data.toList.take (k + 1)) = dv (s.data.toList.take k) * 10 + (s[k].toNat - 48) := by
  rw [take_snoc s k h, dv_snoc]

theorem step64 (x : Int) (a d : Nat) (hx : x = wrap64 (a : Int)) : wrap64 (wrap64 (x * 10) + (d : Int)) = wrap64 ((a * 10 + d : Nat) : Int) := by
  subst hx
  unfold wrap64
  omega
theorem notDig (s : ByteArray) (k : Nat) (h : k < s.size) (hb : isDig s[k] = false) : ((Utf8.decode s k).1 : Int) < 48 ∨ 57 < ((Utf8.decode s k).1 : Int) := by
  by_cases hl : s[k].toNat < 128
  · rw [dec_lo s k h hl]
    have : ¬ (48 ≤ s[k].toNat ∧ s[k].toNat ≤ 57) := fun h' => Bool.false_ne_true (hb.symm.trans ((isDig_iff _).2 h'))
    simp only; omega
  · have := dec_hi s k h (by omega); omega
theorem extract_drop (s : ByteArray) (k : Nat) : s.extract k s.size = ⟨(s.data.toList.drop k).toArray⟩ := by
  apply WideShapes.bytes_inj
  rw [Lib.extract_to_end]
theorem pair_ret {n m : Int} {a b : ByteArray} (h1 : n = m) (h2 : a = b) : Ending.returned (.tuple #[.int .i64 n, .string a]) = .returned (.tuple #[.int .i64 m, .string b]) := by rw [h1, h2]

def DigRel (s : ByteArray) (k : Nat) (n : Value) : Prop := ∃ x : Int, n = .int .i64 x ∧ x = wrap64 (dv (s.data.toList.take k)) ∧ DigTo s k

end Go.Proofs.YtfibbjnkicjbpaaGreatDoor
/- lines.Take and lines.Read, each by its contract. -/
namespace Go.Proofs.YtfibbjnkicjbpaaGreatDoor
open Go.RowKit

theorem prefix_neg (l : List UInt8) : Lib.hasPrefix l [45] = negB l := by
  cases l with
  | nil => rfl
  | cons a t => simp only [Lib.hasPrefix, negB, List.isPrefixOf, Bool.and_true, List.head?_cons, Option.some_beq_some]; exact BEq.comm
theorem trim_body (l : List UInt8) : Lib.trimPrefix l [45] = bodyL l := by
  unfold Lib.trimPrefix bodyL
  rw [prefix_neg]
  cases l with
  | nil => simp
  | cons a t => simp
theorem val_neg (l : List UInt8) (h : negB l = true) : wrap64 (-(wrap64 (dv (digsL l)))) = wrap64 (valL l) := by
  unfold valL; rw [h]; simp only [if_true]; unfold wrap64; omega
theorem val_pos (l : List UInt8) (h : negB l = false) : wrap64 (dv (digsL l)) = wrap64 (valL l) := by
  unfold valL; rw [h]; simp only [Bool.false_eq_true, if_false]
theorem wrap64_lo (n : Int) : -9223372036854775808 ≤ wrap64 n ∧ wrap64 n ≤ 9223372036854775807 := by unfold wrap64; omega
theorem wrap64_same (n : Int) (h0 : -9223372036854775808 ≤ n) (h1 : n ≤ 9223372036854775807) : wrap64 n = n := by unfold wrap64; omega
theorem ok_range (l : List UInt8) (h : takeOk l = true) : -9223372036854775808 ≤ valL l ∧ valL l ≤ 9223372036854775807 := by
  unfold takeOk at h
  simp only [Bool.and_eq_true, decide_eq_true_eq] at h
  exact ⟨h.1.2, h.2⟩
theorem ok_iff (l : List UInt8) : Lib.itoa (wrap64 (valL l)) = formL l ↔ takeOk l = true := by
  constructor
  · intro h
    exact (ok_of_form l _ (wrap64_lo _).1 (wrap64_lo _).2 h).1
  · intro h
    obtain ⟨h0, h1⟩ := ok_range l h
    rw [wrap64_same _ h0 h1]
    exact form_of_ok l h
theorem rest_len (l : List UInt8) : (restL l).length ≤ l.length := by
  have := congrArg List.length (form_rest l)
  rw [List.length_append] at this; omega
theorem form_take (l : List UInt8) : l.take (l.length - (restL l).length) = formL l := by
  have h := form_rest l
  have h2 := congrArg List.length h
  rw [List.length_append] at h2
  conv => lhs; rw [← h]
  rw [List.take_append_of_le_length (by rw [h]; omega)]
  rw [List.take_of_length_le (by rw [h]; omega)]
theorem three_ret {n m e f : Int} {a b : ByteArray} (h1 : n = m) (h2 : a = b) (h3 : e = f) : Ending.returned (.tuple #[.int .i64 n, .string a, .int .i64 e]) = .returned (.tuple #[.int .i64 m, .string b, .int .i64 f]) := by rw [h1, h2, h3]

theorem flipW {P : Program} {f : Nat} {a : Array Value} {w : World} {E : Ending → Prop} (h : Calls P f a w fun e w' => E e ∧ w' = w) : Calls P f a w fun e w' => E e ∧ w = w' := h.mono fun _ _ ⟨h1, h2⟩ => ⟨h1, h2.symm⟩
theorem take_bad {l F : List UInt8} {x : Int} (hx : x = wrap64 (valL l)) (hf : F = formL l) (h : (!F == Lib.itoa x) = true) : 0 = takeN l ∧ (⟨#[]⟩ : ByteArray) = ⟨(takeT l).toArray⟩ ∧ 4 = takeE l := by
  have hno : takeOk l = false := by
    cases hk : takeOk l with
    | false => rfl
    | true =>
      rw [hx, hf, (ok_iff l).2 hk] at h
      simp at h
  unfold takeN takeT takeE
  rw [hno]
  exact ⟨rfl, rfl, rfl⟩
theorem take_good {l F : List UInt8} {x : Int} {R : ByteArray} (hx : x = wrap64 (valL l)) (hf : F = formL l) (hR : R.data.toList = restL l) (h : (!F == Lib.itoa x) = false) : x = takeN l ∧ R = ⟨(takeT l).toArray⟩ ∧ 0 = takeE l := by
  have hok : takeOk l = true := by
    rw [← ok_iff, ← hx, ← hf]
    simp only [Bool.not_eq_false', beq_iff_eq] at h
    exact h.symm
  unfold takeN takeT takeE
  rw [hok]
  obtain ⟨h0, h1⟩ := ok_range l hok
  refine ⟨by rw [hx, wrap64_same _ h0 h1]; rfl, ?_, rfl⟩
  apply WideShapes.bytes_inj
  rw [hR]; rfl
theorem extract_upto (s : ByteArray) (k : Nat) : (s.extract 0 k).data.toList = s.data.toList.take k := by simp
theorem form_bytes (s R : ByteArray) (hR : R.data.toList = restL s.data.toList) : (s.extract 0 (s.size - R.size)).toList = formL s.data.toList := by
  rw [ByteArray.toList_eq, extract_upto, ← form_take, len_size, ← hR, len_size]
def NumS (w W : World) : Prop := Tabs W ∧ Below w.heap.size w W
theorem NumS.drew {w W : World} (h : NumS w W) : NumS w W.drew := ⟨h.1, h.2.drew⟩
theorem NumS.next {w W W' : World} (hb : Below W.heap.size W W') (h : NumS w W) : NumS w W' := ⟨h.1.below hb, h.2.trans (hb.mono h.2.size)⟩

end Go.Proofs.YtfibbjnkicjbpaaGreatDoor
/- Show and Shown of package lines, each by its contract. -/
namespace Go.Proofs.YtfibbjnkicjbpaaGreatDoor
open Go.RowKit

/-- The counted text. -/
def showL (l : List UInt8) : List UInt8 := Lib.itoa l.length ++ 58 :: l
def shownOk (l : List UInt8) : Bool := takeOk l && ((restL l).head? == some 58) && decide (0 ≤ valL l) && decide (valL l ≤ ((restL l).tail.length : Int))
def shownT (l : List UInt8) : List UInt8 := if shownOk l then (restL l).tail.take (valL l).toNat else []
def shownR (l : List UInt8) : List UInt8 := if shownOk l then (restL l).tail.drop (valL l).toNat else []
def shownE (l : List UInt8) : Int := if shownOk l then 0 else 4

theorem show_bytes (s : ByteArray) : (⟨(Lib.itoa (s.size : Int)).toArray⟩ ++ ⟨#[58]⟩ ++ s : ByteArray) = ⟨(showL s.data.toList).toArray⟩ := by
  apply WideShapes.bytes_inj
  rw [Joins.data_append, Joins.data_append]
  unfold showL
  rw [len_size]
  simp

theorem str3_ret {a b c d : ByteArray} {e f : Int} (h1 : a = b) (h2 : c = d) (h3 : e = f) : Ending.returned (.tuple #[.string a, .string c, .int .i64 e]) = .returned (.tuple #[.string b, .string d, .int .i64 f]) := by rw [h1, h2, h3]
theorem shown_no (l : List UInt8) (h : shownOk l = false) : (⟨#[]⟩ : ByteArray) = ⟨(shownT l).toArray⟩ ∧ (⟨#[]⟩ : ByteArray) = ⟨(shownR l).toArray⟩ ∧ 4 = shownE l := by
  unfold shownT shownR shownE; rw [h]; exact ⟨rfl, rfl, rfl⟩
theorem shown_bad1 (l : List UInt8) (h : takeOk l = false) : shownOk l = false := by unfold shownOk; rw [h]; rfl
theorem shown_bad2 (l : List UInt8) (h : Lib.hasPrefix (restL l) [58] = false) : shownOk l = false := by
  unfold shownOk
  rw [show ((restL l).head? == some 58) = false from ?_]
  · simp
  · cases hr : restL l with
    | nil => rfl
    | cons a t =>
      rw [hr] at h
      simp only [Lib.hasPrefix, List.isPrefixOf, Bool.and_true] at h
      simp only [List.head?_cons, Option.some_beq_some]
      rw [BEq.comm]; exact h
theorem shown_bad3 (l : List UInt8) (h : valL l < 0) : shownOk l = false := by
  unfold shownOk; rw [decide_eq_false (by omega : ¬ 0 ≤ valL l)]; simp
theorem shown_bad4 (l : List UInt8) (h : ((restL l).tail.length : Int) < valL l) : shownOk l = false := by
  unfold shownOk; rw [decide_eq_false (by omega : ¬ valL l ≤ ((restL l).tail.length : Int))]; simp
theorem shown_yes (l : List UInt8) (B : ByteArray) (n : Nat) (hB : B.data.toList = (restL l).tail) (h : takeOk l = true) (hp : Lib.hasPrefix (restL l) [58] = true) (hn : valL l = n) (h1 : n ≤ B.size) :
    B.extract 0 n = ⟨(shownT l).toArray⟩ ∧ B.extract n B.size = ⟨(shownR l).toArray⟩ ∧ 0 = shownE l := by
  have hok : shownOk l = true := by
    unfold shownOk
    rw [h, hn, ← hB, len_size]
    have : ((restL l).head? == some 58) = true := by
      cases hr : restL l with
      | nil => rw [hr] at hp; cases hp
      | cons a t =>
        rw [hr] at hp
        simp only [Lib.hasPrefix, List.isPrefixOf, Bool.and_true] at hp
        simp only [List.head?_cons, Option.some_beq_some]
        rw [BEq.comm]; exact hp
    rw [this, decide_eq_true (by omega : (0 : Int) ≤ (n : Int)), decide_eq_true (by omega : (n : Int) ≤ (B.size : Int))]; rfl
  unfold shownT shownR shownE
  rw [hok, hn, ← hB, Int.toNat_natCast]
  refine ⟨?_, ?_, rfl⟩
  · apply WideShapes.bytes_inj; rw [extract_upto]; rfl
  · apply WideShapes.bytes_inj; rw [Lib.extract_to_end]; rfl
theorem trim_colon (l : List UInt8) (h : Lib.hasPrefix l [58] = true) : Lib.trimPrefix l [58] = l.tail := by
  unfold Lib.trimPrefix; rw [h]
  cases l with
  | nil => rfl
  | cons a t => rfl
theorem take_is (l : List UInt8) (h : takeOk l = true) : takeN l = valL l ∧ takeT l = restL l ∧ takeE l = 0 := by
  unfold takeN takeT takeE; rw [h]; exact ⟨rfl, rfl, rfl⟩
theorem take_not (l : List UInt8) (h : takeOk l = false) : takeN l = 0 ∧ takeT l = [] ∧ takeE l = 4 := by
  unfold takeN takeT takeE; rw [h]; exact ⟨rfl, rfl, rfl⟩

end Go.Proofs.YtfibbjnkicjbpaaGreatDoor
/- Plain facts about counted texts, one behind the other: no program. -/
namespace Go.Proofs.YtfibbjnkicjbpaaGreatDoor
open Go

theorem dig_head (u : Nat) : ∃ c t, Lib.decDigits u = c :: t ∧ isDig c = true := by
  have h := dec_digs u
  cases hd : Lib.decDigits u with
  | nil => exact absurd hd (dec_ne u)
  | cons c t =>
    rw [hd] at h
    simp only [List.all_cons, Bool.and_eq_true] at h
    exact ⟨c, t, rfl, h.1⟩
/-- A counted text, with whatever behind it, is read as that text and what is behind it. -/
theorem shown_show (s t : List UInt8) (hs : s.length ≤ 9223372036854775807) :
    shownOk (showL s ++ t) = true ∧ shownT (showL s ++ t) = s ∧ shownR (showL s ++ t) = t ∧ shownE (showL s ++ t) = 0 := by
  have hl : showL s ++ t = Lib.decDigits s.length ++ 58 :: (s ++ t) := by
    unfold showL; rw [Lib.itoa_nonneg]; simp
  have hneg : negB (showL s ++ t) = false := by
    obtain ⟨c, r, hd, hc⟩ := dig_head s.length
    rw [hl, hd]
    unfold negB
    rw [List.cons_append, List.head?_cons]
    simpa using dig_not_sign c hc
  have hbody : bodyL (showL s ++ t) = Lib.decDigits s.length ++ 58 :: (s ++ t) := by unfold bodyL; rw [hneg, hl]; rfl
  have hall : ∀ c ∈ Lib.decDigits s.length, isDig c = true := List.all_eq_true.1 (dec_digs _)
  have h58 : isDig 58 = false := by decide
  have hdigs : digsL (showL s ++ t) = Lib.decDigits s.length := by
    unfold digsL; rw [hbody, List.takeWhile_append_of_pos hall, List.takeWhile_cons, h58]; simp
  have hrest : restL (showL s ++ t) = 58 :: (s ++ t) := by
    unfold restL; rw [hbody, List.dropWhile_append_of_pos hall, List.dropWhile_cons, h58]; simp
  have hval : valL (showL s ++ t) = s.length := by unfold valL; rw [hneg, hdigs, dv_dec]; rfl
  have hok : takeOk (showL s ++ t) = true := by
    refine (ok_of_form _ (s.length : Int) (by omega) (by omega) ?_).1
    unfold formL; rw [hneg, hdigs, Lib.itoa_nonneg]; rfl
  have hshown : shownOk (showL s ++ t) = true := by
    unfold shownOk
    rw [hok, hrest, hval]
    simp only [List.head?_cons, List.tail_cons, List.length_append]
    rw [decide_eq_true (by omega : (0 : Int) ≤ (s.length : Int)), decide_eq_true (by omega : (s.length : Int) ≤ ((s.length + t.length : Nat) : Int))]
    rfl
  refine ⟨hshown, ?_, ?_, ?_⟩
  · unfold shownT; rw [hshown, hrest, hval, Int.toNat_natCast]; simp
  · unfold shownR; rw [hshown, hrest, hval, Int.toNat_natCast]; simp
  · unfold shownE; rw [hshown]; rfl

/-- Counted texts, one behind the other. -/
def concatL (ls : List (List UInt8)) : List UInt8 := (ls.map showL).flatten
theorem concat_nil : concatL [] = [] := rfl
theorem concat_cons (l : List UInt8) (ls : List (List UInt8)) : concatL (l :: ls) = showL l ++ concatL ls := by simp [concatL]
theorem concat_snoc (ls : List (List UInt8)) (l : List UInt8) : concatL (ls ++ [l]) = concatL ls ++ showL l := by simp [concatL]
theorem show_ne (l : List UInt8) (t : List UInt8) : showL l ++ t ≠ [] := by
  unfold showL; simp
/-- From unlike lists of texts come unlike ones. -/
theorem concat_inj : ∀ (a b : List (List UInt8)), (∀ l ∈ a, l.length ≤ 9223372036854775807) → (∀ l ∈ b, l.length ≤ 9223372036854775807) → concatL a = concatL b → a = b
  | [], [], _, _, _ => rfl
  | [], y :: b, _, _, h => by rw [concat_cons] at h; exact absurd h.symm (show_ne y _)
  | x :: a, [], _, _, h => by rw [concat_cons] at h; exact absurd h (show_ne x _)
  | x :: a, y :: b, ha, hb, h => by
    rw [concat_cons, concat_cons] at h
    have hx := shown_show x (concatL a) (ha x (List.mem_cons_self ..))
    have hy := shown_show y (concatL b) (hb y (List.mem_cons_self ..))
    rw [h] at hx
    have e1 : x = y := hx.2.1.symm.trans hy.2.1
    have e2 : concatL a = concatL b := hx.2.2.1.symm.trans hy.2.2.1
    rw [e1, concat_inj a b (fun l hl => ha l (List.mem_cons_of_mem _ hl)) (fun l hl => hb l (List.mem_cons_of_mem _ hl)) e2]
/-- How long they get. -/
theorem show_len (l : List UInt8) : (showL l).length ≤ 2 * l.length + 2 := by
  unfold showL
  rw [Lib.itoa_nonneg, List.length_append, List.length_cons]
  have := dec_len l.length
  omega
theorem concat_len : ∀ (ls : List (List UInt8)), (concatL ls).length ≤ 2 * (ls.map (fun l => l.length + 1)).sum
  | [] => by simp [concatL]
  | l :: ls => by
    rw [concat_cons, List.length_append, List.map_cons, List.sum_cons]
    have h1 := show_len l
    have h2 := concat_len ls
    omega
theorem sum_take (ls : List (List UInt8)) (k : Nat) : ((ls.take k).map (fun l => l.length + 1)).sum ≤ (ls.map (fun l => l.length + 1)).sum := by
  conv => rhs; rw [← List.take_append_drop k ls]
  rw [List.map_append, List.sum_append]; omega
theorem sum_mem (ls : List (List UInt8)) (l : List UInt8) (h : l ∈ ls) : l.length + 1 ≤ (ls.map (fun l => l.length + 1)).sum := by
  induction ls with
  | nil => cases h
  | cons x ls ih =>
    rw [List.map_cons, List.sum_cons]
    cases h with
    | head => omega
    | tail _ h => have := ih h; omega
end Go.Proofs.YtfibbjnkicjbpaaGreatDoor
