/- Texts of the proof, merged: LbMyOf, LbParseP. -/
import Derived.Test.YtfkkodcppaakjaaGreatDoorRd4
import Derived.Test.YtfkkodcppaakjaaGreatDoorRd6
/- label's own Of, by its contract. -/
namespace Go.Proofs.YtfkkodcppaakjaaGreatDoor
open Go.RowKit

theorem ofF_none : ofF [] = fun _ => false := by funext i; simp [ofF]
theorem wordOf_none : wordOf (ofF []) = 0 := word_ext (wordOf_lt _) (by decide) fun i hi => by
  rw [wordOf_bit _ i hi, ofF_none, Nat.zero_testBit]
theorem wordOf_or (xs : List Int) (k m : Nat) (h : k < xs.length) (hm : xs[k] = (m : Int)) (hm64 : m < 64) : wordOf (ofF (xs.take k)) ||| 2 ^ m = wordOf (ofF (xs.take (k + 1))) :=
  word_ext (or_lt _ _ (wordOf_lt _) (Nat.pow_lt_pow_right (by decide) hm64)) (wordOf_lt _) fun i hi => by
    rw [Nat.testBit_or, wordOf_bit _ i hi, wordOf_bit _ i hi, ofF_take xs k m i h hm, Nat.testBit_two_pow]
    congr 1
    rw [Bool.eq_iff_iff]; simp; omega

theorem ofW_lt (xs : List Int) : ofW xs < 18446744073709551616 := by
  unfold ofW; split
  · exact wordOf_lt _
  · decide

theorem wrap_pow (m : Nat) (h : 2 ^ m < 18446744073709551616) : IntKind.u64.wrap ((2 : Int) ^ m) = ((2 ^ m : Nat) : Int) := by
  have e : ((2 : Int) ^ m) = ((2 ^ m : Nat) : Int) := (Int.natCast_pow 2 m).symm
  rw [e, IntKind.wrap_u64]
  generalize 2 ^ m = p at *
  omega

set_option maxRecDepth 100000 in
set_option maxHeartbeats 4000000 in
theorem of_any (w : World) (p : Option Addr) (n c : Nat) (xs : List Int) (hp : NumRow .i64 w p xs) (hn : xs.length = n) (hl : n ≤ 17592186044416) :
    Calls Tryz.prog 128 #[.slice p n c] w fun e w' => e = .returned (.tuple #[.int .u64 (ofW xs), .int .i64 (ofE xs)]) ∧ w = w' := by
  have hbad := Lib.hid (of_bad xs)
  have hgood := Lib.hid (of_good xs)
  have hall := Lib.hid (ofF_all xs n hn)
  have HN := Lib.hid hn
  have H0 := Lib.hid wordOf_none
  generalize ofW xs = r at *
  generalize ofE xs = f at *
  clear hn
  go_enter Tryz.func128, Tryz.ntmps128
  go_wp2_with fail
  go_loopg [4, 9] n (fun g a i wr => ∃ (k : Nat), k + g = n ∧ i = .int .i64 k ∧ w = wr ∧ a = .int .u64 (wordOf (ofF (xs.take k)) : Nat) ∧ Hid (∀ (j : Nat) (hj : j < xs.length), j < k → 0 ≤ xs[j] ∧ xs[j] ≤ 63))
  case atStart => exact ⟨0, by omega, rfl, rfl, by rw [List.take_zero, H0.out]; rfl, fun j _ h => absurd h (Nat.not_lt_zero _)⟩
  case round =>
    obtain ⟨k, hk, rfl, rfl, rfl, hr⟩ := hrel
    by_cases h0 : k < n
    · have hx : k < xs.length := by rw [HN.out]; exact h0
      obtain ⟨b1, o1, rfl, l1, h1c⟩ := hp.at k hx
      have g1 := h1c w (Below.refl _ _)
      have hb' := Lib.hid (hbad.out k hx)
      have htk := Lib.hid (fun m => wordOf_or xs k m hx)
      have hrk : Hid (0 ≤ xs[k] → xs[k] ≤ 63 → ∀ (j : Nat) (hj : j < xs.length), j < k + 1 → 0 ≤ xs[j] ∧ xs[j] ≤ 63) := by
        intro q1 q2 j hj hjk
        by_cases e : j = k
        · subst e; exact ⟨q1, q2⟩
        · exact hr.out j hj (by omega)
      have hkk : (0 : Int) ≤ (k : Int) := Int.natCast_nonneg _
      have hkn : (k : Int) < (n : Int) := by omega
      have hwl := wordOf_lt (ofF (xs.take k))
      clear h1c hbad hgood hall hr H0
      generalize xs[k] = x at *
      by_cases hneg : x < 0
      · have e := hb'.out (.inl hneg)
        obtain ⟨rfl, rfl⟩ := e
        clear hb' htk hrk
        go_wp2_with fail
        go_ret2
        exact ⟨rfl, rfl⟩
      · by_cases hbig : 63 < x
        · have e := hb'.out (.inr hbig)
          obtain ⟨rfl, rfl⟩ := e
          clear hb' htk hrk
          go_wp2_with fail
          go_ret2
          exact ⟨rfl, rfl⟩
        · obtain ⟨m, rfl⟩ : ∃ m : Nat, x = m := ⟨x.toNat, by omega⟩
          have hm : m < 64 := by omega
          have hpw : 2 ^ m < 18446744073709551616 := (Nat.pow_lt_pow_right (by decide : 1 < 2) hm : 2 ^ m < 2 ^ 64)
          have ho := u64_or_nat (wordOf (ofF (xs.take k))) (2 ^ m) hwl hpw
          rw [htk.out m rfl hm] at ho
          have hrn := Lib.hid (hrk.out (by omega) (by omega))
          have hmm : (0 : Int) ≤ (m : Int) := Int.natCast_nonneg _
          generalize wordOf (ofF (xs.take k)) = a at *
          obtain ⟨a', ha'⟩ : ∃ a', wordOf (ofF (xs.take (k + 1))) = a' := ⟨_, rfl⟩
          rw [ha'] at ho
          have HA := Lib.hid ha'
          clear ha' hb' htk hrk
          go_wp2_with fail
          go_roundg (gk - 1)
          case rel =>
            refine ⟨k + 1, by omega, by go_num, rfl, ?_, hrn⟩
            rw [HA.out, ← ho, wrap_pow m hpw]
          case measure => omega
    · obtain rfl : k = n := by omega
      have e := hgood.out fun j hj => hr.out j hj (by have := HN.out; omega)
      obtain ⟨rfl, rfl⟩ := e
      have e2 := hall.out
      clear hbad hgood hall hr H0
      go_wp2_with fail
      go_ret2
      rw [e2]
      exact ⟨rfl, rfl⟩
end Go.Proofs.YtfkkodcppaakjaaGreatDoor
/- What a text is read as, plainly. -/
namespace Go.Proofs.YtfkkodcppaakjaaGreatDoor
open Go

/-- The compartment that a piece names. -/
def pieceV (p : List UInt8) : Option Nat :=
  match Lib.atoiAll p with
  | .ok v => if 0 ≤ v ∧ v ≤ 63 then some v.toNat else none
  | _ => none
theorem piece_ok {p : List UInt8} {v : Int} (h : Lib.atoiAll p = .ok v) (h0 : 0 ≤ v) (h1 : v ≤ 63) : pieceV p = some v.toNat := by
  unfold pieceV; rw [h]; simp [h0, h1]
theorem piece_out {p : List UInt8} {v : Int} (h : Lib.atoiAll p = .ok v) (h0 : v < 0 ∨ 63 < v) : pieceV p = none := by
  unfold pieceV; rw [h]
  have : ¬ (0 ≤ v ∧ v ≤ 63) := by omega
  simp only [if_neg this]
theorem piece_no {p : List UInt8} (h : ∀ v, Lib.atoiAll p ≠ .ok v) : pieceV p = none := by
  unfold pieceV
  cases e : Lib.atoiAll p with
  | ok v => exact absurd e (h v)
  | _ => rfl
theorem piece_digits : ∀ i : Fin 64, pieceV (if i.val < 10 then [UInt8.ofNat (48 + i.val)] else [UInt8.ofNat (48 + i.val / 10), UInt8.ofNat (48 + i.val % 10)]) = some i.val := by decide +kernel
theorem piece_dec (i : Nat) (h : i < 64) : pieceV (Lib.decDigits i) = some i := by
  rw [dec_lt i (by omega)]; exact piece_digits ⟨i, h⟩
/-- What the pieces name together. -/
def accP (ps : List (List UInt8)) : Nat := wordOf (ofF (ps.map fun p => (((pieceV p).getD 0 : Nat) : Int)))
theorem acc_nil : accP [] = 0 := wordOf_none
theorem acc_lt (ps : List (List UInt8)) : accP ps < 18446744073709551616 := wordOf_lt _
theorem acc_snoc (ps : List (List UInt8)) (p : List UInt8) (c : Nat) (h : pieceV p = some c) (hc : c < 64) : accP (ps ++ [p]) = accP ps ||| 2 ^ c := by
  unfold accP
  rw [List.map_append, List.map_singleton, h]
  refine word_ext (wordOf_lt _) (or_lt _ _ (wordOf_lt _) (Nat.pow_lt_pow_right (by decide) hc)) fun i hi => ?_
  rw [Nat.testBit_or, wordOf_bit _ i hi, wordOf_bit _ i hi, Nat.testBit_two_pow]
  unfold ofF
  rw [List.contains_append]
  congr 1
  rw [Bool.eq_iff_iff]; simp; omega
theorem mem_list (b i : Nat) : i ∈ listTo b 64 ↔ i < 64 ∧ b.testBit i = true := by
  unfold listTo
  rw [List.mem_filter, List.mem_range]
theorem acc_text (b : Nat) (h0 : b ≠ 0) (hb : b < 18446744073709551616) : accP (spl (textN b)) = b := by
  rw [spl_text b h0 hb]
  unfold accP
  have e : ((listTo b 64).map Lib.decDigits).map (fun p => (((pieceV p).getD 0 : Nat) : Int)) = (listTo b 64).map fun i : Nat => (i : Int) := by
    rw [List.map_map]
    apply List.map_congr_left
    intro i hi
    show (((pieceV (Lib.decDigits i)).getD 0 : Nat) : Int) = _
    rw [piece_dec i (list_lt b 64 i hi)]; rfl
  rw [e]
  refine word_ext (wordOf_lt _) hb fun i hi => ?_
  rw [wordOf_bit _ i hi]
  unfold ofF
  rw [Bool.eq_iff_iff, List.contains_iff_mem, List.mem_map]
  constructor
  · rintro ⟨j, hj, e⟩
    have : j = i := by omega
    rw [← this]; exact ((mem_list b j).1 hj).2
  · intro h
    exact ⟨i, (mem_list b i).2 ⟨hi, h⟩, rfl⟩
/-- What a text is read as. -/
def ReadAs (s : List UInt8) (a : Nat) (e : Int) : Prop := (e = 0 ∧ a < 18446744073709551616 ∧ textN a = s) ∨ (e = 4 ∧ a = 0 ∧ ∀ b, b < 18446744073709551616 → textN b ≠ s)
theorem text_inj (a b : Nat) (ha : a < 18446744073709551616) (hb : b < 18446744073709551616) (h : textN a = textN b) : a = b := by
  have key : ∀ c, c < 18446744073709551616 → c ≠ 0 → textN c ≠ [45] := by
    intro c hc h0 e
    have h1 := acc_text c h0 hc
    rw [e] at h1
    have h2 : accP (spl [45]) = 1 := by decide +kernel
    rw [h2] at h1
    subst h1
    have h3 : textN 1 = [48] := by
      unfold textN
      rw [if_neg (by decide), show listTo 1 64 = [0] by decide +kernel, List.map_cons, List.map_nil, Lib.join_one, dec_lt 0 (by decide)]
      decide +kernel
    rw [h3] at e
    exact absurd e (by decide)
  by_cases h0 : a = 0
  · by_cases h1 : b = 0
    · rw [h0, h1]
    · rw [h0] at h; exact absurd h.symm (key b hb h1)
  · by_cases h1 : b = 0
    · rw [h1] at h; exact absurd h (key a ha h0)
    · rw [← acc_text a h0 ha, h, acc_text b h1 hb]
theorem readAs_one {s : List UInt8} {a b : Nat} {e f : Int} (h : ReadAs s a e) (k : ReadAs s b f) : a = b ∧ e = f := by
  rcases h with ⟨rfl, ha, h1⟩ | ⟨rfl, rfl, h1⟩ <;> rcases k with ⟨rfl, hb, k1⟩ | ⟨rfl, rfl, k1⟩
  · exact ⟨text_inj a b ha hb (h1.trans k1.symm), rfl⟩
  · exact absurd h1 (k1 a ha)
  · exact absurd k1 (h1 b hb)
  · exact ⟨rfl, rfl⟩
/-- A piece that names none: the text is no label's. -/
theorem read_bad {s : List UInt8} (hs : s ≠ [45]) {ps : List (List UInt8)} (hp : ps <+: spl s) {p : List UInt8} (hm : p ∈ ps) (hv : pieceV p = none) : ReadAs s 0 4 := by
  refine .inr ⟨rfl, rfl, fun b hb e => ?_⟩
  by_cases h0 : b = 0
  · subst h0; exact hs e.symm
  · have h1 := spl_text b h0 hb
    rw [e] at h1
    have h2 := hp.subset hm
    rw [h1] at h2
    obtain ⟨i, hi, rfl⟩ := List.mem_map.1 h2
    rw [piece_dec i (list_lt b 64 i hi)] at hv
    cases hv
/-- All pieces name one: it is the label's text, or no label's. -/
theorem read_good_lb {s : List UInt8} (hs : s ≠ [45]) : ReadAs s (accP (spl s)) 0 ∧ textN (accP (spl s)) = s ∨ ReadAs s 0 4 ∧ textN (accP (spl s)) ≠ s := by
  by_cases h : textN (accP (spl s)) = s
  · exact .inl ⟨.inl ⟨rfl, acc_lt _, h⟩, h⟩
  · refine .inr ⟨.inr ⟨rfl, rfl, fun b hb e => ?_⟩, h⟩
    by_cases h0 : b = 0
    · subst h0; exact hs e.symm
    · have h1 := acc_text b h0 hb
      rw [e] at h1
      rw [h1] at h
      exact h e
theorem read_dash : ReadAs [45] 0 0 := .inl ⟨rfl, by decide, rfl⟩
end Go.Proofs.YtfkkodcppaakjaaGreatDoor
