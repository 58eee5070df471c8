/- The document's Of, by its contract; rows of numbers; lists of numbers compared. -/
import Derived.Test.YtbcfmckhgjcakaaDoorLbBoth
namespace Go.Proofs.YtbcfmckhgjcakaaDoor
open Go.RowKit

/-- The slice at p holds these numbers. -/
def NumRow (k : IntKind) (w : World) (p : Option Addr) (xs : List Int) : Prop := ∀ i (h : i < xs.length), ∃ b off, p = some ⟨b, off, none⟩ ∧ b < w.heap.size ∧ w.cell? ⟨b, off + i, none⟩ = some (.int k xs[i])
theorem NumRow.at {kd : IntKind} {w : World} {p : Option Addr} {xs : List Int} (h : NumRow kd w p xs) (i : Nat) (hi : i < xs.length) : ∃ b off, p = some ⟨b, off, none⟩ ∧ b < w.heap.size ∧ ∀ W, Below w.heap.size w W → W.cell? ⟨b, off + i, none⟩ = some (.int kd xs[i]) := by
  obtain ⟨b, off, e, hlt, hc⟩ := h i hi
  exact ⟨b, off, e, hlt, fun W hb => (hb.cell (p := ⟨b, off + i, none⟩) hlt).trans hc⟩
theorem NumRow.later {kd : IntKind} {w W : World} {p : Option Addr} {xs : List Int} (h : NumRow kd w p xs) (hb : Below w.heap.size w W) : NumRow kd W p xs := fun i hi => by
  obtain ⟨b, off, e, hlt, hc⟩ := h i hi
  exact ⟨b, off, e, Nat.lt_of_lt_of_le hlt hb.size, (hb.cell (p := ⟨b, off + i, none⟩) hlt).trans hc⟩

def ofOk (xs : List Int) : Bool := xs.all fun x => decide (0 ≤ x) && decide (x ≤ 63)
def ofF (xs : List Int) (i : Nat) : Bool := xs.contains (i : Int)
def ofW (xs : List Int) : Nat := if ofOk xs then wordOf (ofF xs) else 0
def ofE (xs : List Int) : Int := if ofOk xs then 0 else 1
theorem of_bad (xs : List Int) (k : Nat) (h : k < xs.length) (hx : xs[k] < 0 ∨ 63 < xs[k]) : ofW xs = 0 ∧ ofE xs = 1 := by
  have e : ofOk xs = false := by
    unfold ofOk
    rw [List.all_eq_false]
    refine ⟨xs[k], List.getElem_mem h, ?_⟩
    simp; omega
  unfold ofW ofE; rw [e]; exact ⟨rfl, rfl⟩
theorem of_good (xs : List Int) (h : ∀ (k : Nat) (hk : k < xs.length), 0 ≤ xs[k] ∧ xs[k] ≤ 63) : ofW xs = wordOf (ofF xs) ∧ ofE xs = 0 := by
  have e : ofOk xs = true := by
    unfold ofOk
    rw [List.all_eq_true]
    intro x hx
    obtain ⟨k, hk, rfl⟩ := List.getElem_of_mem hx
    have := h k hk
    simp [this.1, this.2]
  unfold ofW ofE; rw [e]; exact ⟨rfl, rfl⟩
theorem ofF_take (xs : List Int) (k m i : Nat) (h : k < xs.length) (hm : xs[k] = (m : Int)) : ofF (xs.take (k + 1)) i = (ofF (xs.take k) i || decide (i = m)) := by
  unfold ofF
  rw [List.take_succ_eq_append_getElem h, List.contains_append, hm]
  congr 1
  rw [Bool.eq_iff_iff]; simp; omega
theorem zeros_at (i : Nat) (h : i < 64) : (Array.replicate 64 (Value.bool false))[i]? = some (.bool false) := by
  rw [Array.getElem?_replicate, if_pos h]
theorem ofF_all (xs : List Int) (n : Nat) (h : xs.length = n) : ofF (xs.take n) = ofF xs := by rw [List.take_of_length_le (by omega)]

set_option maxRecDepth 100000 in
set_option maxHeartbeats 4000000 in
theorem refOf_any (w : World) (p : Option Addr) (n c : Nat) (xs : List Int) (hp : NumRow .i64 w p xs) (hn : xs.length = n) (hl : n ≤ 17592186044416) :
    Calls Tryd.prog 36 #[.slice p n c] w fun e w' => e = .returned (.tuple #[.int .u64 (ofW xs), .int .i64 (ofE xs)]) ∧ Below w.heap.size w w' := by
  have cW := Lib.hid fun cs W h => refWord_any cs (ofF xs) W h
  have hbad := Lib.hid (of_bad xs)
  have hgood := Lib.hid (of_good xs)
  have hall := Lib.hid (ofF_all xs n hn)
  have HN := Lib.hid hn
  generalize ofW xs = r at *
  generalize ofE xs = f at *
  clear hn
  go_enter Tryd.func36, Tryd.ntmps36
  go_wp2_with fail
  go_loopg [5] n (fun g i wr => ∃ (k : Nat) (cur : Array Value), k + g = n ∧ i = .int .i64 k ∧ w.alloc (.cells cur 91) = wr ∧ cur.size = 64 ∧ Hid (∀ i, i < 64 → cur[i]? = some (.bool (ofF (xs.take k) i))) ∧ Hid (∀ (j : Nat) (hj : j < xs.length), j < k → 0 ≤ xs[j] ∧ xs[j] ≤ 63))
  case atStart => exact ⟨0, _, by omega, rfl, rfl, rfl, fun i h => zeros_at i h, fun j _ h => absurd h (Nat.not_lt_zero _)⟩
  case round =>
    obtain ⟨k, cur, hk, rfl, rfl, hcur, hd, hr⟩ := hrel
    by_cases h0 : k < n
    · have hx : k < xs.length := by rw [HN.out]; exact h0
      obtain ⟨b1, o1, rfl, l1, h1c⟩ := hp.at k hx
      have g1 := h1c (w.alloc (.cells cur 91)) ((Below.refl _ _).alloc (Nat.le_refl _) _)
      have hb' := Lib.hid (hbad.out k hx)
      have htk := Lib.hid (fun m i => ofF_take xs k m i hx)
      have hrk : Hid (0 ≤ xs[k] → xs[k] ≤ 63 → ∀ (j : Nat) (hj : j < xs.length), j < k + 1 → 0 ≤ xs[j] ∧ xs[j] ≤ 63) := by
        intro q1 q2 j hj hjk
        by_cases e : j = k
        · subst e; exact ⟨q1, q2⟩
        · exact hr.out j hj (by omega)
      have hkk : (0 : Int) ≤ (k : Int) := Int.natCast_nonneg _
      have hkn : (k : Int) < (n : Int) := by omega
      clear h1c cW hbad hgood hall hr
      generalize xs[k] = x at *
      by_cases hneg : x < 0
      · have e := hb'.out (.inl hneg)
        obtain ⟨rfl, rfl⟩ := e
        clear hb' htk hrk hd
        go_wp2_with fail
        go_ret2
        exact ⟨rfl, (Below.refl _ _).alloc (Nat.le_refl _) _⟩
      · by_cases hbig : 63 < x
        · have e := hb'.out (.inr hbig)
          obtain ⟨rfl, rfl⟩ := e
          clear hb' htk hrk hd
          go_wp2_with fail
          go_ret2
          exact ⟨rfl, (Below.refl _ _).alloc (Nat.le_refl _) _⟩
        · obtain ⟨m, rfl⟩ : ∃ m : Nat, x = m := ⟨x.toNat, by omega⟩
          have hm : m < 64 := by omega
          obtain ⟨o, ho⟩ : ∃ o, cur[m]? = some o := ⟨_, Array.getElem?_eq_getElem (by omega)⟩
          have hcell : (w.alloc (.cells cur 91)).cell? ⟨w.heap.size, m, none⟩ = some o := by simp [ho]
          have hnew : Hid (∀ i, i < 64 → (cur.setIfInBounds m (.bool true))[i]? = some (.bool (ofF (xs.take (k + 1)) i))) := by
            intro i hi
            rw [htk.out m i rfl]
            by_cases e : i = m
            · subst e; rw [Array.getElem?_setIfInBounds_self_of_lt (by omega)]; simp
            · rw [Array.getElem?_setIfInBounds_ne (fun e' => e e'.symm), hd.out i hi]; simp [e]
          have hrn := Lib.hid (hrk.out (by omega) (by omega))
          have hmm : (0 : Int) ≤ (m : Int) := Int.natCast_nonneg _
          clear hb' htk hrk hd ho
          go_wp2_with fail
          go_roundg (gk - 1)
          case rel => exact ⟨k + 1, _, by omega, by go_num, rfl, by simpa using hcur, hnew, hrn⟩
          case measure => omega
    · obtain rfl : k = n := by omega
      have e := hgood.out fun j hj => hr.out j hj (by have := HN.out; omega)
      obtain ⟨rfl, rfl⟩ := e
      have hbits : Bits cur (ofF xs) := ⟨hcur, by rw [← hall.out]; exact hd.out⟩
      have cW2 := cW.out cur (w.alloc (.cells cur 91)) hbits
      have hi1 := arrInfo
      rw [← hcur] at hi1
      clear cW hbad hgood hall hr hd hbits
      go_wp2_with (refine wpList_load_row rfl _ _ rfl w.heap.size rfl _ cur (0, 0) _ (heap_alloc_new _ _) Tryd.underlying91 rfl hi1 ?_)
      refine cW2.mono ?_
      rintro e w4 ⟨rfl, hb4⟩
      have hb5 := ((Below.refl _ w).alloc (Nat.le_refl _) (.cells cur 91)).trans (hb4.mono (by simp))
      clear cW2 hb4
      go_wp2_with fail
      go_ret2
      exact ⟨rfl, hb5⟩
end Go.Proofs.YtbcfmckhgjcakaaDoor
