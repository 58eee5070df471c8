/- Rows of texts and rows of lines that the call itself owns; lists of texts compared. -/
import Derived.Test.YtbhgeikijifbgaaLnRow
import Derived.SliceStrings
import Derived.ProofKit
import Derived.Deep.QuietTactic
namespace Go.Proofs.Ytbhgeikijifbgaa
open Go.RowKit

/-- The slice at p holds these texts. -/
def StrRow (w : World) (p : Option Addr) (ss : List ByteArray) : Prop := ∀ i (h : i < ss.length), ∃ b off, p = some ⟨b, off, none⟩ ∧ b < w.heap.size ∧ w.cell? ⟨b, off + i, none⟩ = some (.string ss[i])
theorem StrRow.at {w : World} {p : Option Addr} {ss : List ByteArray} (h : StrRow w p ss) (i : Nat) (hi : i < ss.length) : ∃ b off, p = some ⟨b, off, none⟩ ∧ ∀ W, Below w.heap.size w W → W.cell? ⟨b, off + i, none⟩ = some (.string ss[i]) := by
  obtain ⟨b, off, e, hlt, hc⟩ := h i hi
  exact ⟨b, off, e, fun W hb => (hb.cell (p := ⟨b, off + i, none⟩) hlt).trans hc⟩
theorem StrRow.later {w W : World} {p : Option Addr} {ss : List ByteArray} (h : StrRow w p ss) (hb : Below w.heap.size w W) : StrRow W p ss := fun i hi => by
  obtain ⟨b, off, e, hlt, hc⟩ := h i hi
  exact ⟨b, off, e, Nat.lt_of_lt_of_le hlt hb.size, (hb.cell (p := ⟨b, off + i, none⟩) hlt).trans hc⟩
theorem addr_add (b off i : Nat) : (⟨b, off, none⟩ : Addr).add i = ⟨b, off + i, none⟩ := by
  unfold Addr.add
  by_cases h : i = 0
  · subst h; rfl
  · simp [h]
theorem strInfo : (Try.prog.info? 9).map (fun i => (i.zero, i.size, i.bytes)) = some (some (.string ⟨#[]⟩), 1, 16) := by kernel_rfl
theorem lnInfo : (Try.prog.info? 25).map (fun i => (i.zero, i.size, i.bytes)) = some (some (.agg #[.int .u64 0, .int .i64 0, .int .i64 0, .string ⟨#[]⟩]), 4, 40) := by kernel_rfl
/-- A row of texts that the call itself owns, as a slice that holds them. -/
theorem row_owned {W : World} {B : Nat} {e : TypeId} {v : Value} {ks : List ByteArray} (h : W.ownsRow B e 1 v ks.length (ks.map Value.string)) : ∃ p c, v = .slice p ks.length c ∧ StrRow W p ks := by
  rcases h.2 with ⟨hv, h0⟩ | ⟨g, cap, cur, hv, _⟩
  · refine ⟨none, 0, by rw [hv, h0], fun i hi => ?_⟩
    omega
  · refine ⟨some ⟨g, 0, none⟩, cap, hv, fun i hi => ?_⟩
    subst hv
    have hc := h.cellAt i (by omega)
    rw [List.getElem?_map, List.getElem?_eq_getElem hi] at hc
    have hlt := World.block_lt_of_cell? W _ (show W.cell? ⟨g, i, none⟩ = some (.string ks[i]) from hc)
    exact ⟨g, 0, rfl, hlt, by rw [Nat.zero_add]; exact hc⟩
theorem row_at {W : World} {B : Nat} {e : TypeId} {p : Option Addr} {n c : Nat} {ks : List ByteArray} (hk : ks.length = n) (h : W.ownsRow B e 1 (.slice p n c) n (ks.map Value.string)) : StrRow W p ks := by
  subst hk
  obtain ⟨p', c', e', hr⟩ := row_owned h
  injection e' with e1 e2 e3
  rw [e1]; exact hr
/-- Its own row, untouched by what only adds. -/
theorem owns_later {w W : World} {B z : Nat} {e : TypeId} {v : Value} {n : Nat} {cs : List Value} (h : w.ownsRow B e z v n cs) (hb : Below w.heap.size w W) : W.ownsRow B e z v n cs := by
  refine ⟨h.1, ?_⟩
  rcases h.2 with h' | ⟨g, cap, cur, hv, hB, hg, rest⟩
  · exact .inl h'
  · have hlt : g < w.heap.size := (Array.getElem?_eq_some_iff.1 hg).1
    exact .inr ⟨g, cap, cur, hv, hB, by rw [hb.block g hlt]; exact hg, rest⟩

/-- The cells of a list of lines. -/
def flat (xs : List Ln) : List Value := xs.flatMap Ln.vals
theorem flat_cons (x : Ln) (xs : List Ln) : flat (x :: xs) = x.vals ++ flat xs := by unfold flat; rw [List.flatMap_cons]
theorem flat_len : ∀ xs : List Ln, (flat xs).length = xs.length * 4
  | [] => rfl
  | x :: xs => by
    rw [flat_cons, List.length_append, flat_len xs, List.length_cons]
    simp [Ln.vals]; omega
theorem flat_at : ∀ (xs : List Ln) (i j : Nat) (h : i < xs.length), j < 4 → (flat xs)[i * 4 + j]? = (xs[i].vals)[j]?
  | x :: xs, 0, j, _, hj => by
    rw [flat_cons, Nat.zero_mul, Nat.zero_add, List.getElem?_append_left (by simp [Ln.vals]; exact hj)]; rfl
  | x :: xs, i + 1, j, h, hj => by
    have ih := flat_at xs i j (Nat.lt_of_succ_lt_succ h) hj
    rw [flat_cons, List.getElem?_append_right (by simp [Ln.vals]; omega)]
    have e : (i + 1) * 4 + j - (x.vals).length = i * 4 + j := by simp [Ln.vals]; omega
    rw [e, ih]; rfl
theorem ln_owned {W : World} {B : Nat} {e : TypeId} {v : Value} {n : Nat} {xs : List Ln} (hn : xs.length = n) (h : W.ownsRow B e 4 v n (flat xs)) : ∃ p c, v = .slice p n c ∧ LnRow W p xs := by
  subst hn
  rcases h.2 with ⟨hv, h0⟩ | ⟨g, cap, cur, hv, _⟩
  · refine ⟨none, 0, by rw [hv, h0], fun i hi => ?_⟩
    omega
  · refine ⟨some ⟨g, 0, none⟩, cap, hv, fun i hi => ?_⟩
    subst hv
    have h0 := (h.cellAt (i * 4 + 0) (by omega)).trans (flat_at xs i 0 hi (by omega))
    have h1 := (h.cellAt (i * 4 + 1) (by omega)).trans (flat_at xs i 1 hi (by omega))
    have h2 := (h.cellAt (i * 4 + 2) (by omega)).trans (flat_at xs i 2 hi (by omega))
    have h3 := (h.cellAt (i * 4 + 3) (by omega)).trans (flat_at xs i 3 hi (by omega))
    have hlt := World.block_lt_of_cell? W _ (show W.cell? ⟨g, i * 4 + 0, none⟩ = some (.int .u64 xs[i].u) from h0)
    refine ⟨g, 0, rfl, hlt, ?_⟩
    rw [Nat.zero_add]
    exact ⟨h0, h1, h2, h3⟩

set_option maxHeartbeats 1000000 in
theorem sameTexts_any (w : World) (p q : Option Addr) (n m c d : Nat) (xs : List ByteArray) (hp : StrRow w p xs) (hq : StrRow w q xs) (hn : xs.length = n) (hm : xs.length = m) (hl : xs.length ≤ 3518437208883) :
    Calls Try.prog 12 #[.slice p n c, .slice q m d] w fun e w' => e = .returned (.bool true) ∧ Below w.heap.size w w' := by
  obtain rfl : n = m := hn.symm.trans hm
  have HN := Lib.hid hn
  have hn1 : n ≤ 3518437208883 := by omega
  clear hn hm hl
  go_enter Try.func12, Try.ntmps12
  go_wp2_with fail
  go_loopw [5] (fun i wr => ∃ k : Nat, k ≤ n ∧ i = .int .i64 k ∧ Below w.heap.size w wr) (fun i _ => n - (intOf i).toNat)
  case atStart => exact ⟨0, by omega, rfl, Below.refl _ _⟩
  case round =>
    obtain ⟨k, hk, rfl, hbr⟩ := hrel
    by_cases hlt : k < n
    · have hlt' : k < xs.length := by rw [HN.out]; exact hlt
      obtain ⟨b1, o1, rfl, h1c⟩ := hp.at k hlt'
      obtain ⟨b2, o2, rfl, h2c⟩ := hq.at k hlt'
      have g1 := h1c wr hbr
      have g2 := h2c wr hbr
      generalize xs[k] = x at *
      have hk0 : (0 : Int) ≤ (k : Int) := Int.natCast_nonneg _
      have hkm : (k : Int) < (n : Int) := by omega
      clear h1c h2c
      go_wp2_with fail
      go_quiet (fail)
      go_wp2
      go_roundw
      case rel => exact ⟨k + 1, by omega, by go_num, below_drewN' hbr _⟩
      case measure => simp [intOf]; omega
    · obtain rfl : n = k := by omega
      go_wp2_with fail
      go_ret
      exact ⟨rfl, hbr⟩
end Go.Proofs.Ytbhgeikijifbgaa
