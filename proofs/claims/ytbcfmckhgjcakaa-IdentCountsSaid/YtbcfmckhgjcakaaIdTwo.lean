/- The program's counters and the document's, side by side: contracts that carry both. -/
import Derived.Test.YtbcfmckhgjcakaaIdRefNew
import Derived.Test.YtbcfmckhgjcakaaIdLines
namespace Go.Proofs.Ytbcfmckhgjcakaa
open Go Go.RowKit Go.Maps

/-- The program's at p (map b), the document's at q; nothing shared; all from block B on. -/
structure Two (B : Nat) (W : World) (p b m : Nat) (f : Nat → Int) (q len : Nat) (g : Nat → Int) : Prop where
  ids : IdsAt W p b m f
  hp : B ≤ p
  hb : B ≤ b
  hB : B ≤ W.heap.size
  ref : ∃ v1 v2 ls, RefAt W q B v1 v2 ls ∧ (∀ a, lookF ls a = g a) ∧ ls.length ≤ len ∧ ∀ k, ownS q v1 v2 k → k ≠ p ∧ k ≠ b
theorem Two.later {B : Nat} {W W' : World} {p b m : Nat} {f : Nat → Int} {q len : Nat} {g : Nat → Int} (h : Two B W p b m f q len g) (hw : Below W.heap.size W W') : Two B W' p b m f q len g := by
  obtain ⟨v1, v2, ls, h1, h2, h3, h4⟩ := h.ref
  exact ⟨h.ids.later hw, h.hp, h.hb, Nat.le_trans h.hB hw.size, v1, v2, ls, h1.later hw, h2, h3, h4⟩
theorem Two.le {B : Nat} {W : World} {p b m : Nat} {f : Nat → Int} {q len len' : Nat} {g : Nat → Int} (h : Two B W p b m f q len g) (hl : len ≤ len') : Two B W p b m f q len' g := by
  obtain ⟨v1, v2, ls, h1, h2, h3, h4⟩ := h.ref
  exact ⟨h.ids, h.hp, h.hb, h.hB, v1, v2, ls, h1, h2, Nat.le_trans h3 hl, h4⟩
theorem Two.leaves {B : Nat} {W W' : World} {p b m : Nat} {f : Nat → Int} {q len : Nat} {g' : Nat → Int} (hi : IdsAt W p b m f) (hp : B ≤ p) (hb : B ≤ b) (hB : B ≤ W.heap.size) {v1 v2 : Value} {ls : List (Nat × Int)} (hr : RefAt W q B v1 v2 ls) (hl : ls.length ≤ len) (hd : ∀ k, ownS q v1 v2 k → k ≠ p ∧ k ≠ b)
    (hL : Leaves W q B v1 v2 ls g' W') : Two B W' p b m f q (len + 1) g' ∧ Below B W W' := by
  obtain ⟨v1', v2', ls', h1, hk, ho, hg, hle⟩ := hL
  have hnp : ¬ ownS q v1 v2 p := fun e => (hd p e).1 rfl
  have hnb : ¬ ownS q v1 v2 b := fun e => (hd b e).2 rfl
  refine ⟨⟨hi.keep hk.size (hk.block p hi.lt hnp) (hk.block b hi.ltb hnb), hp, hb, Nat.le_trans hB hk.size, v1', v2', ls', h1, hg, by omega, fun k hk' => ?_⟩, hk.below (Below.refl _ _) hB (fun k hk' => (hr.own_lt hk').1)⟩
  rcases ho k hk' with h | h
  · exact hd k h
  · have := hi.lt; have := hi.ltb; exact ⟨by omega, by omega⟩
/-- What Next answers at counters f. -/
def nextV (f : Nat → Int) (a : Nat) : Value := if f a = 4611686018427387904 then .tuple #[.int .i64 0, .int .i64 3] else .tuple #[.int .i64 (f a + 1), .int .i64 0]
/-- .. and leaves. -/
def nextF (f : Nat → Int) (a : Nat) : Nat → Int := if f a = 4611686018427387904 then f else upd f a (f a + 1)
theorem two_nextx (B : Nat) (W : World) (p b m : Nat) (f : Nat → Int) (q len : Nat) (g : Nat → Int) (a : Nat) (ha : a < 18446744073709551616) (hm : m < maxLen) (h : Two B W p b m f q len g) :
    Calls Try.prog 9 #[.pointer (some ⟨p, 0, none⟩), .int .u64 a] W fun e w' => e = .returned (nextV f a) ∧ Two B w' p b (m + 1) (nextF f a) q len g ∧ Below B W w' := by
  unfold nextV nextF
  by_cases e : f a = 4611686018427387904
  · rw [if_pos e, if_pos e]
    refine (next_full W p b m f a ha h.ids e).mono ?_
    rintro e' w' ⟨rfl, rfl⟩
    obtain ⟨hi, h1, h2, h3, h4⟩ := h
    obtain ⟨D, ho, hc⟩ := hi.own
    exact ⟨rfl, ⟨⟨hi.lt, hi.cell, ⟨D, ho.mono (Nat.le_succ _), hc⟩, hi.lo⟩, h1, h2, h3, h4⟩, Below.refl _ _⟩
  · rw [if_neg e, if_neg e]
    refine (next_go W p b m f a ha h.ids hm e).mono ?_
    rintro e' w' ⟨rfl, h1, h2⟩
    obtain ⟨v1, v2, ls, r1, r2, r3, r4⟩ := h.ref
    refine ⟨rfl, ⟨h1, h.hp, h.hb, Nat.le_trans h.hB h2.size, v1, v2, ls, r1.keep fun k hk => h2.block k (r1.own_lt hk).2 (by have := (r4 k hk).2; simpa using this), r2, r3, r4⟩, ?_⟩
    exact (Below.refl _ _).grown h2 h.hB (fun k hk => by cases hk; exact h.hb)
theorem two_nexty (B : Nat) (W : World) (p b m : Nat) (f : Nat → Int) (q len : Nat) (g : Nat → Int) (a : Nat) (ha : a < 18446744073709551616) (hlen : len < 17592186044415) (hg : 0 ≤ g a ∧ g a ≤ 4611686018427387904) (h : Two B W p b m f q len g) :
    Calls Try.prog 10 #[.pointer (some ⟨q, 0, none⟩), .int .u64 (a : Int)] W fun e w' => e = .returned (nextV g a) ∧ Two B w' p b m f q (len + 1) (nextF g a) ∧ Below B W w' := by
  obtain ⟨v1, v2, ls, r1, r2, r3, r4⟩ := h.ref
  have hgf : lookF ls = g := funext r2
  subst hgf
  unfold nextV nextF
  by_cases e : lookF ls a = 4611686018427387904
  · rw [if_pos e, if_pos e]
    refine (refNext_full W q B v1 v2 ls a ha r1 h.hB (by omega) e).mono ?_
    rintro e' w' ⟨rfl, hL⟩
    exact ⟨rfl, Two.leaves h.ids h.hp h.hb h.hB r1 r3 r4 hL⟩
  · rw [if_neg e, if_neg e]
    refine (refNext_go W q B v1 v2 ls a ha r1 h.hB (by omega) e hg).mono ?_
    rintro e' w' ⟨rfl, hL⟩
    exact ⟨rfl, Two.leaves h.ids h.hp h.hb h.hB r1 r3 r4 hL⟩
theorem two_lasty (B : Nat) (W : World) (p b m : Nat) (f : Nat → Int) (q len : Nat) (g : Nat → Int) (a : Nat) (ha : a < 18446744073709551616) (hlen : len < 17592186044415) (h : Two B W p b m f q len g) :
    Calls Try.prog 14 #[.pointer (some ⟨q, 0, none⟩), .int .u64 (a : Int)] W fun e w' => e = .returned (.int .i64 (g a)) ∧ Two B w' p b m f q (len + 1) g ∧ Below B W w' := by
  obtain ⟨v1, v2, ls, r1, r2, r3, r4⟩ := h.ref
  have hgf : lookF ls = g := funext r2
  subst hgf
  refine (refLast_any W q B v1 v2 ls a ha r1 h.hB (by omega)).mono ?_
  rintro e' w' ⟨rfl, hL⟩
  exact ⟨rfl, Two.leaves h.ids h.hp h.hb h.hB r1 r3 r4 hL⟩
theorem RefAt.base {w : World} {p B B' : Nat} {v1 v2 : Value} {ls : List (Nat × Int)} (h : RefAt w p B v1 v2 ls) (hB : B' ≤ B) : RefAt w p B' v1 v2 ls := by
  refine ⟨h.blk, Nat.le_trans hB h.hp, ?_, ?_, h.d1, h.d2, h.d3, h.nd, h.lo⟩
  · refine ⟨h.o1.1, ?_⟩
    rcases h.o1.2 with h' | ⟨g1, cap, cur, hv, hB1, rest⟩
    · exact .inl h'
    · exact .inr ⟨g1, cap, cur, hv, Nat.le_trans hB hB1, rest⟩
  · refine ⟨h.o2.1, ?_⟩
    rcases h.o2.2 with h' | ⟨g1, cap, cur, hv, hB1, rest⟩
    · exact .inl h'
    · exact .inr ⟨g1, cap, cur, hv, Nat.le_trans hB hB1, rest⟩
/-- Copies of both. -/
theorem two_copyx (B : Nat) (W : World) (p b m : Nat) (f : Nat → Int) (q len : Nat) (g : Nat → Int) (hm : m ≤ maxLen) (h : Two B W p b m f q len g) :
    Calls Try.prog 11 #[.pointer (some ⟨p, 0, none⟩)] W fun e w' => Below W.heap.size W w' ∧ ∃ p' b', e = .returned (.pointer (some ⟨p', 0, none⟩)) ∧ W.heap.size ≤ p' ∧ W.heap.size ≤ b' ∧ IdsAt w' p' b' m f := copy_any W p b m f h.ids hm
theorem two_copyy (B : Nat) (W : World) (p b m : Nat) (f : Nat → Int) (q len : Nat) (g : Nat → Int) (hlen : len < 17592186044415) (h : Two B W p b m f q len g) (B' p' b' : Nat) (hi : IdsAt W p' b' m f) (h1 : B' ≤ p') (h2 : B' ≤ b') (h3 : B' ≤ W.heap.size) :
    Calls Try.prog 12 #[.pointer (some ⟨q, 0, none⟩)] W fun e w' => Below W.heap.size W w' ∧ ∃ q', e = .returned (.pointer (some ⟨q', 0, none⟩)) ∧ Two B' w' p' b' m f q' len g := by
  obtain ⟨v1, v2, ls, r1, r2, r3, r4⟩ := h.ref
  refine (refCopy_any W q B v1 v2 ls r1 (by omega)).mono ?_
  rintro e w' ⟨hb, q', v1', v2', rfl, hr⟩
  refine ⟨hb, q', rfl, hi.later hb, h1, h2, Nat.le_trans h3 hb.size, v1', v2', ls, hr.base h3, r2, r3, fun k hk => ?_⟩
  · have := (hr.own_lt hk).1
    have := hi.lt
    have := hi.ltb
    exact ⟨by omega, by omega⟩
end Go.Proofs.Ytbcfmckhgjcakaa
