/- The two Texts of lists of lines, by their contracts. -/
import Derived.Test.YtbhgeikijifbgaaTxRow
namespace Go.Proofs.Ytbhgeikijifbgaa
open Go.RowKit

def txOf (xs : List Ln) : List ByteArray := xs.map (·.s)
/-- What Texts leaves: the texts in a row of its own. -/
def TxtRow (W : World) (xs : List Ln) (n : Nat) (e : Ending) (w' : World) : Prop := ∃ p c, e = .returned (.slice p n c) ∧ Below W.heap.size W w' ∧
  w'.ownsRow W.heap.size 9 1 (.slice p n c) n ((txOf xs).map Value.string)
theorem tx_take (xs : List Ln) (k : Nat) (h : k < xs.length) : txOf (xs.take (k + 1)) = txOf (xs.take k) ++ [xs[k].s] := by
  unfold txOf
  rw [List.take_succ_eq_append_getElem h, List.map_append]; rfl
theorem tx_len (xs : List Ln) : (txOf xs).length = xs.length := by simp [txOf]

set_option maxRecDepth 100000 in
set_option maxHeartbeats 4000000 in
theorem refTexts_any (w : World) (p : Option Addr) (n c : Nat) (xs : List Ln) (hp : LnRow w p xs) (hn : xs.length = n) (hl : n ≤ 3518437208883) :
    Calls Try.prog 13 #[.slice p n c] w (TxtRow w xs n) := by
  have hfin : Hid (∀ v w', Below w.heap.size w w' → w'.ownsRow w.heap.size 9 1 v n ((txOf (xs.take n)).map Value.string) → TxtRow w xs n (.returned v) w') := by
    intro v w' hb ho
    have e : xs.take n = xs := List.take_of_length_le (by omega)
    rw [e] at ho
    have hlen := tx_len xs
    rw [hn] at hlen
    obtain ⟨p', c', hv, _⟩ := row_owned (ks := txOf xs) (by rw [hlen]; exact ho)
    rw [hlen] at hv
    subst hv
    exact ⟨p', c', rfl, hb, ho⟩
  have HN := Lib.hid hn
  obtain ⟨i0, hi, hz0, hz1, hz2⟩ := info_parts strInfo
  clear hn
  go_enter Try.func13, Try.ntmps13
  go_wp2_with fail
  go_loopw [3, 4] (fun v i wr => ∃ k : Nat, i = .int .i64 k ∧ k ≤ n ∧ Below w.heap.size w wr ∧ wr.ownsRow w.heap.size 9 1 v k ((txOf (xs.take k)).map Value.string)) (fun _ i _ => n - (intOf i).toNat)
  case atStart => exact ⟨0, rfl, by omega, Below.refl _ _, World.ownsRow_nil _ _ _ _⟩
  case round =>
    obtain ⟨k, rfl, hkn, hbw, hown⟩ := hrel
    by_cases hlt : k < n
    · have hx : k < xs.length := by rw [HN.out]; exact hlt
      obtain ⟨b1, o1, rfl, l1, h1c⟩ := hp.at k hx
      have g1 := h1c wr hbw
      have hst := Lib.hid (tx_take xs k hx)
      generalize xs[k] = x at *
      obtain ⟨ts', hts⟩ : ∃ ts', txOf (xs.take (k + 1)) = ts' := ⟨_, rfl⟩
      rw [hts] at hst
      have HT := Lib.hid hts
      clear hts
      generalize txOf (xs.take k) = ts at *
      obtain ⟨u, v, r, s⟩ := x
      unfold LnAt at g1
      obtain ⟨s1, s2, s3, s4⟩ := g1
      dsimp only at s1 s2 s3 s4 hst
      have hk0 : (0 : Int) ≤ (k : Int) := Int.natCast_nonneg _
      have hkm : (k : Int) < (n : Int) := by omega
      have hsz := hbw.size
      clear h1c s1 s2 s3
      go_wp2_with (at_builtin; refine wpList_append_own _ rfl _ _ 31 rfl w.heap.size 9 i0 (.string ⟨#[]⟩) 1 16 Try.underlying31 hi hz0 hz1 hz2 rfl (by decide) _ _ _ rfl (hown.alloc _) ⟨wr.heap.size, 0, none⟩ 1 1 [.string s] rfl rfl ?c1 ?c2 ?c3 ?c4 ?c5 ?_)
      case c1 =>
        intro j u hj
        match j, hj with
        | 0, hj => simp at hj; subst hj; simp [Addr.add]
      case c2 => intro u hu; simp at hu; subst hu; rfl
      case c3 => unfold maxLen; omega
      case c4 => omega
      case c5 => simp; omega
      intro v' w2 hown' hgrow _
      have hb2 : Below w.heap.size w w2 := (hbw.alloc (by omega) _).grown hgrow (by simp; omega) (fun g hg => (hown.lt g hg).1)
      have HO : Hid (w2.ownsRow w.heap.size 9 1 v' (k + 1) (ts'.map Value.string)) := by
        rw [hst.out, List.map_append]
        exact hown'
      clear hown hown' hgrow
      go_wp2_with fail
      go_roundw
      case rel => exact ⟨k + 1, by go_num, by omega, hb2, by rw [HT.out]; exact HO.out⟩
      case measure => simp [intOf]; omega
    · obtain rfl : n = k := by omega
      have hF := Lib.hid (hfin.out _ wr hbw hown)
      clear hown hfin
      go_wp2_with fail
      go_ret
      exact hF.out

set_option maxRecDepth 100000 in
set_option maxHeartbeats 4000000 in
theorem texts_any (w : World) (p : Option Addr) (n c : Nat) (xs : List Ln) (hp : LnRow w p xs) (hn : xs.length = n) (hl : n ≤ 3518437208883) :
    Calls Try.prog 11 #[.slice p n c] w (TxtRow w xs n) := by
  have hfin : Hid (∀ p c w' cs, Below w.heap.size w w' → w'.ownsRow w.heap.size 9 1 (.slice p n c) n cs → (∀ j (h : j < xs.length), j < n → cs[j]? = some (.string xs[j].s)) → TxtRow w xs n (.returned (.slice p n c)) w') := by
    intro p c w' cs hb ho hc
    refine ⟨p, c, rfl, hb, ?_⟩
    have e : cs = (txOf xs).map Value.string := by
      apply List.ext_getElem?
      intro j
      by_cases hj : j < xs.length
      · rw [hc j hj (by omega)]
        unfold txOf
        rw [List.getElem?_map, List.getElem?_map, List.getElem?_eq_getElem hj]; rfl
      · have h1 := ho.1
        rw [List.getElem?_eq_none (by omega), List.getElem?_eq_none (by rw [List.length_map, tx_len]; omega)]
    rw [← e]; exact ho
  have HN := Lib.hid hn
  obtain ⟨i0, hi, hz0, hz1, hz2⟩ := info_parts strInfo
  clear hn
  go_enter Try.func11, Try.ntmps11
  go_wp2_with (refine wpList_make_full _ rfl _ _ 31 rfl w.heap.size 9 i0 (.string ⟨#[]⟩) 1 Try.underlying31 hi hz0 hz1 .i64 .i64 _ _ n rfl rfl rfl rfl (by rw [hz2]; omega) (by unfold maxLen; omega) (Nat.le_refl _) ?_)
  intro w1 ho1 hg1
  have hb1 : Below w.heap.size w w1 := (Below.refl _ w).grown hg1 (Nat.le_refl _) (fun k hk => by cases hk)
  have HO1 : Hid (∃ cs : List Value, w1.ownsRow w.heap.size 9 1 (.slice (some ⟨w.heap.size, 0, none⟩) n n) n cs ∧ ∀ j (h : j < xs.length), j < 0 → cs[j]? = some (.string xs[j].s)) := ⟨_, ho1, fun j _ h => absurd h (Nat.not_lt_zero _)⟩
  clear ho1 hg1
  go_wp2_with fail
  go_loopw [11] (fun i wr => ∃ k : Nat, i = .int .i64 k ∧ k ≤ n ∧ Below w.heap.size w wr ∧ Hid (∃ cs : List Value, wr.ownsRow w.heap.size 9 1 (.slice (some ⟨w.heap.size, 0, none⟩) n n) n cs ∧ ∀ j (h : j < xs.length), j < k → cs[j]? = some (.string xs[j].s))) (fun i _ => n - (intOf i).toNat)
  case atStart => exact ⟨0, rfl, by omega, hb1, HO1⟩
  case round =>
    clear hb1 HO1
    obtain ⟨k, rfl, hkn, hbw, hown⟩ := hrel
    by_cases hlt : k < n
    · have hx : k < xs.length := by rw [HN.out]; exact hlt
      obtain ⟨b1, o1, rfl, l1, h1c⟩ := hp.at k hx
      have g1 := h1c wr hbw
      obtain ⟨cs, ho, hcs⟩ := hown.out
      have hsz := hbw.size
      have hck : k < cs.length := by have := ho.1; omega
      have ho2 := ho.alloc (.cells #[.int .u64 xs[k].u, .int .i64 xs[k].n, .int .i64 xs[k].r, .string xs[k].s] 25)
      have hcell := ho2.cellAt k (by omega)
      rw [List.getElem?_eq_getElem hck] at hcell
      have hfz := ho2.frozenAt k
      obtain ⟨hst, hgr⟩ := ho2.stored k (.string xs[k].s)
      have hbs := (hbw.alloc hsz (.cells #[.int .u64 xs[k].u, .int .i64 xs[k].n, .int .i64 xs[k].r, .string xs[k].s] 25)).setCell (p := ⟨w.heap.size, k, none⟩) (Nat.le_refl _) (.string xs[k].s)
      have HS : Hid (∃ cs' : List Value, ((wr.alloc (.cells #[.int .u64 xs[k].u, .int .i64 xs[k].n, .int .i64 xs[k].r, .string xs[k].s] 25)).setCell ⟨w.heap.size, k, none⟩ (.string xs[k].s)).ownsRow w.heap.size 9 1 (.slice (some ⟨w.heap.size, 0, none⟩) n n) n cs' ∧ ∀ j (h : j < xs.length), j < k + 1 → cs'[j]? = some (.string xs[j].s)) := by
        refine ⟨_, hst, fun j h hj => ?_⟩
        by_cases e : j = k
        · subst e; rw [List.getElem?_set_self hck]
        · rw [List.getElem?_set_ne (fun e' => e e'.symm)]; exact hcs j h (by omega)
      have HB := Lib.hid hbs
      clear hst hgr ho ho2 hcs hown hbs
      generalize cs[k] = old at *
      generalize xs[k] = x at *
      obtain ⟨u, v, r, s⟩ := x
      unfold LnAt at g1
      obtain ⟨s1, s2, s3, s4⟩ := g1
      dsimp only at s1 s2 s3 s4 hcell hfz HS HB
      have hk0 : (0 : Int) ≤ (k : Int) := Int.natCast_nonneg _
      have hkm : (k : Int) < (n : Int) := by omega
      clear h1c
      go_wp2_with fail
      go_roundw
      case rel => exact ⟨k + 1, by go_num, by omega, HB.out, HS⟩
      case measure => simp [intOf]; omega
    · obtain rfl : n = k := by omega
      obtain ⟨cs, ho, hcs⟩ := hown.out
      have hF := Lib.hid (hfin.out _ _ wr _ hbw ho hcs)
      clear hown hfin ho hcs
      go_wp2_with fail
      go_ret
      exact hF.out
end Go.Proofs.Ytbhgeikijifbgaa
