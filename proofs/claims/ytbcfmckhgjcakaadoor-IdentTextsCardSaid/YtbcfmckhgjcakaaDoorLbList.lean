/- The document's List, by its contract. -/
import Derived.Test.YtbcfmckhgjcakaaDoorLbSet
import Derived.Deep.WholeRow
import Derived.Deep.Onto
namespace Go.Proofs.YtbcfmckhgjcakaaDoor
open Go.RowKit

theorem intInfo : (Tryd.prog.info? 3).map (fun i => (i.zero, i.size, i.bytes)) = some (some (.int .i64 0), 1, 8) := by kernel_rfl
def ints (l : List Nat) : List Value := l.map fun i => .int .i64 (i : Nat)
/-- What List leaves: the compartments in a row of its own. -/
def IntRow (W : World) (l : List Nat) (e : Ending) (w' : World) : Prop := ∃ p c, e = .returned (.slice p l.length c) ∧ Below W.heap.size W w' ∧ w'.ownsRow W.heap.size 3 1 (.slice p l.length c) l.length (ints l)
theorem int_owned {W : World} {B : Nat} {v : Value} {l : List Nat} (h : W.ownsRow B 3 1 v l.length (ints l)) : ∃ p c, v = .slice p l.length c := by
  rcases h.2 with ⟨hv, h0⟩ | ⟨g, cap, cur, hv, _⟩
  · exact ⟨none, 0, by rw [hv, h0]⟩
  · exact ⟨some ⟨g, 0, none⟩, cap, hv⟩

set_option maxRecDepth 100000 in
set_option maxHeartbeats 4000000 in
theorem refList_any (a : Nat) (w : World) (ha : a < 18446744073709551616) :
    Calls Tryd.prog 41 #[.int .u64 a] w (IntRow w (listTo a 64)) := by
  have cS := refSet_any a w ha
  obtain ⟨i0, hi, hz0, hz1, hz2⟩ := info_parts intInfo
  have hfin : Hid (∀ v w', Below w.heap.size w w' → w'.ownsRow w.heap.size 3 1 v (listTo a 64).length (ints (listTo a 64)) → IntRow w (listTo a 64) (.returned v) w') := by
    intro v w' hb ho
    obtain ⟨p, c, rfl⟩ := int_owned ho
    exact ⟨p, c, rfl, hb, ho⟩
  go_enter Tryd.func41, Tryd.ntmps41
  go_wp2_with fail
  refine cS.mono ?_
  rintro e w1 ⟨cs, rfl, hB, hb1⟩
  have hi1 := arrInfo
  rw [← hB.size] at hi1
  have hone := bools_one hB
  have hsz := hB.size
  have HB := Lib.hid hB
  clear hB cS
  go_wp2_with (refine wpList_store_row rfl _ _ _ rfl w1.heap.size cs rfl rfl _ _ (heap_alloc_new _ _) hi1 (by rw [hsz]; rfl) hone ?_)
  rw [World.setRow_alloc_new]
  clear hi1 hone
  have hbs : Below w.heap.size w (w1.alloc (.cells cs 91)) := hb1.alloc hb1.size _
  have hcell : Hid (∀ i, i < 64 → (w1.alloc (.cells cs 91)).cell? ⟨w1.heap.size, i, none⟩ = some (.bool (a.testBit i))) := fun i h => HB.out.cell i h
  have hB1 := hb1.size
  have hlt1 : w1.heap.size < (w1.alloc (.cells cs 91)).heap.size := by simp
  generalize w1.alloc (.cells cs 91) = w2 at *
  generalize w1.heap.size = B1 at *
  clear hb1 HB hsz
  go_wp2_with fail
  go_loopg [3, 5] 64 (fun g v i wr => ∃ k : Nat, k + g = 64 ∧ i = .int .i64 k ∧ Below w2.heap.size w2 wr ∧ wr.ownsRow w2.heap.size 3 1 v (listTo a k).length (ints (listTo a k)))
  case atStart => exact ⟨0, rfl, rfl, Below.refl _ _, World.ownsRow_nil _ _ _ _⟩
  case round =>
    obtain ⟨k, hk, rfl, hbr, ho⟩ := hrel
    by_cases h0 : k < 64
    · have hc := (hbr.cell (p := ⟨B1, k, none⟩) hlt1).trans (hcell.out k h0)
      have hst := Lib.hid (listTo_step a k)
      have hlen := listTo_len a k
      obtain ⟨l', hl'⟩ : ∃ l', listTo a (k + 1) = l' := ⟨_, rfl⟩
      rw [hl'] at hst
      have HL := Lib.hid hl'
      generalize listTo a k = l at *
      have hkk : (0 : Int) ≤ (k : Int) := Int.natCast_nonneg _
      have hbsz := hbr.size
      clear hl' hfin hcell
      cases hb : a.testBit k
      · rw [hb] at hc hst
        have hs2 : l' = l := by simpa using hst.out
        have hst' := Lib.hid hs2
        clear hs2
        have HO := Lib.hid ho
        clear hst ho hb
        go_wp2_with fail
        go_roundg (gk - 1)
        case rel => exact ⟨k + 1, by omega, by go_num, hbr, by rw [HL.out, hst'.out]; exact HO.out⟩
        case measure => omega
      · rw [hb] at hc hst
        have hs2 : l' = l ++ [k] := by simpa using hst.out
        have hst' := Lib.hid hs2
        clear hs2
        clear hst hb
        go_wp2_with (at_builtin; refine wpList_append_own _ rfl _ _ 74 rfl w2.heap.size 3 i0 (.int .i64 0) 1 8 Tryd.underlying74 hi hz0 hz1 hz2 rfl (by decide) _ _ _ rfl (ho.alloc _) ⟨wr.heap.size, 0, none⟩ 1 1 [.int .i64 k] rfl rfl ?c1 ?c2 ?c3 ?c4 ?c5 ?_)
        case c1 =>
          intro j u hj
          match j, hj with
          | 0, hj => simp at hj; subst hj; simp [Addr.add]
        case c2 => intro u hu; simp at hu; subst hu; rfl
        case c3 => unfold maxLen; omega
        case c4 => omega
        case c5 => simp; omega
        intro v' w3 hown' hgrow _
        have hb2 : Below w2.heap.size w2 w3 := (hbr.alloc (by omega) _).grown hgrow (by simp; omega) (fun g hg => (ho.lt g hg).1)
        have HO : Hid (w3.ownsRow w2.heap.size 3 1 v' l'.length (ints l')) := by
          rw [hst'.out, List.length_append, List.length_singleton]
          unfold ints
          rw [List.map_append]
          exact hown'
        clear ho hown' hgrow
        go_wp2_with fail
        go_roundg (gk - 1)
        case rel => exact ⟨k + 1, by omega, by go_num, hb2, by rw [HL.out]; exact HO.out⟩
        case measure => omega
    · obtain rfl : k = 64 := by omega
      have hF := Lib.hid (hfin.out _ wr (hbs.trans (hbr.mono hbs.size)) (World.ownsRow.mono ho hbs.size))
      clear ho hfin hcell
      go_wp2_with fail
      go_ret
      exact hF.out
end Go.Proofs.YtbcfmckhgjcakaaDoor
