/- label's own Text, by its contract. -/
import Derived.Test.YtbcfmckhgjcakaaDoorLbMyList
import Derived.Test.YtbcfmckhgjcakaaDoorLbTextP
import Derived.Test.YtbcfmckhgjcakaaDoorNumCopy
import Derived.Test.YtbcfmckhgjcakaaDoorLbSays
import Derived.Test.YtbcfmckhgjcakaaDoorShelf
namespace Go.Proofs.YtbcfmckhgjcakaaDoor
open Go.RowKit

theorem strInfo : (Tryd.prog.info? 9).map (fun i => (i.zero, i.size, i.bytes)) = some (some (.string ⟨#[]⟩), 1, 16) := by kernel_rfl
def strs (l : List Nat) : List Value := l.map fun i => .string (digsB i)
theorem strs_len (l : List Nat) : (strs l).length = l.length := by simp [strs]

set_option maxRecDepth 100000 in
set_option maxHeartbeats 4000000 in
theorem text_any_lb (a : Nat) (w : World) (ha : a < 18446744073709551616) (hT : BTab w) :
    Calls Tryd.prog 24 #[.int .u64 a] w fun e w' => e = .returned (.string ⟨(textN a).toArray⟩) ∧ Below w.heap.size w w' := by
  by_cases h0 : a = 0
  · subst h0
    go_enter Tryd.func24, Tryd.ntmps24
    go_wp2
    go_ret
    exact ⟨rfl, Below.refl _ _⟩
  · have cL := list_any a w ha hT
    obtain ⟨n, hn⟩ := list_nonzero a h0 ha
    have hll := listTo_len a 64
    have hmem := Lib.hid (list_below a)
    have HT : Hid (textN a = Lib.join ((listTo a 64).map Lib.decDigits) [43]) := by show textN a = _; unfold textN; rw [if_neg h0]
    have hne : ((a : Int) == 0) = false := beq_false_of_ne (by omega)
    obtain ⟨i0, hi, hz0, hz1, hz2⟩ := info_parts strInfo
    generalize textN a = tx at *
    generalize listTo a 64 = l at *
    have HN := Lib.hid hn
    clear hn
    go_enter Tryd.func24, Tryd.ntmps24
    go_wp2_with fail
    refine cL.mono ?_
    rintro e w1 ⟨p, c, rfl, hb1, ho1⟩
    have hrow := ints_row ho1
    have hB1 := hb1.size
    clear cL ho1
    go_wp2_with fail
    go_loopg [3, 11] l.length (fun g v i wr => ∃ k : Nat, k + g = l.length ∧ i = .int .i64 k ∧ Below w1.heap.size w1 wr ∧ Hid (wr.ownsRow w1.heap.size 9 1 v k (strs (l.take k))))
    case atStart => exact ⟨0, by omega, rfl, Below.refl _ _, by rw [List.take_zero]; exact World.ownsRow_nil _ _ _ _⟩
    case round =>
      obtain ⟨k, hk, rfl, hbr, ho⟩ := hrel
      by_cases hlt : k < l.length
      · obtain ⟨b1, o1, rfl, _, h1c⟩ := hrow.at k (by rw [List.length_map]; exact hlt)
        have g1 := h1c wr hbr
        rw [List.getElem_map] at g1
        have hsn : Hid (strs (l.take (k + 1)) = strs (l.take k) ++ [.string (digsB l[k])]) := by
          show strs (l.take (k + 1)) = _
          rw [List.take_succ_eq_append_getElem hlt]
          unfold strs
          rw [List.map_append]; rfl
        have hi100 := hmem.out l[k] (List.getElem_mem hlt)
        generalize l[k] = x at *
        have cI : Calls Tryd.prog 25 #[.int .i64 x] wr fun e w' => e = .returned (.string (digsB x)) ∧ wr = w' := (Tryd.strconv_Itoa_small x hi100 wr).mono fun _ _ ⟨h1, h2⟩ => ⟨h1, h2.symm⟩
        generalize digsB x = dx at *
        have hx0 : (0 : Int) ≤ (x : Int) := Int.natCast_nonneg _
        have hkk : (0 : Int) ≤ (k : Int) := Int.natCast_nonneg _
        have hki : (k : Int) < (l.length : Int) := by omega
        have ho' := ho.out
        have hbsz := hbr.size
        clear h1c ho HT
        go_wp2_with (first
          | (go_at_call 25; refine cI.mono ?_; rintro e w' ⟨rfl, rfl⟩)
          | (at_builtin; refine wpList_append_own _ rfl _ _ 78 rfl w1.heap.size 9 i0 (.string ⟨#[]⟩) 1 16 Tryd.underlying78 hi hz0 hz1 hz2 rfl (by decide) _ _ _ rfl (ho'.alloc _) ⟨wr.heap.size, 0, none⟩ 1 1 [.string dx] rfl rfl ?c1 ?c2 ?c3 ?c4 ?c5 ?_))
        case c1 =>
          intro j u hj
          match j, hj with
          | 0, hj => simp at hj; subst hj; simp [Addr.add]
        case c2 => intro u hu; simp at hu; subst hu; rfl
        case c3 => unfold maxLen; omega
        case c4 => omega
        case c5 => simp; omega
        intro v' w3 hown' hgrow _
        have hb2 : Below w1.heap.size w1 w3 := (hbr.alloc (by omega) _).grown hgrow (by simp; omega) (fun g hg => (ho'.lt g hg).1)
        have HO : Hid (w3.ownsRow w1.heap.size 9 1 v' (k + 1) (strs (l.take (k + 1)))) := by rw [hsn.out]; exact hown'
        clear ho' hown' hgrow cI hsn
        go_wp2_with fail
        go_roundg (gk - 1)
        case rel => exact ⟨k + 1, by omega, by go_num, hb2, HO⟩
        case measure => omega
      · obtain rfl : k = l.length := by omega
        have ho' := ho.out
        rw [List.take_length, HN.out] at ho'
        obtain ⟨g, cap, rfl, hcap, hg1, hg2⟩ := own_some ho'
        have hcell : ∀ (j : Nat) x, (l.map digsB)[j]? = some x → wr.cell? ⟨g, 0 + j, none⟩ = some (.string x) := by
          intro j x hx
          have hj : j < l.length := by
            rcases Nat.lt_or_ge j l.length with h' | h'
            · exact h'
            · rw [List.getElem?_eq_none (by rw [List.length_map]; exact h')] at hx; cases hx
          have h1 := ho'.cellAt j (by have := HN.out; omega)
          rw [Nat.zero_add, h1]
          unfold strs
          rw [List.getElem?_map, List.getElem?_eq_getElem hj] at hx ⊢
          injection hx with hx
          rw [← hx]; rfl
        have hjl := join_le l hmem.out
        have cJ := Tryd.strings_Join g 0 cap (l.map digsB) ⟨#[43]⟩ wr hcell hg2 (by rw [List.length_map]; omega) (by rw [List.length_map, HN.out]; exact hcap) (by rw [digs_map]; exact Nat.le_trans hjl (by omega))
        rw [List.length_map, HN.out, digs_map, show (⟨#[43]⟩ : ByteArray).data.toList = [43] from rfl, ← HT.out] at cJ
        have hend := fun W (h : Below wr.heap.size wr W) => hb1.trans ((hbr.trans (h.mono hbr.size)).mono hB1)
        clear hcell ho ho' hjl HT hmem
        go_wp2_with fail
        refine cJ.mono ?_
        rintro e w5 ⟨rfl, hb5⟩
        have hend' := hend w5 hb5
        clear cJ hend hb5
        go_wp2_with fail
        go_ret
        exact ⟨rfl, hend'⟩
end Go.Proofs.YtbcfmckhgjcakaaDoor
