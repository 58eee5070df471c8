/- Texts of the proof, merged: LbText, StepOwn. -/
import Derived.Test.YtfibbjnkicjbpaaGreatDoorTl2
import Derived.Test.YtfibbjnkicjbpaaGreatDoorTl3
import Derived.Test.YtfibbjnkicjbpaaGreatDoorTl23
import Derived.Test.YtfibbjnkicjbpaaGreatDoorTl24
import Derived.Test.YtfibbjnkicjbpaaGreatDoorTl25
import Derived.Test.YtfibbjnkicjbpaaGreatDoorTl30
import Derived.Test.YtfibbjnkicjbpaaGreatDoorTl36
import Derived.Deep.RegionHeld3
import Derived.Deep.RegionLaw
import Derived.Laws.AppendOwn
import Derived.OwnWalk
import Derived.RowKit
/- label's own Text, by its contract. -/
namespace Go.Proofs.YtfibbjnkicjbpaaGreatDoor
open Go.RowKit

def strs (l : List Nat) : List Value := l.map fun i => .string (digsB i)
theorem strs_len (l : List Nat) : (strs l).length = l.length := by simp [strs]

set_option maxRecDepth 100000 in
set_option maxHeartbeats 4000000 in
theorem text_any_lb (a : Nat) (w : World) (ha : a < 18446744073709551616) (hT : BTab w) :
    Calls Tryz.prog 29 #[.int .u64 a] w fun e w' => e = .returned (.string ⟨(textN a).toArray⟩) ∧ Below w.heap.size w w' := by
  by_cases h0 : a = 0
  · subst h0
    go_enter Tryz.func29, Tryz.ntmps29
    go_wp2
    go_ret
    exact ⟨rfl, Below.refl _ _⟩
  · have cL := list_any a w ha hT
    obtain ⟨n, hn⟩ := list_nonzero a h0 ha
    have hll := listTo_len a 64
    have hmem := Lib.hid (list_below a)
    have HT : Hid (textN a = Lib.join ((listTo a 64).map Lib.decDigits) [43]) := by show textN a = _; unfold textN; rw [if_neg h0]
    have hne : ((a : Int) == 0) = false := beq_false_of_ne (by omega)
    obtain ⟨i0, hi, hz0, hz1, hz2⟩ := info_parts strInfo
    generalize textN a = tx at *
    generalize listTo a 64 = l at *
    have HN := Lib.hid hn
    clear hn
    go_enter Tryz.func29, Tryz.ntmps29
    go_wp2_with fail
    refine cL.mono ?_
    rintro e w1 ⟨p, c, rfl, hb1, ho1⟩
    have hrow := ints_row ho1
    have hB1 := hb1.size
    clear cL ho1
    go_wp2_with fail
    go_loopg [3, 11] l.length (fun g v i wr => ∃ k : Nat, k + g = l.length ∧ i = .int .i64 k ∧ Below w1.heap.size w1 wr ∧ Hid (wr.ownsRow w1.heap.size 9 1 v k (strs (l.take k))))
    case atStart => exact ⟨0, by omega, rfl, Below.refl _ _, by rw [List.take_zero]; exact World.ownsRow_nil _ _ _ _⟩
    case round =>
      obtain ⟨k, hk, rfl, hbr, ho⟩ := hrel
      by_cases hlt : k < l.length
      · obtain ⟨b1, o1, rfl, _, h1c⟩ := hrow.at k (by rw [List.length_map]; exact hlt)
        have g1 := h1c wr hbr
        rw [List.getElem_map] at g1
        have hsn : Hid (strs (l.take (k + 1)) = strs (l.take k) ++ [.string (digsB l[k])]) := by
          show strs (l.take (k + 1)) = _
          rw [List.take_succ_eq_append_getElem hlt]
          unfold strs
          rw [List.map_append]; rfl
        have hi100 := hmem.out l[k] (List.getElem_mem hlt)
        generalize l[k] = x at *
        have cI : Calls Tryz.prog 52 #[.int .i64 x] wr fun e w' => e = .returned (.string (digsB x)) ∧ wr = w' := (Tryz.strconv_Itoa_small x hi100 wr).mono fun _ _ ⟨h1, h2⟩ => ⟨h1, h2.symm⟩
        generalize digsB x = dx at *
        have hx0 : (0 : Int) ≤ (x : Int) := Int.natCast_nonneg _
        have hkk : (0 : Int) ≤ (k : Int) := Int.natCast_nonneg _
        have hki : (k : Int) < (l.length : Int) := by omega
        have ho' := ho.out
        have hbsz := hbr.size
        clear h1c ho HT
        go_wp2_with (first
          | (go_at_call 52; refine cI.mono ?_; rintro e w' ⟨rfl, rfl⟩)
          | (at_builtin; refine wpList_append_own _ rfl _ _ 33 rfl w1.heap.size 9 i0 (.string ⟨#[]⟩) 1 16 Tryz.underlying33 hi hz0 hz1 hz2 rfl (by decide) _ _ _ rfl (ho'.alloc _) ⟨wr.heap.size, 0, none⟩ 1 1 [.string dx] rfl rfl ?c1 ?c2 ?c3 ?c4 ?c5 ?_))
        case c1 =>
          intro j u hj
          match j, hj with
          | 0, hj => simp at hj; subst hj; simp [Addr.add]
        case c2 => intro u hu; simp at hu; subst hu; rfl
        case c3 => unfold maxLen; omega
        case c4 => omega
        case c5 => simp; omega
        intro v' w3 hown' hgrow _
        have hb2 : Below w1.heap.size w1 w3 := (hbr.alloc (by omega) _).grown hgrow (by simp; omega) (fun g hg => (ho'.lt g hg).1)
        have HO : Hid (w3.ownsRow w1.heap.size 9 1 v' (k + 1) (strs (l.take (k + 1)))) := by rw [hsn.out]; exact hown'
        clear ho' hown' hgrow cI hsn
        go_wp2_with fail
        go_roundg (gk - 1)
        case rel => exact ⟨k + 1, by omega, by go_num, hb2, HO⟩
        case measure => omega
      · obtain rfl : k = l.length := by omega
        have ho' := ho.out
        rw [List.take_length, HN.out] at ho'
        obtain ⟨g, cap, rfl, hcap, hg1, hg2⟩ := own_some ho'
        have hcell : ∀ (j : Nat) x, (l.map digsB)[j]? = some x → wr.cell? ⟨g, 0 + j, none⟩ = some (.string x) := by
          intro j x hx
          have hj : j < l.length := by
            rcases Nat.lt_or_ge j l.length with h' | h'
            · exact h'
            · rw [List.getElem?_eq_none (by rw [List.length_map]; exact h')] at hx; cases hx
          have h1 := ho'.cellAt j (by have := HN.out; omega)
          rw [Nat.zero_add, h1]
          unfold strs
          rw [List.getElem?_map, List.getElem?_eq_getElem hj] at hx ⊢
          injection hx with hx
          rw [← hx]; rfl
        have hjl := join_le l hmem.out
        have cJ := Tryz.strings_Join g 0 cap (l.map digsB) ⟨#[43]⟩ wr hcell hg2 (by rw [List.length_map]; omega) (by rw [List.length_map, HN.out]; exact hcap) (by rw [digs_map]; exact Nat.le_trans hjl (by omega))
        rw [List.length_map, HN.out, digs_map, show (⟨#[43]⟩ : ByteArray).data.toList = [43] from rfl, ← HT.out] at cJ
        have hend := fun W (h : Below wr.heap.size wr W) => hb1.trans ((hbr.trans (h.mono hbr.size)).mono hB1)
        clear hcell ho ho' hjl HT hmem
        go_wp2_with fail
        refine cJ.mono ?_
        rintro e w5 ⟨rfl, hb5⟩
        have hend' := hend w5 hb5
        clear cJ hend hb5
        go_wp2_with fail
        go_ret
        exact ⟨rfl, hend'⟩
end Go.Proofs.YtfibbjnkicjbpaaGreatDoor
/- append to a row of the call's own, as one step of a region that draws its order. No program. -/
namespace Go.Proofs.YtfibbjnkicjbpaaGreatDoor
open Go Go.RowKit

theorem step_append_own {P : Program} {ops : Array Oper} {o : Oper} {a : Act} {w : World} {K : Act → World → Prop} {Q : Exit → Act → World → Prop} {E : Prop} (hgd : o.guard = none) (s x : Operand) (t : TypeId)
    (ho : o.op = .call { callee := .builtin .append, args := #[s, x], argTypes := #[t, t] })
    (base : Nat) (e : TypeId) (i : TypeInfo) (z : Value) (size bytes : Nat) (ht : P.underlying t = some (.slice e)) (hi : P.info? e = some i) (hz : i.zero = some z)
    (hsize : i.size = size) (hby : i.bytes = bytes) (hzs : z.cells.size = size) (hsz : 0 < size)
    (v : Value) (n : Nat) (xs : List Value) (hs : a.eval s = v) (hown : w.ownsRow base e size v n xs)
    (ad : Addr) (m c : Nat) (news : List Value) (hx : a.eval x = .slice (some ad) m c) (hl : news.length = m * size) (hnews : ∀ j u, news[j]? = some u → w.cell? (ad.add j) = some u) (h1 : ∀ u ∈ news, u.oneCell' = true)
    (h63 : n + m ≤ maxLen) (hbytes : (n + m) * bytes ≤ 140737488355328) (hbase : base ≤ w.heap.size)
    (h : ∀ v' w', w'.ownsRow base e size v' (n + m) (xs ++ news) → w.grownBy w' v.ownBlock → K (a.put o.dst v') w') : if Region.wanted o (yielded ops a.tmps) = true then Oper.wp P o a w K Q else E := by
  have hw : Region.wanted o (yielded ops a.tmps) = true := by simp [Region.wanted, hgd]
  rw [if_pos hw]
  obtain ⟨v', w', hr, h2, h3, _⟩ := run_append_own (P := P) w base t o.type e i z size bytes ht hi hz hsize hby hzs hsz v n xs hown ad m c news hl hnews h1 h63 hbytes hbase
  unfold Oper.wp execOp
  simp only [ho, resolve, invoke, builtin, Sem.run_bind, Sem.run_pure, Result.andThen_ok, List.map_toArray, List.map_cons, List.map_nil, hs, hx, hr]
  exact h v' w' h2 h3
end Go.Proofs.YtfibbjnkicjbpaaGreatDoor
