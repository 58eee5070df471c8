/- Texts of the proof, merged: NumCopy, LbSays, LbText. -/
import Derived.Test.YtfkkodcppaakjaaGreatDoorRd4
import Derived.Test.YtfkkodcppaakjaaGreatDoorRd5
import Derived.Test.YtfkkodcppaakjaaGreatDoorRd6
import Derived.Test.YtfkkodcppaakjaaGreatDoorRd8
import Derived.Test.YtfkkodcppaakjaaGreatDoorRd15
import Derived.Test.YtfkkodcppaakjaaGreatDoorRd17
import Derived.Test.YtfkkodcppaakjaaGreatDoorRd23
import Derived.Laws.AppendOwnNone
import Derived.Laws.OwnMore
/- Rows of numbers that the call owns; a row of numbers copied behind one of the call's own. -/
namespace Go.Proofs.YtfkkodcppaakjaaGreatDoor
open Go.RowKit

def nums (k : IntKind) (xs : List Int) : List Value := xs.map (Value.int k)
theorem nums_len (k : IntKind) (xs : List Int) : (nums k xs).length = xs.length := by simp [nums]
/-- What is owned can be read. -/
theorem nums_row {k : IntKind} {W : World} {B : Nat} {e : TypeId} {p : Option Addr} {n c : Nat} {xs : List Int} {rest : List Value} (h : W.ownsRow B e 1 (.slice p n c) n (nums k xs ++ rest)) : NumRow k W p xs := by
  intro i hi
  have hn := h.1
  rw [List.length_append, nums_len] at hn
  rcases h.2 with ⟨hv, h0⟩ | ⟨g, cap, cur, hv, _⟩
  · omega
  · injection hv with e1 e2 e3
    subst e1
    have hc := h.cellAt i (by omega)
    rw [List.getElem?_append_left (by rw [nums_len]; exact hi)] at hc
    unfold nums at hc
    rw [List.getElem?_map, List.getElem?_eq_getElem hi] at hc
    have hlt := World.block_lt_of_cell? W _ (show W.cell? ⟨g, i, none⟩ = some (.int k xs[i]) from hc)
    exact ⟨g, 0, rfl, hlt, by rw [Nat.zero_add]; exact hc⟩
theorem nums_row' {k : IntKind} {W : World} {B : Nat} {e : TypeId} {p : Option Addr} {n c : Nat} {xs : List Int} (h : W.ownsRow B e 1 (.slice p n c) n (nums k xs)) : NumRow k W p xs := nums_row (rest := []) (by rw [List.append_nil]; exact h)
theorem own_slice {W : World} {B : Nat} {e : TypeId} {v : Value} {n : Nat} {cs : List Value} (h : W.ownsRow B e 1 v n cs) : ∃ p c, v = .slice p n c := by
  rcases h.2 with ⟨hv, h0⟩ | ⟨g, cap, cur, hv, _⟩
  · exact ⟨none, 0, by rw [hv, h0]⟩
  · exact ⟨some ⟨g, 0, none⟩, cap, hv⟩
theorem own_later {w W : World} {B z : Nat} {e : TypeId} {v : Value} {n : Nat} {cs : List Value} (h : w.ownsRow B e z v n cs) (hb : Below w.heap.size w W) : W.ownsRow B e z v n cs := by
  refine ⟨h.1, ?_⟩
  rcases h.2 with h' | ⟨g, cap, cur, hv, hB, hg, rest⟩
  · exact .inl h'
  · have hlt : g < w.heap.size := (Array.getElem?_eq_some_iff.1 hg).1
    exact .inr ⟨g, cap, cur, hv, hB, by rw [hb.block g hlt]; exact hg, rest⟩
theorem own_some {W : World} {B : Nat} {e : TypeId} {v : Value} {k : Nat} {cs : List Value} (h : W.ownsRow B e 1 v (k + 1) cs) : ∃ g cap, v = .slice (some ⟨g, 0, none⟩) (k + 1) cap ∧ k + 1 ≤ cap ∧ B ≤ g ∧ g < W.heap.size := by
  rcases h.2 with ⟨_, h0⟩ | ⟨g, cap, cur, hv, hB, hg, hc, _⟩
  · omega
  · exact ⟨g, cap, hv, hc, hB, (Array.getElem?_eq_some_iff.1 hg).1⟩
theorem addr_plus (b off i : Nat) : (⟨b, off, none⟩ : Addr).add i = ⟨b, off + i, none⟩ := by
  unfold Addr.add
  by_cases h : i = 0
  · subst h; rfl
  · simp [h]

theorem copy_nums {P : Program} {w : World} {ops : Array Oper} {rest : List Oper} {o : Oper} {a : Act} {Q : Exit → Act → World → Prop} (hgd : o.guard = none) (s x : Operand) (t : TypeId)
    (ho : o.op = .call { callee := .builtin .append, args := #[s, x], argTypes := #[t, t] })
    (base : Nat) (e : TypeId) (i : TypeInfo) (z : Value) (ht : P.underlying t = some (.slice e)) (hi : P.info? e = some i) (hz : i.zero = some z) (hsize : i.size = 1) (hby : i.bytes = 8) (hzs : z.cells.size = 1)
    (v : Value) (hs : a.eval s = v) (hown : w.ownsRow base e 1 v 0 []) (k : IntKind) (p : Option Addr) (m c : Nat) (xs : List Int) (hx : a.eval x = .slice p m c) (hl : xs.length = m) (hrow : NumRow k w p xs) (hnil : p = none → m = 0 ∧ c = 0)
    (hm : m ≤ 17592186044416) (hbase : base ≤ w.heap.size)
    (h : ∀ v' w', w'.ownsRow base e 1 v' m (nums k xs) → Below base w w' → wpList P ops Q rest (a.put o.dst v') w') : wpList P ops Q (o :: rest) a w := by
  cases p with
  | none =>
    obtain ⟨rfl, rfl⟩ := hnil rfl
    have e0 : xs = [] := List.eq_nil_of_length_eq_zero hl
    subst e0
    exact wpList_append_own_none hgd s x t ho base e i 1 ht hi v 0 [] hs hown hx (h v w hown (Below.refl _ _))
  | some ad =>
    refine wpList_append_own w hgd s x t ho base e i z 1 8 ht hi hz hsize hby hzs (by decide) v 0 [] hs hown ad m c (nums k xs) hx (by rw [nums_len, hl, Nat.mul_one]) ?_ ?_ (by unfold maxLen; omega) (by omega) hbase ?_
    · intro j u hj
      have hjl : j < xs.length := by
        rcases Nat.lt_or_ge j xs.length with h' | h'
        · exact h'
        · rw [List.getElem?_eq_none (by rw [nums_len]; exact h')] at hj; cases hj
      obtain ⟨b, off, e1, hlt, hc⟩ := hrow j hjl
      injection e1 with e1
      subst e1
      unfold nums at hj
      rw [List.getElem?_map, List.getElem?_eq_getElem hjl] at hj
      injection hj with hj
      rw [addr_plus, hc, ← hj]
    · intro u hu
      unfold nums at hu
      rw [List.mem_map] at hu
      obtain ⟨y, _, rfl⟩ := hu
      rfl
    · intro v' w' ho' hgr _
      have hb : Below base w w' := (Below.refl _ _).grown hgr hbase (fun k hk => (hown.lt k hk).1)
      rw [Nat.zero_add, List.nil_append] at ho'
      exact h v' w' ho' hb
end Go.Proofs.YtfkkodcppaakjaaGreatDoor
/- Contracts at every world that has grown out of the first one. -/
namespace Go.Proofs.YtfkkodcppaakjaaGreatDoor
open Go.RowKit

/-- A row of compartments that was made, as a slice that holds them, later on. -/
theorem ints_row {W : World} {B : Nat} {p : Option Addr} {c : Nat} {l : List Nat} (h : W.ownsRow B 3 1 (.slice p l.length c) l.length (ints l)) : NumRow .i64 W p (l.map fun i : Nat => (i : Int)) := by
  intro i hi
  rw [List.length_map] at hi
  rcases h.2 with ⟨hv, h0⟩ | ⟨g, cap, cur, hv, _⟩
  · omega
  · injection hv with e1 e2 e3
    subst e1
    have hc := h.cellAt i (by omega)
    unfold ints at hc
    rw [List.getElem?_map, List.getElem?_eq_getElem hi] at hc
    have hlt := World.block_lt_of_cell? W _ (show W.cell? ⟨g, i, none⟩ = some (.int .i64 (l[i] : Nat)) from hc)
    exact ⟨g, 0, rfl, hlt, by rw [Nat.zero_add, List.getElem_map]; exact hc⟩

/-- A world that has grown out of w. -/
def St (w W : World) : Prop := BTab W ∧ Below w.heap.size w W
theorem St.start {w : World} (h : BTab w) : St w w := ⟨h, Below.refl _ _⟩
theorem St.next {w W W' : World} (h : St w W) (hb : Below W.heap.size W W') : St w W' := ⟨h.1.below hb, h.2.trans (hb.mono h.2.size)⟩
/-- A contract at every world that has grown out of w. -/
def Says (w : World) (f : Nat) (args : Array Value) (v : Value) : Prop := ∀ W, St w W → Calls Tryz.prog f args W fun e w' => e = .returned v ∧ St w w'
theorem says_of {w : World} {f : Nat} {args : Array Value} {v : Value} (h : ∀ W, BTab W → Calls Tryz.prog f args W fun e w' => e = .returned v ∧ Below W.heap.size W w') : Says w f args v :=
  fun W hW => (h W hW.1).mono fun _ _ ⟨h1, h2⟩ => ⟨h1, hW.next h2⟩
theorem says_same {w : World} {f : Nat} {args : Array Value} {v : Value} (h : ∀ W, Calls Tryz.prog f args W fun e w' => e = .returned v ∧ W = w') : Says w f args v :=
  fun W hW => (h W).mono fun _ _ ⟨h1, h2⟩ => ⟨h1, by rw [← h2]; exact hW⟩
/-- A call that gives a row of compartments. -/
def Lists (w : World) (f : Nat) (args : Array Value) (l : List Nat) : Prop := ∀ W, St w W → Calls Tryz.prog f args W fun e w' => ∃ p c, e = .returned (.slice p l.length c) ∧ NumRow .i64 w' p (l.map fun i : Nat => (i : Int)) ∧ St w w' ∧ Below W.heap.size W w'
theorem lists_of {w : World} {f : Nat} {args : Array Value} {l : List Nat} (h : ∀ W, BTab W → Calls Tryz.prog f args W (IntRow W l)) : Lists w f args l :=
  fun W hW => (h W hW.1).mono fun _ _ ⟨p, c, h1, h2, h3⟩ => ⟨p, c, h1, ints_row h3, hW.next h2, h2⟩

end Go.Proofs.YtfkkodcppaakjaaGreatDoor
/- label's own Text, by its contract. -/
namespace Go.Proofs.YtfkkodcppaakjaaGreatDoor
open Go.RowKit

def strs (l : List Nat) : List Value := l.map fun i => .string (digsB i)
theorem strs_len (l : List Nat) : (strs l).length = l.length := by simp [strs]

set_option maxRecDepth 100000 in
set_option maxHeartbeats 4000000 in
theorem text_any_lb (a : Nat) (w : World) (ha : a < 18446744073709551616) (hT : BTab w) :
    Calls Tryz.prog 86 #[.int .u64 a] w fun e w' => e = .returned (.string ⟨(textN a).toArray⟩) ∧ Below w.heap.size w w' := by
  by_cases h0 : a = 0
  · subst h0
    go_enter Tryz.func86, Tryz.ntmps86
    go_wp2
    go_ret
    exact ⟨rfl, Below.refl _ _⟩
  · have cL := list_any a w ha hT
    obtain ⟨n, hn⟩ := list_nonzero a h0 ha
    have hll := listTo_len a 64
    have hmem := Lib.hid (list_below a)
    have HT : Hid (textN a = Lib.join ((listTo a 64).map Lib.decDigits) [43]) := by show textN a = _; unfold textN; rw [if_neg h0]
    have hne : ((a : Int) == 0) = false := beq_false_of_ne (by omega)
    obtain ⟨i0, hi, hz0, hz1, hz2⟩ := info_parts strInfo
    generalize textN a = tx at *
    generalize listTo a 64 = l at *
    have HN := Lib.hid hn
    clear hn
    go_enter Tryz.func86, Tryz.ntmps86
    go_wp2_with fail
    refine cL.mono ?_
    rintro e w1 ⟨p, c, rfl, hb1, ho1⟩
    have hrow := ints_row ho1
    have hB1 := hb1.size
    clear cL ho1
    go_wp2_with fail
    go_loopg [3, 11] l.length (fun g v i wr => ∃ k : Nat, k + g = l.length ∧ i = .int .i64 k ∧ Below w1.heap.size w1 wr ∧ Hid (wr.ownsRow w1.heap.size 9 1 v k (strs (l.take k))))
    case atStart => exact ⟨0, by omega, rfl, Below.refl _ _, by rw [List.take_zero]; exact World.ownsRow_nil _ _ _ _⟩
    case round =>
      obtain ⟨k, hk, rfl, hbr, ho⟩ := hrel
      by_cases hlt : k < l.length
      · obtain ⟨b1, o1, rfl, _, h1c⟩ := hrow.at k (by rw [List.length_map]; exact hlt)
        have g1 := h1c wr hbr
        rw [List.getElem_map] at g1
        have hsn : Hid (strs (l.take (k + 1)) = strs (l.take k) ++ [.string (digsB l[k])]) := by
          show strs (l.take (k + 1)) = _
          rw [List.take_succ_eq_append_getElem hlt]
          unfold strs
          rw [List.map_append]; rfl
        have hi100 := hmem.out l[k] (List.getElem_mem hlt)
        generalize l[k] = x at *
        have cI : Calls Tryz.prog 132 #[.int .i64 x] wr fun e w' => e = .returned (.string (digsB x)) ∧ wr = w' := (Tryz.strconv_Itoa_small x hi100 wr).mono fun _ _ ⟨h1, h2⟩ => ⟨h1, h2.symm⟩
        generalize digsB x = dx at *
        have hx0 : (0 : Int) ≤ (x : Int) := Int.natCast_nonneg _
        have hkk : (0 : Int) ≤ (k : Int) := Int.natCast_nonneg _
        have hki : (k : Int) < (l.length : Int) := by omega
        have ho' := ho.out
        have hbsz := hbr.size
        clear h1c ho HT
        go_wp2_with (first
          | (go_at_call 132; refine cI.mono ?_; rintro e w' ⟨rfl, rfl⟩)
          | (at_builtin; refine wpList_append_own _ rfl _ _ 75 rfl w1.heap.size 9 i0 (.string ⟨#[]⟩) 1 16 Tryz.underlying75 hi hz0 hz1 hz2 rfl (by decide) _ _ _ rfl (ho'.alloc _) ⟨wr.heap.size, 0, none⟩ 1 1 [.string dx] rfl rfl ?c1 ?c2 ?c3 ?c4 ?c5 ?_))
        case c1 =>
          intro j u hj
          match j, hj with
          | 0, hj => simp at hj; subst hj; simp [Addr.add]
        case c2 => intro u hu; simp at hu; subst hu; rfl
        case c3 => unfold maxLen; omega
        case c4 => omega
        case c5 => simp; omega
        intro v' w3 hown' hgrow _
        have hb2 : Below w1.heap.size w1 w3 := (hbr.alloc (by omega) _).grown hgrow (by simp; omega) (fun g hg => (ho'.lt g hg).1)
        have HO : Hid (w3.ownsRow w1.heap.size 9 1 v' (k + 1) (strs (l.take (k + 1)))) := by rw [hsn.out]; exact hown'
        clear ho' hown' hgrow cI hsn
        go_wp2_with fail
        go_roundg (gk - 1)
        case rel => exact ⟨k + 1, by omega, by go_num, hb2, HO⟩
        case measure => omega
      · obtain rfl : k = l.length := by omega
        have ho' := ho.out
        rw [List.take_length, HN.out] at ho'
        obtain ⟨g, cap, rfl, hcap, hg1, hg2⟩ := own_some ho'
        have hcell : ∀ (j : Nat) x, (l.map digsB)[j]? = some x → wr.cell? ⟨g, 0 + j, none⟩ = some (.string x) := by
          intro j x hx
          have hj : j < l.length := by
            rcases Nat.lt_or_ge j l.length with h' | h'
            · exact h'
            · rw [List.getElem?_eq_none (by rw [List.length_map]; exact h')] at hx; cases hx
          have h1 := ho'.cellAt j (by have := HN.out; omega)
          rw [Nat.zero_add, h1]
          unfold strs
          rw [List.getElem?_map, List.getElem?_eq_getElem hj] at hx ⊢
          injection hx with hx
          rw [← hx]; rfl
        have hjl := join_le l hmem.out
        have cJ := Tryz.strings_Join g 0 cap (l.map digsB) ⟨#[43]⟩ wr hcell hg2 (by rw [List.length_map]; omega) (by rw [List.length_map, HN.out]; exact hcap) (by rw [digs_map]; exact Nat.le_trans hjl (by omega))
        rw [List.length_map, HN.out, digs_map, show (⟨#[43]⟩ : ByteArray).data.toList = [43] from rfl, ← HT.out] at cJ
        have hend := fun W (h : Below wr.heap.size wr W) => hb1.trans ((hbr.trans (h.mono hbr.size)).mono hB1)
        clear hcell ho ho' hjl HT hmem
        go_wp2_with fail
        refine cJ.mono ?_
        rintro e w5 ⟨rfl, hb5⟩
        have hend' := hend w5 hb5
        clear cJ hend hb5
        go_wp2_with fail
        go_ret
        exact ⟨rfl, hend'⟩
end Go.Proofs.YtfkkodcppaakjaaGreatDoor
