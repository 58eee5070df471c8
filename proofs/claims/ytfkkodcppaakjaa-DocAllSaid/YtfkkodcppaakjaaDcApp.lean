/- An own row of lines with a row of lines behind it; slices.Insert at the end. -/
import Derived.Test.YtfkkodcppaakjaaDcPlace
import Derived.Test.YtfkkodcppaakjaaOwnAppend
namespace Go.Proofs.Ytfkkodcppaakjaa
open Go Go.RowKit Go.Maps

theorem liCells_app (xs ys : List Li) : liCells (xs ++ ys) = liCells xs ++ liCells ys := by simp [liCells]
theorem li_cell {w : World} {ad : Addr} {xs : List Li} (h : LiRow w (some ad) xs) : ∀ j u, (liCells xs)[j]? = some u → w.cell? (ad.add j) = some u := by
  intro j u hj
  have hjl : j < (liCells xs).length := by
    rcases Nat.lt_or_ge j (liCells xs).length with h' | h'
    · exact h'
    · rw [List.getElem?_eq_none h'] at hj; cases hj
  rw [liCells_len] at hjl
  have hi' : j / 4 < xs.length := by omega
  obtain ⟨b, off, e1, hlt, h0, h1, h2, h3⟩ := h (j / 4) hi'
  injection e1 with e1
  subst e1
  have hf := liCells_at xs (j / 4) (j % 4) hi' (Nat.mod_lt _ (by decide))
  have ej : j / 4 * 4 + j % 4 = j := by omega
  rw [ej, hj] at hf
  rw [addrAdd]
  have hr : j % 4 = 0 ∨ j % 4 = 1 ∨ j % 4 = 2 ∨ j % 4 = 3 := by omega
  rcases hr with r | r | r | r
  · rw [r] at hf
    rw [show off + j = off + j / 4 * 4 by omega, h0]; exact hf.symm
  · rw [r] at hf
    rw [show off + j = off + j / 4 * 4 + 1 by omega, h1]; exact hf.symm
  · rw [r] at hf
    rw [show off + j = off + j / 4 * 4 + 2 by omega, h2]; exact hf.symm
  · rw [r] at hf
    rw [show off + j = off + j / 4 * 4 + 3 by omega, h3]; exact hf.symm
theorem li_one (xs : List Li) : ∀ u ∈ liCells xs, u.oneCell' = true := by
  intro u hu
  unfold liCells at hu
  rw [List.mem_flatMap] at hu
  obtain ⟨y, _, hy⟩ := hu
  simp only [Li.vals, List.mem_cons, List.not_mem_nil, or_false] at hy
  rcases hy with rfl | rfl | rfl | rfl <;> rfl
theorem app_li {P : Program} {w : World} {ops : Array Oper} {rest : List Oper} {o : Oper} {a : Act} {Q : Exit → Act → World → Prop} (hgd : o.guard = none) (s x : Operand) (t : TypeId)
    (ho : o.op = .call { callee := .builtin .append, args := #[s, x], argTypes := #[t, t] })
    (base : Nat) (e : TypeId) (i : TypeInfo) (z : Value) (ht : P.underlying t = some (.slice e)) (hi : P.info? e = some i) (hz : i.zero = some z) (hsize : i.size = 4) (hby : i.bytes = 40) (hzs : z.cells.size = 4)
    (v : Value) (m0 : Nat) (ys : List Li) (hs : a.eval s = v) (hown : w.ownsRow base e 4 v m0 (liCells ys)) (p : Option Addr) (m c : Nat) (xs : List Li) (hx : a.eval x = .slice p m c) (hl : xs.length = m) (hrow : LiRow w p xs) (hnil : p = none → m = 0 ∧ c = 0)
    (hm : m0 + m ≤ 3518437208883) (hbase : base ≤ w.heap.size)
    (h : ∀ v' w', w'.ownsRow base e 4 v' (m0 + m) (liCells (ys ++ xs)) → w.grownBy w' v.ownBlock → (∀ g, v'.ownBlock = some g → v.ownBlock = some g ∨ w.heap.size ≤ g) → wpList P ops Q rest (a.put o.dst v') w') : wpList P ops Q (o :: rest) a w := by
  cases p with
  | none =>
    obtain ⟨rfl, rfl⟩ := hnil rfl
    have e0 : xs = [] := List.eq_nil_of_length_eq_zero hl
    subst e0
    exact wpList_append_own_none hgd s x t ho base e i 4 ht hi v m0 (liCells ys) hs hown hx (h v w (by rw [List.append_nil]; exact hown) ⟨rfl, rfl, rfl, Nat.le_refl _, fun _ _ _ => rfl⟩ fun g hg => .inl hg)
  | some ad =>
    refine wpList_append_blk w hgd s x t ho base e i z 4 40 ht hi hz hsize hby hzs (by decide) v m0 (liCells ys) hs hown ad m c (liCells xs) hx (by rw [liCells_len, hl]) (li_cell hrow) (li_one xs) (by unfold maxLen; omega) (by omega) hbase ?_
    intro v' w' ho' hgr hbk
    refine h v' w' (by rw [liCells_app]; exact ho') hgr fun g hg => ?_
    rcases hbk with hb | hb
    · exact .inl (by rw [← hb]; exact hg)
    · rw [hb] at hg
      injection hg with hg
      exact .inr (by omega)
theorem lineInfo : (Try.prog.info? 26).map (fun i => (i.zero, i.size, i.bytes)) = some (some (.agg #[.int .u64 0, .int .i64 0, .int .i64 0, .string ⟨#[]⟩]), 4, 40) := by kernel_rfl
/-- What Insert leaves of an own row. -/
def InsSays (w : World) (B : Nat) (v : Value) (n : Nat) (ys : List Li) (e : Ending) (w' : World) : Prop :=
  ∃ v', e = .returned v' ∧ w'.ownsRow B 26 4 v' n (liCells ys) ∧ w.grownBy w' v.ownBlock ∧ ∀ g, v'.ownBlock = some g → v.ownBlock = some g ∨ w.heap.size ≤ g
set_option maxRecDepth 100000 in
set_option maxHeartbeats 2000000 in
theorem insert_end (w : World) (B : Nat) (v : Value) (n : Nat) (xs : List Li) (hn : xs.length = n) (hown : w.ownsRow B 26 4 v n (liCells xs)) (hB : B ≤ w.heap.size) (p : Option Addr) (m c : Nat) (ls : List Li) (hm : ls.length = m) (hr : LiRow w p ls) (hnil : p = none → m = 0 ∧ c = 0) (hnm : n + m ≤ 3518437208883) :
    Calls Try.prog 32 #[v, .int .i64 n, .slice p m c] w (InsSays w B v (n + m) (xs ++ ls)) := by
  obtain ⟨i0, hi, hz0, hz1, hz2⟩ := info_parts lineInfo
  have hsh := row_shape hn hown
  have hn0 : (0 : Int) ≤ (n : Int) := by omega
  have HM := Lib.hid hm
  have HN := Lib.hid hn
  have HOW := Lib.hid hown
  clear hm hn
  by_cases hm0 : m = 0
  · subst hm0
    have hl0 : ls = [] := List.eq_nil_of_length_eq_zero HM.out
    subst hl0
    have hfin : InsSays w B v (n + 0) (xs ++ []) (.returned v) w := ⟨v, rfl, by rw [List.append_nil]; exact hown, ⟨rfl, rfl, rfl, Nat.le_refl _, fun _ _ _ => rfl⟩, fun g hg => .inl hg⟩
    have HF := Lib.hid hfin
    clear hfin hown HOW hr HM
    refine Calls.mono (R := fun e w' => e = .returned v ∧ w = w') ?_ (by rintro e w' ⟨rfl, rfl⟩; exact HF.out)
    rcases hsh with ⟨rfl, rfl⟩ | ⟨g, cap, rfl, _, _, hcap, hcm, _, _⟩
    · have e0 : n = 0 := HN.out.symm
      subst e0
      go_enter Try.func32, Try.ntmps32
      go_wp2
      go_ret
      exact ⟨rfl, rfl⟩
    · unfold maxLen at hcm
      go_enter Try.func32, Try.ntmps32
      go_wp2
      all_goals (go_ret; exact ⟨rfl, rfl⟩)
  · have hb0 : ((m : Int) == 0) = false := beq_false_of_ne (by omega)
    have heq : ((n : Int) == (n : Int)) = true := beq_self_eq_true _
    rcases hsh with ⟨rfl, rfl⟩ | ⟨g, cap, rfl, _, _, hcap, hcm, _, _⟩
    · have e0 : n = 0 := HN.out.symm
      subst e0
      go_enter Try.func32, Try.ntmps32
      go_wp2_with (first
        | (at_builtin; refine app_li rfl _ _ 22 rfl B 26 i0 (.agg #[.int .u64 0, .int .i64 0, .int .i64 0, .string ⟨#[]⟩]) Try.underlying22 hi hz0 hz1 hz2 rfl _ 0 [] rfl HOW.out p m c ls rfl HM.out hr hnil (by omega) hB ?_; intro v1 w1 own1 hg1 hk1; have HO1 := Lib.hid own1; have HG1 := Lib.hid hg1; have HK1 := Lib.hid hk1; clear own1 hg1 hk1))
      go_ret
      exact ⟨v1, rfl, HO1.out, HG1.out, HK1.out⟩
    · unfold maxLen at hcm
      go_enter Try.func32, Try.ntmps32
      go_wp2_with (first
        | (at_builtin; refine app_li rfl _ _ 22 rfl B 26 i0 (.agg #[.int .u64 0, .int .i64 0, .int .i64 0, .string ⟨#[]⟩]) Try.underlying22 hi hz0 hz1 hz2 rfl _ n xs rfl HOW.out p m c ls rfl HM.out hr hnil (by omega) hB ?_; intro v1 w1 own1 hg1 hk1; have HO1 := Lib.hid own1; have HG1 := Lib.hid hg1; have HK1 := Lib.hid hk1; clear own1 hg1 hk1))
      all_goals (go_ret; exact ⟨v1, rfl, HO1.out, HG1.out, HK1.out⟩)
end Go.Proofs.Ytfkkodcppaakjaa
