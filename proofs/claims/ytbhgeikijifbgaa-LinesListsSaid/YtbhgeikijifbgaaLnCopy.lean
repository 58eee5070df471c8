/- A list of lines, copied behind an empty row of the call's own; one line's Rev written. -/
import Derived.Test.YtbhgeikijifbgaaTxRow
import Derived.Laws.AppendOwnNone
namespace Go.Proofs.Ytbhgeikijifbgaa
open Go.RowKit

theorem copy_lines {P : Program} {w : World} {ops : Array Oper} {rest : List Oper} {o : Oper} {a : Act} {Q : Exit → Act → World → Prop} (hgd : o.guard = none) (s x : Operand) (t : TypeId)
    (ho : o.op = .call { callee := .builtin .append, args := #[s, x], argTypes := #[t, t] })
    (base : Nat) (e : TypeId) (i : TypeInfo) (z : Value) (ht : P.underlying t = some (.slice e)) (hi : P.info? e = some i) (hz : i.zero = some z) (hsize : i.size = 4) (hby : i.bytes = 40) (hzs : z.cells.size = 4)
    (v : Value) (hs : a.eval s = v) (hown : w.ownsRow base e 4 v 0 []) (p : Option Addr) (m c : Nat) (xs : List Ln) (hx : a.eval x = .slice p m c) (hl : xs.length = m) (hrow : LnRow w p xs) (hnil : p = none → m = 0 ∧ c = 0)
    (hm : m ≤ 3518437208883) (hbase : base ≤ w.heap.size)
    (h : ∀ v' w', w'.ownsRow base e 4 v' m (flat xs) → Below base w w' → wpList P ops Q rest (a.put o.dst v') w') : wpList P ops Q (o :: rest) a w := by
  cases p with
  | none =>
    obtain ⟨rfl, rfl⟩ := hnil rfl
    have e0 : xs = [] := List.eq_nil_of_length_eq_zero hl
    subst e0
    exact wpList_append_own_none hgd s x t ho base e i 4 ht hi v 0 [] hs hown hx (h v w hown (Below.refl _ _))
  | some ad =>
    refine wpList_append_own w hgd s x t ho base e i z 4 40 ht hi hz hsize hby hzs (by decide) v 0 [] hs hown ad m c (flat xs) hx (by rw [flat_len, hl]) ?_ ?_ (by unfold maxLen; omega) (by omega) hbase ?_
    · intro j u hj
      have hjl : j < (flat xs).length := by
        rcases Nat.lt_or_ge j (flat xs).length with h' | h'
        · exact h'
        · rw [List.getElem?_eq_none h'] at hj; cases hj
      rw [flat_len] at hjl
      have hi' : j / 4 < xs.length := by omega
      obtain ⟨b, off, e1, hlt, h0, h1, h2, h3⟩ := hrow (j / 4) hi'
      injection e1 with e1
      subst e1
      have hf := flat_at xs (j / 4) (j % 4) hi' (Nat.mod_lt _ (by decide))
      have ej : j / 4 * 4 + j % 4 = j := by omega
      rw [ej, hj] at hf
      rw [addr_add]
      have hr : j % 4 = 0 ∨ j % 4 = 1 ∨ j % 4 = 2 ∨ j % 4 = 3 := by omega
      rcases hr with r | r | r | r
      · rw [r] at hf
        rw [show off + j = off + j / 4 * 4 by omega, h0]; exact hf.symm
      · rw [r] at hf
        rw [show off + j = off + j / 4 * 4 + 1 by omega, h1]; exact hf.symm
      · rw [r] at hf
        rw [show off + j = off + j / 4 * 4 + 2 by omega, h2]; exact hf.symm
      · rw [r] at hf
        rw [show off + j = off + j / 4 * 4 + 3 by omega, h3]; exact hf.symm
    · intro u hu
      unfold flat at hu
      rw [List.mem_flatMap] at hu
      obtain ⟨y, _, hy⟩ := hu
      simp only [Ln.vals, List.mem_cons, List.not_mem_nil, or_false] at hy
      rcases hy with rfl | rfl | rfl | rfl <;> rfl
    · intro v' w' ho' hgr _
      have hb : Below base w w' := (Below.refl _ _).grown hgr hbase (fun k hk => (hown.lt k hk).1)
      rw [Nat.zero_add, List.nil_append] at ho'
      exact h v' w' ho' hb

/-- One line's Rev. -/
def setRev (xs : List Ln) (k : Nat) (r : Int) : List Ln := xs.modify k fun x => { x with r := r }
theorem setRev_len (xs : List Ln) (k : Nat) (r : Int) : (setRev xs k r).length = xs.length := by simp [setRev]
theorem flat_set : ∀ (xs : List Ln) (k : Nat) (r : Int), k < xs.length → (flat xs).set (k * 4 + 2) (.int .i64 r) = flat (setRev xs k r)
  | x :: xs, 0, r, _ => by
    simp only [setRev, List.modify_zero_cons, flat_cons]; rfl
  | x :: xs, k + 1, r, h => by
    have ih := flat_set xs k r (Nat.lt_of_succ_lt_succ h)
    unfold setRev at ih ⊢
    rw [List.modify_succ_cons, flat_cons, flat_cons, ← ih, List.set_append]
    have hl : (Ln.vals x).length = 4 := rfl
    rw [if_neg (by omega), hl]
    congr 2; omega
end Go.Proofs.Ytbhgeikijifbgaa
