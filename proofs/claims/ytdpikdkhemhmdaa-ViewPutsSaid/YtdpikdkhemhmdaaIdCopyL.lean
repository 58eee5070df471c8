/- A list of lines, copied behind an empty row of the call's own. -/
import Derived.Test.YtdpikdkhemhmdaaIdBase
namespace Go.Proofs.Ytdpikdkhemhmdaa
open Go Go.RowKit

theorem copy_li {P : Program} {w : World} {ops : Array Oper} {rest : List Oper} {o : Oper} {a : Act} {Q : Exit → Act → World → Prop} (hgd : o.guard = none) (s x : Operand) (t : TypeId)
    (ho : o.op = .call { callee := .builtin .append, args := #[s, x], argTypes := #[t, t] })
    (base : Nat) (e : TypeId) (i : TypeInfo) (z : Value) (ht : P.underlying t = some (.slice e)) (hi : P.info? e = some i) (hz : i.zero = some z) (hsize : i.size = 4) (hby : i.bytes = 40) (hzs : z.cells.size = 4)
    (v : Value) (hs : a.eval s = v) (hown : w.ownsRow base e 4 v 0 []) (p : Option Addr) (m c : Nat) (xs : List Li) (hx : a.eval x = .slice p m c) (hl : xs.length = m) (hrow : LiRow w p xs) (hnil : p = none → m = 0 ∧ c = 0)
    (hm : m ≤ 3518437208883) (hbase : base ≤ w.heap.size)
    (h : ∀ v' w', w'.ownsRow base e 4 v' m (liCells xs) → Below base w w' → wpList P ops Q rest (a.put o.dst v') w') : wpList P ops Q (o :: rest) a w := by
  cases p with
  | none =>
    obtain ⟨rfl, rfl⟩ := hnil rfl
    have e0 : xs = [] := List.eq_nil_of_length_eq_zero hl
    subst e0
    exact wpList_append_own_none hgd s x t ho base e i 4 ht hi v 0 [] hs hown hx (h v w hown (Below.refl _ _))
  | some ad =>
    refine wpList_append_own w hgd s x t ho base e i z 4 40 ht hi hz hsize hby hzs (by decide) v 0 [] hs hown ad m c (liCells xs) hx (by rw [liCells_len, hl]) ?_ ?_ (by unfold maxLen; omega) (by omega) hbase ?_
    · intro j u hj
      have hjl : j < (liCells xs).length := by
        rcases Nat.lt_or_ge j (liCells xs).length with h' | h'
        · exact h'
        · rw [List.getElem?_eq_none h'] at hj; cases hj
      rw [liCells_len] at hjl
      have hi' : j / 4 < xs.length := by omega
      obtain ⟨b, off, e1, hlt, h0, h1, h2, h3⟩ := hrow (j / 4) hi'
      injection e1 with e1
      subst e1
      have hf := liCells_at xs (j / 4) (j % 4) hi' (Nat.mod_lt _ (by decide))
      have ej : j / 4 * 4 + j % 4 = j := by omega
      rw [ej, hj] at hf
      rw [addrAdd]
      have hr : j % 4 = 0 ∨ j % 4 = 1 ∨ j % 4 = 2 ∨ j % 4 = 3 := by omega
      rcases hr with r | r | r | r
      · rw [r] at hf
        rw [show off + j = off + j / 4 * 4 by omega, h0]; exact hf.symm
      · rw [r] at hf
        rw [show off + j = off + j / 4 * 4 + 1 by omega, h1]; exact hf.symm
      · rw [r] at hf
        rw [show off + j = off + j / 4 * 4 + 2 by omega, h2]; exact hf.symm
      · rw [r] at hf
        rw [show off + j = off + j / 4 * 4 + 3 by omega, h3]; exact hf.symm
    · intro u hu
      unfold liCells at hu
      rw [List.mem_flatMap] at hu
      obtain ⟨y, _, hy⟩ := hu
      simp only [Li.vals, List.mem_cons, List.not_mem_nil, or_false] at hy
      rcases hy with rfl | rfl | rfl | rfl <;> rfl
    · intro v' w' ho' hgr _
      have hb : Below base w w' := (Below.refl _ _).grown hgr hbase (fun k hk => (hown.lt k hk).1)
      rw [Nat.zero_add, List.nil_append] at ho'
      exact h v' w' ho' hb
/-- The line that is laid behind the lines. -/
def seven : Li := ⟨0, 7, 0, ⟨#[]⟩⟩
theorem cells_four (w : World) (x : Li) (T : TypeId) : ∀ j u, x.vals[j]? = some u → (w.alloc (.cells #[.int .u64 x.u, .int .i64 x.n, .int .i64 x.r, .string x.s] T)).cell? ((⟨w.heap.size, 0, none⟩ : Addr).add j) = some u := by
  intro j u hj
  unfold Li.vals at hj
  match j, hj with
  | 0, hj => simp at hj; subst hj; simp [Addr.add]
  | 1, hj => simp at hj; subst hj; simp [Addr.add]
  | 2, hj => simp at hj; subst hj; simp [Addr.add]
  | 3, hj => simp at hj; subst hj; simp [Addr.add]
theorem liRow_prefix {w : World} {p : Option Addr} {xs : List Li} {x : Li} (h : LiRow w p (xs ++ [x])) : LiRow w p xs := fun i hi => by
  obtain ⟨b, off, e, hlt, hc⟩ := h i (by simp; omega)
  refine ⟨b, off, e, hlt, ?_⟩
  rw [List.getElem_append_left hi] at hc
  exact hc
end Go.Proofs.Ytdpikdkhemhmdaa
