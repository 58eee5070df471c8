/- A row of lines copied behind a row of the call's own; parts of a row. -/
import Derived.Test.YtdpikdkhemhmdaaViLines
import Derived.Test.YtdpikdkhemhmdaaOwnAppend
namespace Go.Proofs.Ytdpikdkhemhmdaa
open Go Go.RowKit

theorem liCells_app (xs ys : List Li) : liCells (xs ++ ys) = liCells xs ++ liCells ys := by simp [liCells]
theorem li_cell {w : World} {ad : Addr} {xs : List Li} (h : LiRow w (some ad) xs) : ∀ j u, (liCells xs)[j]? = some u → w.cell? (ad.add j) = some u := by
  intro j u hj
  have hjl : j < (liCells xs).length := by
    rcases Nat.lt_or_ge j (liCells xs).length with h' | h'
    · exact h'
    · rw [List.getElem?_eq_none h'] at hj; cases hj
  rw [liCells_len] at hjl
  have hi' : j / 4 < xs.length := by omega
  obtain ⟨b, off, e1, hlt, h0, h1, h2, h3⟩ := h (j / 4) hi'
  injection e1 with e1
  subst e1
  have hf := liCells_at xs (j / 4) (j % 4) hi' (Nat.mod_lt _ (by decide))
  have ej : j / 4 * 4 + j % 4 = j := by omega
  rw [ej, hj] at hf
  rw [addrAdd]
  have hr : j % 4 = 0 ∨ j % 4 = 1 ∨ j % 4 = 2 ∨ j % 4 = 3 := by omega
  rcases hr with r | r | r | r
  · rw [r] at hf
    rw [show off + j = off + j / 4 * 4 by omega, h0]; exact hf.symm
  · rw [r] at hf
    rw [show off + j = off + j / 4 * 4 + 1 by omega, h1]; exact hf.symm
  · rw [r] at hf
    rw [show off + j = off + j / 4 * 4 + 2 by omega, h2]; exact hf.symm
  · rw [r] at hf
    rw [show off + j = off + j / 4 * 4 + 3 by omega, h3]; exact hf.symm
theorem li_one (xs : List Li) : ∀ u ∈ liCells xs, u.oneCell' = true := by
  intro u hu
  unfold liCells at hu
  rw [List.mem_flatMap] at hu
  obtain ⟨y, _, hy⟩ := hu
  simp only [Li.vals, List.mem_cons, List.not_mem_nil, or_false] at hy
  rcases hy with rfl | rfl | rfl | rfl <;> rfl
theorem app_liS {P : Program} {w : World} {ops : Array Oper} {rest : List Oper} {o : Oper} {a : Act} {Q : Exit → Act → World → Prop} (hgd : o.guard = none) (s x : Operand) (t : TypeId)
    (ho : o.op = .call { callee := .builtin .append, args := #[s, x], argTypes := #[t, t] })
    (base : Nat) (e : TypeId) (i : TypeInfo) (z : Value) (ht : P.underlying t = some (.slice e)) (hi : P.info? e = some i) (hz : i.zero = some z) (hsize : i.size = 4) (hby : i.bytes = 40) (hzs : z.cells.size = 4)
    (v : Value) (m0 : Nat) (ys : List Li) (hs : a.eval s = v) (hown : w.ownsRow base e 4 v m0 (liCells ys)) (p : Option Addr) (m c : Nat) (xs : List Li) (hx : a.eval x = .slice p m c) (hl : xs.length = m) (hrow : LiRow w p xs) (hnil : p = none → m = 0 ∧ c = 0)
    (hm : m0 + m ≤ 3518437208883) (hbase : base ≤ w.heap.size)
    (h : ∀ v' w', w'.ownsRow base e 4 v' (m0 + m) (liCells (ys ++ xs)) → w.grownBy w' v.ownBlock → (v.ownBlock ≠ none → v'.ownBlock ≠ none) → wpList P ops Q rest (a.put o.dst v') w') : wpList P ops Q (o :: rest) a w := by
  cases p with
  | none =>
    obtain ⟨rfl, rfl⟩ := hnil rfl
    have e0 : xs = [] := List.eq_nil_of_length_eq_zero hl
    subst e0
    exact wpList_append_own_none hgd s x t ho base e i 4 ht hi v m0 (liCells ys) hs hown hx (h v w (by rw [List.append_nil]; exact hown) ⟨rfl, rfl, rfl, Nat.le_refl _, fun _ _ _ => rfl⟩ fun hg => hg)
  | some ad =>
    refine wpList_append_blk w hgd s x t ho base e i z 4 40 ht hi hz hsize hby hzs (by decide) v m0 (liCells ys) hs hown ad m c (liCells xs) hx (by rw [liCells_len, hl]) (li_cell hrow) (li_one xs) (by unfold maxLen; omega) (by omega) hbase ?_
    intro v' w' ho' hgr hbk
    refine h v' w' (by rw [liCells_app]; exact ho') hgr fun hg => ?_
    rcases hbk with hb | hb
    · rw [hb]; exact hg
    · rw [hb]; exact fun e => by cases e
theorem row_take {w : World} {p : Option Addr} {xs : List Li} (h : LiRow w p xs) (i : Nat) : LiRow w p (xs.take i) := fun j hj => by
  have hj' : j < xs.length := by rw [List.length_take] at hj; omega
  obtain ⟨b, off, e, hb, hc⟩ := h j hj'
  exact ⟨b, off, e, hb, by rw [List.getElem_take]; exact hc⟩
theorem row_drop {w : World} {b off : Nat} {xs : List Li} (h : LiRow w (some ⟨b, off, none⟩) xs) (i : Nat) : LiRow w (some ⟨b, off + i * 4, none⟩) (xs.drop i) := fun j hj => by
  have hj' : i + j < xs.length := by rw [List.length_drop] at hj; omega
  obtain ⟨b', off', e, hb, hc⟩ := h (i + j) hj'
  cases e
  refine ⟨b, off + i * 4, rfl, hb, ?_⟩
  rw [List.getElem_drop, show off + i * 4 + j * 4 = off + (i + j) * 4 by omega]
  exact hc
theorem own_ptr {W : World} {B : Nat} {e : TypeId} {v : Value} {n size : Nat} {cs : List Value} (h : W.ownsRow B e size v n cs) (hv : v.ownBlock ≠ none) : ∃ g cap, v = .slice (some ⟨g, 0, none⟩) n cap ∧ n ≤ cap ∧ B ≤ g ∧ g < W.heap.size := by
  rcases h.2 with ⟨rfl, _⟩ | ⟨g, cap, cur, hv', hB, hg, hc, _⟩
  · exact absurd rfl hv
  · exact ⟨g, cap, hv', hc, hB, (Array.getElem?_eq_some_iff.1 hg).1⟩
end Go.Proofs.Ytdpikdkhemhmdaa
