/- A hunk more in a row of the call's own; appends at one operation of a region that draws its order. -/
import Derived.Test.YtjmnbnlhahbcjaaHuRows
import Derived.Test.YtjmnbnlhahbcjaaDfCopy
import Derived.Test.YtjmnbnlhahbcjaaRegTree
import Derived.Test.YtjmnbnlhahbcjaaOwnAppend
import Derived.Laws.AppendOwnNone
namespace Go.Proofs.Ytjmnbnlhahbcjaa
open Go Go.RowKit

/-- A hunk more. -/
theorem HuOwn.push {B : Nat} {W W4 : World} {v v' v1 v2 : Value} {hs : List Hu} {us : List (Value × Value)} {o : Obj} {k : Int} {lo : Nat} {t1 t2 : List Tx} (h : HuOwn B W v hs us) (hlo : ∀ x ∈ v :: flatV us, ∀ g, x.ownBlock = some g → g < lo)
    (r1 : W.ownsRow B 9 1 v1 t1.length (t1.map Value.string)) (r2 : W.ownsRow B 9 1 v2 t2.length (t2.map Value.string)) (n1 : ∀ g, v1.ownBlock = some g → lo ≤ g) (n2 : ∀ g, v2.ownBlock = some g → lo ≤ g ∧ v1.ownBlock ≠ some g)
    (hgr : (W.alloc o).grownBy W4 v.ownBlock) (hrow : W4.ownsRow B 47 3 v' (hs.length + 1) (huCells hs us ++ [.int .i64 k, v1, v2])) (hbk : v'.ownBlock = v.ownBlock ∨ v'.ownBlock = some (W.alloc o).heap.size) :
    HuOwn B W4 v' (hs ++ [⟨k, t1, t2⟩]) (us ++ [(v1, v2)]) := by
  have hvlt : ∀ g, v.ownBlock = some g → g < lo := fun g hg => hlo v (.head _) g hg
  have hult : ∀ x ∈ flatV us, ∀ g, x.ownBlock = some g → g < lo := fun x hx g hg => hlo x (.tail _ hx) g hg
  have keep : ∀ {x : Value} {m : Nat} {cs : List Value}, W.ownsRow B 9 1 x m cs → Apart x v → W4.ownsRow B 9 1 x m cs := fun {x m cs} hr ha => by
    refine (hr.alloc o).kept hgr ?_
    cases hx : x.ownBlock with
    | none => exact .inl rfl
    | some g => exact .inr fun e => ha g hx e.symm
  have a1 : Apart v1 v := fun g hg e => by have := n1 g hg; have := hvlt g e; omega
  have a2 : Apart v2 v := fun g hg e => by have := (n2 g hg).1; have := hvlt g e; omega
  have sz : ∀ {x : Value} {m : Nat} {cs : List Value}, W.ownsRow B 9 1 x m cs → ∀ g, x.ownBlock = some g → g ≠ (W.alloc o).heap.size := fun hr g hg => by
    have := (hr.lt g hg).2
    rw [World.size_alloc]; omega
  have top : ∀ {x : Value} {m : Nat} {cs : List Value}, W.ownsRow B 9 1 x m cs → Apart x v → Apart x v' := fun hr ha g hg e => by
    rcases hbk with e' | e'
    · exact ha g hg (e' ▸ e)
    · rw [e'] at e
      injection e with e
      exact sz hr g hg e.symm
  refine ⟨by simp [h.len], ?_, fun i hi hi' => ?_, ?_, fun x hx => ?_⟩
  · rw [huCells_snoc _ _ _ _ h.len, List.length_append]; exact hrow
  · by_cases e : i < hs.length
    · have e' : i < us.length := by rw [← h.len]; exact e
      obtain ⟨s1, s2⟩ := h.subs i e e'
      have m1 : us[i].1 ∈ flatV us := flatV_mem.2 ⟨_, List.getElem_mem e', .inl rfl⟩
      have m2 : us[i].2 ∈ flatV us := flatV_mem.2 ⟨_, List.getElem_mem e', .inr rfl⟩
      simp only [List.getElem_append_left e, List.getElem_append_left e']
      exact ⟨keep s1 (h.top _ m1), keep s2 (h.top _ m2)⟩
    · have e1 : i = hs.length := by simp at hi; omega
      subst e1
      have hL := h.len
      simp only [List.getElem_append_right (Nat.le_refl hs.length), List.getElem_append_right (show us.length ≤ hs.length by omega)]
      simp only [hL, Nat.sub_self, List.getElem_cons_zero]
      exact ⟨keep r1 a1, keep r2 a2⟩
  · rw [flatV_snoc, List.pairwise_append]
    refine ⟨h.dis, ?_, fun x hx y hy => ?_⟩
    · refine List.Pairwise.cons (fun y hy => ?_) (List.pairwise_singleton _ _)
      rw [List.mem_singleton] at hy
      subst hy
      exact fun g hg e => (n2 g e).2 hg
    · intro g hg e
      have h1 := hult x hx g hg
      simp only [List.mem_cons, List.not_mem_nil, or_false] at hy
      rcases hy with rfl | rfl
      · have := n1 g e; omega
      · have := (n2 g e).1; omega
  · rw [flatV_snoc, List.mem_append] at hx
    rcases hx with hx | hx
    · obtain ⟨u, hu, e⟩ := flatV_mem.1 hx
      obtain ⟨i, hi, rfl⟩ := List.mem_iff_getElem.1 hu
      have := h.subs i (by rw [h.len]; exact hi) hi
      rcases e with rfl | rfl
      · exact top this.1 (h.top _ hx)
      · exact top this.2 (h.top _ hx)
    · simp only [List.mem_cons, List.not_mem_nil, or_false] at hx
      rcases hx with rfl | rfl
      · exact top r1 a1
      · exact top r2 a2
theorem HuOwn.nil (B : Nat) (W : World) : HuOwn B W (.slice none 0 0) [] [] := ⟨rfl, World.ownsRow_nil _ _ _ _, fun i hi => absurd hi (Nat.not_lt_zero _), .nil, fun x hx => by cases hx⟩
theorem HuOwn.mono {B B' : Nat} {W : World} {v : Value} {hs : List Hu} {us : List (Value × Value)} (h : HuOwn B W v hs us) (hB : B' ≤ B) : HuOwn B' W v hs us :=
  ⟨h.len, own_mono h.row hB, fun i hi hi' => ⟨own_mono (h.subs i hi hi').1 hB, own_mono (h.subs i hi hi').2 hB⟩, h.dis, h.top⟩
theorem HuOwn.all_lt {B : Nat} {W : World} {v : Value} {hs : List Hu} {us : List (Value × Value)} (h : HuOwn B W v hs us) : ∀ x ∈ v :: flatV us, ∀ g, x.ownBlock = some g → g < W.heap.size := fun x hx g hg => by
  rcases List.mem_cons.1 hx with rfl | hx
  · exact (h.row.lt g hg).2
  · exact (h.lt x hx g hg).2
theorem hu_cells_new (w : World) (k : Int) (u v : Value) (T : TypeId) : ∀ i x, [Value.int .i64 k, u, v][i]? = some x → (w.alloc (.cells #[.int .i64 k, u, v] T)).cell? ((⟨w.heap.size, 0, none⟩ : Addr).add i) = some x := by
  intro i x hk
  match i, hk with
  | 0, hk => simp at hk; subst hk; simp [Addr.add]
  | 1, hk => simp at hk; subst hk; simp [Addr.add]
  | 2, hk => simp at hk; subst hk; simp [Addr.add]
/-- A list of texts copied behind a row of the call's own, at one operation. -/
theorem wp_apptx {P : Program} {o : Oper} {a : Act} {w : World} {K : Act → World → Prop} {Q : Exit → Act → World → Prop} (s x : Operand) (t : TypeId)
    (ho : o.op = .call { callee := .builtin .append, args := #[s, x], argTypes := #[t, t] })
    (base : Nat) (e : TypeId) (i : TypeInfo) (z : Value) (ht : P.underlying t = some (.slice e)) (hi : P.info? e = some i) (hz : i.zero = some z)
    (hsize : i.size = 1) (hby : i.bytes = 16) (hzs : z.cells.size = 1)
    (v : Value) (m0 : Nat) (ys : List Tx) (hs : a.eval s = v) (hown : w.ownsRow base e 1 v m0 (ys.map Value.string))
    (q : Option Addr) (m c : Nat) (xs : List Tx) (hx : a.eval x = .slice q m c) (hl : xs.length = m) (hrow : TxP w q c xs)
    (hm : m0 + m ≤ 8796093022208) (hbase : base ≤ w.heap.size)
    (h : ∀ v' w', w'.ownsRow base e 1 v' (m0 + m) ((ys ++ xs).map Value.string) → w.grownBy w' v.ownBlock → (v'.ownBlock = v.ownBlock ∨ v'.ownBlock = some w.heap.size) → K (a.put o.dst v') w') : Oper.wp P o a w K Q := by
  obtain ⟨hrow, hnil, -⟩ := hrow
  cases q with
  | none =>
    obtain ⟨h0, rfl⟩ := hnil rfl
    obtain rfl : m = 0 := hl.symm.trans h0
    have e0 : xs = [] := List.eq_nil_of_length_eq_zero hl
    subst e0
    have hr := run_append_owned_none (P := P) (w := w) base t o.type e i 1 ht hi v m0 (ys.map Value.string) hown
    unfold Oper.wp execOp
    simp only [ho, resolve, invoke, builtin, Sem.run_bind, Sem.run_pure, Result.andThen_ok, List.map_toArray, List.map_cons, List.map_nil, hs, hx, hr]
    exact h v w (by rw [List.append_nil]; exact hown) (World.grownBy.refl _ _) (.inl rfl)
  | some ad =>
    obtain ⟨v', w', hr, h2, h3, h4⟩ := run_append_blk (P := P) w base t o.type e i z 1 16 ht hi hz hsize hby hzs (by decide) v m0 (ys.map Value.string) hown ad m c (xs.map Value.string) (by rw [List.length_map, hl]; omega) (tx_cell hrow) (tx_one xs) (by unfold maxLen; omega) (by omega) hbase
    unfold Oper.wp execOp
    simp only [ho, resolve, invoke, builtin, Sem.run_bind, Sem.run_pure, Result.andThen_ok, List.map_toArray, List.map_cons, List.map_nil, hs, hx, hr]
    exact h v' w' (by rw [List.map_append]; exact h2) h3 h4
/-- Cells behind a row of the call's own, at one operation. -/
theorem wp_appblk {P : Program} {o : Oper} {a : Act} {w : World} {K : Act → World → Prop} {Q : Exit → Act → World → Prop} (s x : Operand) (t : TypeId)
    (ho : o.op = .call { callee := .builtin .append, args := #[s, x], argTypes := #[t, t] })
    (base : Nat) (e : TypeId) (i : TypeInfo) (z : Value) (size bytes : Nat) (ht : P.underlying t = some (.slice e)) (hi : P.info? e = some i) (hz : i.zero = some z)
    (hsize : i.size = size) (hby : i.bytes = bytes) (hzs : z.cells.size = size) (hsz : 0 < size)
    (v : Value) (n : Nat) (xs : List Value) (hs : a.eval s = v) (hown : w.ownsRow base e size v n xs)
    (ad : Addr) (m c : Nat) (news : List Value) (hx : a.eval x = .slice (some ad) m c) (hl : news.length = m * size) (hnews : ∀ j u, news[j]? = some u → w.cell? (ad.add j) = some u) (h1 : ∀ u ∈ news, u.oneCell' = true)
    (h63 : n + m ≤ maxLen) (hbytes : (n + m) * bytes ≤ 140737488355328) (hbase : base ≤ w.heap.size)
    (h : ∀ v' w', w'.ownsRow base e size v' (n + m) (xs ++ news) → w.grownBy w' v.ownBlock → (v'.ownBlock = v.ownBlock ∨ v'.ownBlock = some w.heap.size) → K (a.put o.dst v') w') : Oper.wp P o a w K Q := by
  obtain ⟨v', w', hr, h2, h3, h4⟩ := run_append_blk (P := P) w base t o.type e i z size bytes ht hi hz hsize hby hzs hsz v n xs hown ad m c news hl hnews h1 h63 hbytes hbase
  unfold Oper.wp execOp
  simp only [ho, resolve, invoke, builtin, Sem.run_bind, Sem.run_pure, Result.andThen_ok, List.map_toArray, List.map_cons, List.map_nil, hs, hx, hr]
  exact h v' w' h2 h3 h4
theorem row_form {W : World} {B z : Nat} {e : TypeId} {v : Value} {n : Nat} {cs : List Value} (h : W.ownsRow B e z v n cs) : ∃ q c, v = .slice q n c := by
  rcases h.2 with ⟨hv, h0⟩ | ⟨g, cap, cur, hv, _⟩
  · exact ⟨none, 0, by rw [hv, h0]⟩
  · exact ⟨_, _, hv⟩
end Go.Proofs.Ytjmnbnlhahbcjaa
