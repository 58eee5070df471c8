/- Rows of the call's own whose pointers lie in a row of the call's own: hunks that are written over and grown. -/
import Derived.Test.YtjmnbnlhahbcjaaHuTwin
namespace Go.Proofs.Ytjmnbnlhahbcjaa
open Go Go.RowKit

theorem RowsOk.alloc {S : Nat → Prop} {w0 W : World} {B : Nat} {rs : List RowT} (h : RowsOk S w0 W B rs) (o : Obj) : RowsOk S w0 (W.alloc o) B rs :=
  ⟨fun k hk => by obtain ⟨cs, ho⟩ := h.own k hk; exact ⟨cs, ho.alloc o⟩, h.dis, h.kept.alloc o, h.sub, h.hB⟩
theorem RowsOk.drew {S : Nat → Prop} {w0 W : World} {B : Nat} {rs : List RowT} (h : RowsOk S w0 W B rs) : RowsOk S w0 W.drew B rs :=
  ⟨h.own, h.dis, ⟨h.kept.os, h.kept.tape, h.kept.output, h.kept.size, h.kept.block⟩, h.sub, h.hB⟩
theorem RowsOk.grow {S : Nat → Prop} {w0 W w1 : World} {B : Nat} {rs : List RowT} (h : RowsOk S w0 W B rs) (i : Nat) (hi : i < rs.length) {v' : Value} {n' : Nat} {cs' : List Value} (hgr : W.grownBy w1 rs[i].v.ownBlock) (ho' : w1.ownsRow B rs[i].e rs[i].z v' n' cs')
    (hbk : v'.ownBlock = rs[i].v.ownBlock ∨ v'.ownBlock = some W.heap.size) : RowsOk S w0 w1 B (rs.set i ⟨v', rs[i].e, rs[i].z, n'⟩) := by
  have hsz := h.kept.size
  have hlt : ∀ k (hk : k < rs.length) b, rs[k].v.ownBlock = some b → b < W.heap.size := fun k hk b hb => by
    obtain ⟨cs, ho⟩ := h.own k hk
    exact (ho.lt b hb).2
  refine ⟨fun k hk => ?_, fun a b ha hb hab q hq => ?_, h.kept.grown hgr (fun g hg => h.sub i hi g hg), fun k hk q hq => ?_, h.hB⟩
  · rw [List.length_set] at hk
    by_cases e : i = k
    · subst e
      rw [List.getElem_set_self]
      exact ⟨cs', ho'⟩
    · rw [List.getElem_set_ne e]
      obtain ⟨cs, ho⟩ := h.own k hk
      refine ⟨cs, ho.kept hgr ?_⟩
      cases hv : rs[k].v.ownBlock with
      | none => exact .inl rfl
      | some g => exact .inr fun e' => h.dis k i hk hi (Ne.symm e) g hv e'.symm
  · rw [List.length_set] at ha hb
    have hnew : ∀ b, v'.ownBlock = some b → rs[i].v.ownBlock = some b ∨ W.heap.size ≤ b := fun b hb' => by
      rcases hbk with e | e
      · exact .inl (e ▸ hb')
      · rw [e] at hb'
        injection hb' with hb'
        exact .inr (by omega)
    by_cases e1 : i = a
    · subst e1
      rw [List.getElem_set_self] at hq
      rw [List.getElem_set_ne hab]
      rcases hnew q hq with h1 | h1
      · exact h.dis i b ha hb hab q h1
      · exact fun e => by have := hlt b hb q e; omega
    · rw [List.getElem_set_ne e1] at hq
      by_cases e2 : i = b
      · subst e2
        rw [List.getElem_set_self]
        intro e
        rcases hnew q e with h1 | h1
        · exact h.dis a i ha hb (fun e' => e1 e'.symm) q hq h1
        · have := hlt a ha q hq; omega
      · rw [List.getElem_set_ne e2]
        exact h.dis a b ha hb hab q hq
  · rw [List.length_set] at hk
    by_cases e : i = k
    · subst e
      rw [List.getElem_set_self] at hq
      rcases hbk with e' | e'
      · exact h.sub i hi q (e' ▸ hq)
      · rw [e'] at hq
        injection hq with hq
        exact .inr (by omega)
    · rw [List.getElem_set_ne e] at hq
      exact h.sub k hk q hq
/-- Where the u-th pointer of a row of hunks lies. -/
def slot (u : Nat) : Nat := u / 2 * 3 + 1 + u % 2
/-- A row of hunks at block g0, the rows that its pointers lead to, and the pointers. -/
structure Sp (S : Nat → Prop) (w0 W : World) (lo g0 c n : Nat) (rs : List RowT) (vs : Nat → Value) : Prop where
  ok : RowsOk S w0 W lo rs
  len : rs.length = 2 * n + 1
  top : ∀ h : 0 < rs.length, rs[0] = ⟨.slice (some ⟨g0, 0, none⟩) n c, 47, 3, n⟩
  sub : ∀ u (h : u + 1 < rs.length), rs[u + 1].e = 9 ∧ rs[u + 1].z = 1
  cel : ∀ u, u < 2 * n → W.cell? ⟨g0, slot u, none⟩ = some (vs u)
theorem slot_inj {u k : Nat} (h : slot u = slot k) : u = k := by unfold slot at h; omega
theorem slot_not (u i : Nat) : slot u ≠ i * 3 := by unfold slot; omega
section
variable {S : Nat → Prop} {w0 W : World} {lo g0 c n : Nat} {rs : List RowT} {vs : Nat → Value}
theorem Sp.apart (h : Sp S w0 W lo g0 c n rs vs) (u : Nat) (hu : u + 1 < rs.length) : rs[u + 1].v.ownBlock ≠ some g0 := fun e =>
  h.ok.dis (u + 1) 0 hu (by omega) (by omega) g0 e (by rw [h.top (by omega)]; rfl)
theorem Sp.lt (h : Sp S w0 W lo g0 c n rs vs) : lo ≤ g0 ∧ g0 < W.heap.size := by
  obtain ⟨cs, ho⟩ := h.ok.own 0 (by have := h.len; omega)
  exact ho.lt g0 (by rw [h.top (by have := h.len; omega)]; rfl)
theorem cell_kept {w w' : World} {row : Option Nat} (hg : w.grownBy w' row) {g j : Nat} (hlt : g < w.heap.size) (hne : row ≠ some g) : w'.cell? ⟨g, j, none⟩ = w.cell? ⟨g, j, none⟩ := World.cell?_of_block (a := ⟨g, j, none⟩) (hg.block g hlt (fun e => hne e.symm))
theorem Sp.store (h : Sp S w0 W lo g0 c n rs vs) (u : Nat) (hu : u + 1 < rs.length) {g : Nat} (hg : rs[u + 1].v.ownBlock = some g) (j : Nat) (x : Value) : Sp S w0 (W.setCell ⟨g, j, none⟩ x) lo g0 c n rs vs := by
  have hne : g ≠ g0 := fun e => h.apart u hu (e ▸ hg)
  exact ⟨h.ok.store (u + 1) hu hg j x, h.len, h.top, h.sub, fun k hk => (World.cell?_of_block (a := ⟨g0, slot k, none⟩) (heap_setCell_other W ⟨g, j, none⟩ g0 x (fun e => hne (by simp at e; omega)))).trans (h.cel k hk)⟩
theorem Sp.alloc (h : Sp S w0 W lo g0 c n rs vs) (o : Obj) : Sp S w0 (W.alloc o) lo g0 c n rs vs :=
  ⟨h.ok.alloc o, h.len, h.top, h.sub, fun k hk => (cell_kept (World.grownBy_alloc W o none) h.lt.2 (fun e => by cases e)).trans (h.cel k hk)⟩
theorem Sp.drew (h : Sp S w0 W lo g0 c n rs vs) : Sp S w0 W.drew lo g0 c n rs vs := ⟨h.ok.drew, h.len, h.top, h.sub, h.cel⟩
theorem Sp.grow {w1 : World} (h : Sp S w0 W lo g0 c n rs vs) (u : Nat) (hu : u + 1 < rs.length) {v' : Value} {n' : Nat} {cs' : List Value} (hgr : W.grownBy w1 rs[u + 1].v.ownBlock) (ho' : w1.ownsRow lo 9 1 v' n' cs')
    (hbk : v'.ownBlock = rs[u + 1].v.ownBlock ∨ v'.ownBlock = some W.heap.size) : Sp S w0 w1 lo g0 c n (rs.set (u + 1) ⟨v', 9, 1, n'⟩) vs := by
  obtain ⟨e1, e2⟩ := h.sub u hu
  have h1 := h.ok.grow (u + 1) hu hgr (v' := v') (n' := n') (cs' := cs') (by rw [e1, e2]; exact ho') hbk
  rw [e1, e2] at h1
  refine ⟨h1, by rw [List.length_set]; exact h.len, fun h0 => ?_, fun k hk => ?_, fun k hk => (cell_kept hgr h.lt.2 (h.apart u hu)).trans (h.cel k hk)⟩
  · rw [List.getElem_set_ne (by omega)]; exact h.top _
  · by_cases e : u + 1 = k + 1
    · simp only [← e]; rw [List.getElem_set_self]; exact ⟨rfl, rfl⟩
    · rw [List.getElem_set_ne e]; exact h.sub k (by rw [List.length_set] at hk; exact hk)
theorem Sp.top_cell (h : Sp S w0 W lo g0 c n rs vs) (j : Nat) (hj : j < n * 3) (x : Value) : (∃ y, W.cell? ⟨g0, j, none⟩ = some y) ∧ W.frozen? ⟨g0, j, none⟩ = false ∧ RowsOk S w0 (W.setCell ⟨g0, j, none⟩ x) lo rs := by
  have h0 : 0 < rs.length := by have := h.len; omega
  obtain ⟨cs, ho⟩ := h.ok.own 0 h0
  have e := h.top h0
  simp only [e] at ho
  obtain ⟨g, eg, hc⟩ := own_cell ho (by omega)
  injection eg with eg
  injection eg with eg
  subst eg
  exact ⟨(hc j hj).1, (hc j hj).2, h.ok.store 0 h0 (by rw [e]; rfl) j x⟩
theorem Sp.put (h : Sp S w0 W lo g0 c n rs vs) (u : Nat) (hu : u < 2 * n) (x : Value) : Sp S w0 (W.setCell ⟨g0, slot u, none⟩ x) lo g0 c n rs (fun k => if k = u then x else vs k) := by
  obtain ⟨⟨y, hy⟩, _, hok⟩ := h.top_cell (slot u) (by unfold slot; omega) x
  refine ⟨hok, h.len, h.top, h.sub, fun k hk => ?_⟩
  by_cases e : k = u
  · subst e
    rw [if_pos rfl]
    exact World.cell?_setCell_same (h := hy) ..
  · rw [if_neg e]
    exact (World.cell?_setCell_other (a := ⟨g0, slot u, none⟩) (b := ⟨g0, slot k, none⟩) (h := fun e' => e (slot_inj (by injection e' with _ e'; exact e'.symm))) ..).trans (h.cel k hk)
theorem Sp.at (h : Sp S w0 W lo g0 c n rs vs) (i : Nat) (hi : i < n) (x : Value) : Sp S w0 (W.setCell ⟨g0, i * 3, none⟩ x) lo g0 c n rs vs := by
  obtain ⟨⟨y, hy⟩, _, hok⟩ := h.top_cell (i * 3) (by omega) x
  refine ⟨hok, h.len, h.top, h.sub, fun k hk => ?_⟩
  exact (World.cell?_setCell_other (a := ⟨g0, i * 3, none⟩) (b := ⟨g0, slot k, none⟩) (h := fun e' => slot_not k i (by injection e' with _ e'; exact e'.symm)) ..).trans (h.cel k hk)
theorem Sp.head (h : Sp S w0 W lo g0 c n rs vs) : RowsOk S w0 W lo [⟨.slice (some ⟨g0, 0, none⟩) n c, 47, 3, n⟩] := by
  have h0 : 0 < rs.length := by have := h.len; omega
  have e := h.top h0
  refine ⟨fun i hi => ?_, fun i j hi hj hij => ?_, h.ok.kept, fun i hi k hk => ?_, h.ok.hB⟩
  · obtain rfl : i = 0 := by simp at hi; omega
    have := h.ok.own 0 h0
    simp only [e] at this
    exact this
  · simp at hi hj; omega
  · obtain rfl : i = 0 := by simp at hi; omega
    exact h.ok.sub 0 h0 k (by rw [e]; exact hk)
end
end Go.Proofs.Ytjmnbnlhahbcjaa
