/- Rows of texts and of numbers; rows of the call's own that are written over and grown, and what stays as it was. -/
import Derived.Test.YtjmnbnlhahbcjaaBase
import Derived.Test.YtjmnbnlhahbcjaaOwnAppend
import Derived.Laws.OwnMore
import Derived.SliceStrings
import Derived.Maps.AppendAt
import Derived.ProofKit
import Derived.Deep.Slices
import Derived.Deep.Fields
import Derived.Deep.RegionHeld3
import Derived.BigQuiet
import Derived.ChangeSame
import Derived.StillTactics
import Derived.OwnWalk
import Derived.OpenShut
import Derived.Deep.LoopGhost
import Derived.Deep.QuietTactic
import Derived.Laws.AppendOwnNone
namespace Go.Proofs.Ytjmnbnlhahbcjaa
open Go Go.RowKit

theorem belowDN {B : Nat} {w W : World} (h : Below B w W) (q : Nat) : Below B w (W.drewN q) := ⟨h.os, h.tape, h.output, h.size, h.block⟩
theorem addrAdd (b off i : Nat) : (⟨b, off, none⟩ : Addr).add i = ⟨b, off + i, none⟩ := by
  unfold Addr.add
  by_cases h : i = 0
  · subst h; rfl
  · simp [h]
/-- A row of the call's own, untouched by what only adds. -/
theorem row_later {w W : World} {B z : Nat} {e : TypeId} {v : Value} {n : Nat} {cs : List Value} (h : w.ownsRow B e z v n cs) (hb : Below w.heap.size w W) : W.ownsRow B e z v n cs := by
  refine ⟨h.1, ?_⟩
  rcases h.2 with h' | ⟨g, cap, cur, hv, hB, hg, rest⟩
  · exact .inl h'
  · have hlt : g < w.heap.size := (Array.getElem?_eq_some_iff.1 hg).1
    exact .inr ⟨g, cap, cur, hv, hB, by rw [hb.block g hlt]; exact hg, rest⟩
/-- The slice at p holds these texts. -/
def StrRow (w : World) (p : Option Addr) (ss : List ByteArray) : Prop := ∀ i (h : i < ss.length), ∃ b off, p = some ⟨b, off, none⟩ ∧ b < w.heap.size ∧ w.cell? ⟨b, off + i, none⟩ = some (.string ss[i])
theorem StrRow.at {w : World} {p : Option Addr} {ss : List ByteArray} (h : StrRow w p ss) (i : Nat) (hi : i < ss.length) : ∃ b off, p = some ⟨b, off, none⟩ ∧ ∀ W, Below w.heap.size w W → W.cell? ⟨b, off + i, none⟩ = some (.string ss[i]) := by
  obtain ⟨b, off, e, hlt, hc⟩ := h i hi
  exact ⟨b, off, e, fun W hb => (hb.cell (p := ⟨b, off + i, none⟩) hlt).trans hc⟩
theorem StrRow.later {w W : World} {p : Option Addr} {ss : List ByteArray} (h : StrRow w p ss) (hb : Below w.heap.size w W) : StrRow W p ss := fun i hi => by
  obtain ⟨b, off, e, hlt, hc⟩ := h i hi
  exact ⟨b, off, e, Nat.lt_of_lt_of_le hlt hb.size, (hb.cell (p := ⟨b, off + i, none⟩) hlt).trans hc⟩
theorem strInfo : (Try.prog.info? 9).map (fun i => (i.zero, i.size, i.bytes)) = some (some (.string ⟨#[]⟩), 1, 16) := by kernel_rfl
/-- A row of texts that the call itself owns, as a slice that holds them. -/
theorem row_owned {W : World} {B : Nat} {e : TypeId} {v : Value} {ks : List ByteArray} (h : W.ownsRow B e 1 v ks.length (ks.map Value.string)) : ∃ p c, v = .slice p ks.length c ∧ StrRow W p ks := by
  rcases h.2 with ⟨hv, h0⟩ | ⟨g, cap, cur, hv, _⟩
  · refine ⟨none, 0, by rw [hv, h0], fun i hi => ?_⟩
    omega
  · refine ⟨some ⟨g, 0, none⟩, cap, hv, fun i hi => ?_⟩
    subst hv
    have hc := h.cellAt i (by omega)
    rw [List.getElem?_map, List.getElem?_eq_getElem hi] at hc
    have hlt := World.block_lt_of_cell? W _ (show W.cell? ⟨g, i, none⟩ = some (.string ks[i]) from hc)
    exact ⟨g, 0, rfl, hlt, by rw [Nat.zero_add]; exact hc⟩
theorem row_at {W : World} {B : Nat} {e : TypeId} {p : Option Addr} {n c : Nat} {ks : List ByteArray} (hk : ks.length = n) (h : W.ownsRow B e 1 (.slice p n c) n (ks.map Value.string)) : StrRow W p ks := by
  subst hk
  obtain ⟨p', c', e', hr⟩ := row_owned h
  injection e' with e1 e2 e3
  rw [e1]; exact hr
/-- Texts handed out, in a row of the call's own. -/
def GivesTx (w : World) (ts : List ByteArray) (e : Ending) (w' : World) : Prop := Below w.heap.size w w' ∧ ∃ p c, e = .returned (.slice p ts.length c) ∧ StrRow w' p ts ∧ w'.ownsRow w.heap.size 9 1 (.slice p ts.length c) ts.length (ts.map Value.string)
theorem own_ptr {W : World} {B : Nat} {e : TypeId} {v : Value} {n size : Nat} {cs : List Value} (h : W.ownsRow B e size v n cs) (hv : v.ownBlock ≠ none) : ∃ g cap, v = .slice (some ⟨g, 0, none⟩) n cap ∧ n ≤ cap ∧ B ≤ g ∧ g < W.heap.size := by
  rcases h.2 with ⟨rfl, _⟩ | ⟨g, cap, cur, hv', hB, hg, hc, _⟩
  · exact absurd rfl hv
  · exact ⟨g, cap, hv', hc, hB, (Array.getElem?_eq_some_iff.1 hg).1⟩
/-- The slice at p holds these numbers. -/
def NumRow (k : IntKind) (w : World) (p : Option Addr) (xs : List Int) : Prop := ∀ i (h : i < xs.length), ∃ b off, p = some ⟨b, off, none⟩ ∧ b < w.heap.size ∧ w.cell? ⟨b, off + i, none⟩ = some (.int k xs[i])
theorem NumRow.at {kd : IntKind} {w : World} {p : Option Addr} {xs : List Int} (h : NumRow kd w p xs) (i : Nat) (hi : i < xs.length) : ∃ b off, p = some ⟨b, off, none⟩ ∧ b < w.heap.size ∧ ∀ W, Below w.heap.size w W → W.cell? ⟨b, off + i, none⟩ = some (.int kd xs[i]) := by
  obtain ⟨b, off, e, hlt, hc⟩ := h i hi
  exact ⟨b, off, e, hlt, fun W hb => (hb.cell (p := ⟨b, off + i, none⟩) hlt).trans hc⟩
theorem NumRow.later {kd : IntKind} {w W : World} {p : Option Addr} {xs : List Int} (h : NumRow kd w p xs) (hb : Below w.heap.size w W) : NumRow kd W p xs := fun i hi => by
  obtain ⟨b, off, e, hlt, hc⟩ := h i hi
  exact ⟨b, off, e, Nat.lt_of_lt_of_le hlt hb.size, (hb.cell (p := ⟨b, off + i, none⟩) hlt).trans hc⟩

def nums (k : IntKind) (xs : List Int) : List Value := xs.map (Value.int k)
theorem nums_len (k : IntKind) (xs : List Int) : (nums k xs).length = xs.length := by simp [nums]
/-- What is owned can be read. -/
theorem nums_row {k : IntKind} {W : World} {B : Nat} {e : TypeId} {p : Option Addr} {n c : Nat} {xs : List Int} {rest : List Value} (h : W.ownsRow B e 1 (.slice p n c) n (nums k xs ++ rest)) : NumRow k W p xs := by
  intro i hi
  have hn := h.1
  rw [List.length_append, nums_len] at hn
  rcases h.2 with ⟨hv, h0⟩ | ⟨g, cap, cur, hv, _⟩
  · omega
  · injection hv with e1 e2 e3
    subst e1
    have hc := h.cellAt i (by omega)
    rw [List.getElem?_append_left (by rw [nums_len]; exact hi)] at hc
    unfold nums at hc
    rw [List.getElem?_map, List.getElem?_eq_getElem hi] at hc
    have hlt := World.block_lt_of_cell? W _ (show W.cell? ⟨g, i, none⟩ = some (.int k xs[i]) from hc)
    exact ⟨g, 0, rfl, hlt, by rw [Nat.zero_add]; exact hc⟩
theorem nums_row' {k : IntKind} {W : World} {B : Nat} {e : TypeId} {p : Option Addr} {n c : Nat} {xs : List Int} (h : W.ownsRow B e 1 (.slice p n c) n (nums k xs)) : NumRow k W p xs := nums_row (rest := []) (by rw [List.append_nil]; exact h)
/-- What is there stays, but in S. -/
structure KeptBut (S : Nat → Prop) (w w' : World) : Prop where
  os : w'.os = w.os
  tape : w'.tape = w.tape
  output : w'.output = w.output
  size : w.heap.size ≤ w'.heap.size
  block : ∀ k, k < w.heap.size → ¬ S k → w'.heap[k]? = w.heap[k]?
theorem KeptBut.refl (S : Nat → Prop) (w : World) : KeptBut S w w := ⟨rfl, rfl, rfl, Nat.le_refl _, fun _ _ _ => rfl⟩
theorem KeptBut.grown {S : Nat → Prop} {a w w' : World} {row : Option Nat} (h : KeptBut S a w) (hg : w.grownBy w' row) (hr : ∀ g, row = some g → S g ∨ a.heap.size ≤ g) : KeptBut S a w' :=
  ⟨hg.os.trans h.os, hg.tape.trans h.tape, hg.output.trans h.output, Nat.le_trans h.size hg.size, fun k hk hS => (hg.block k (Nat.lt_of_lt_of_le hk h.size) (fun e => by
    rcases hr k e.symm with h' | h'
    · exact hS h'
    · omega)).trans (h.block k hk hS)⟩
theorem KeptBut.alloc {S : Nat → Prop} {a w : World} (h : KeptBut S a w) (o : Obj) : KeptBut S a (w.alloc o) := h.grown (World.grownBy_alloc w o none) fun g e => by cases e
theorem KeptBut.set {S : Nat → Prop} {a w : World} (h : KeptBut S a w) (g i : Nat) (u : Value) (hr : S g ∨ a.heap.size ≤ g) : KeptBut S a (w.setCell ⟨g, i, none⟩ u) :=
  h.grown (row := some g) ⟨rfl, rfl, rfl, by simp, fun k _ hk => heap_setCell_other w ⟨g, i, none⟩ k u (fun e => hk (by simp [e]))⟩ fun g' e => by cases e; exact hr
theorem KeptBut.of_below {S : Nat → Prop} {w w' : World} (h : Below w.heap.size w w') : KeptBut S w w' := ⟨h.os, h.tape, h.output, h.size, fun k hk _ => h.block k hk⟩
theorem KeptBut.below {S : Nat → Prop} {B : Nat} {a w w' : World} (h : KeptBut S w w') (hb : Below B a w) (hB : B ≤ w.heap.size) (hS : ∀ k, S k → B ≤ k) : Below B a w' :=
  hb.trans ⟨h.os, h.tape, h.output, h.size, fun k hk => h.block k (by omega) (fun hs => by have := hS k hs; omega)⟩
theorem KeptBut.trans {S S' : Nat → Prop} {a w w' : World} (h : KeptBut S a w) (h' : KeptBut S' w w') (hS : ∀ k, S' k → S k ∨ a.heap.size ≤ k) : KeptBut S a w' :=
  ⟨h'.os.trans h.os, h'.tape.trans h.tape, h'.output.trans h.output, Nat.le_trans h.size h'.size, fun k hk hs => (h'.block k (Nat.lt_of_lt_of_le hk h.size) (fun e => by
    rcases hS k e with h1 | h1
    · exact hs h1
    · omega)).trans (h.block k hk hs)⟩
/-- A row of the call's own. -/
structure RowT where
  v : Value
  e : TypeId
  z : Nat
  n : Nat
structure RowsOk (S : Nat → Prop) (w0 W : World) (B : Nat) (rs : List RowT) : Prop where
  own : ∀ i (h : i < rs.length), ∃ cs, W.ownsRow B rs[i].e rs[i].z rs[i].v rs[i].n cs
  dis : ∀ i j (hi : i < rs.length) (hj : j < rs.length), i ≠ j → ∀ k, rs[i].v.ownBlock = some k → rs[j].v.ownBlock ≠ some k
  kept : KeptBut S w0 W
  sub : ∀ i (h : i < rs.length), ∀ k, rs[i].v.ownBlock = some k → S k ∨ w0.heap.size ≤ k
  hB : B ≤ w0.heap.size
theorem own_form {W : World} {B : Nat} {e : TypeId} {v : Value} {n size g j : Nat} {cs : List Value} {u : Value} (h : W.ownsRow B e size v n cs) (hg : v.ownBlock = some g) : ∃ cs', (W.setCell ⟨g, j, none⟩ u).ownsRow B e size v n cs' := by
  rcases h.2 with ⟨rfl, _⟩ | ⟨g', cap, cur, rfl, _⟩
  · cases hg
  · have : g' = g := by simpa [Value.ownBlock] using hg
    subst this
    exact ⟨_, (h.stored j u).1⟩
theorem RowsOk.store {S : Nat → Prop} {w0 W : World} {B : Nat} {rs : List RowT} (h : RowsOk S w0 W B rs) (i : Nat) (hi : i < rs.length) {g : Nat} (hg : rs[i].v.ownBlock = some g) (j : Nat) (u : Value) : RowsOk S w0 (W.setCell ⟨g, j, none⟩ u) B rs := by
  refine ⟨fun k hk => ?_, h.dis, h.kept.set g j u (h.sub i hi g hg), h.sub, h.hB⟩
  obtain ⟨cs, ho⟩ := h.own k hk
  by_cases e : rs[k].v.ownBlock = some g
  · exact own_form ho e
  · exact ⟨cs, ho.kept ⟨rfl, rfl, rfl, by simp, fun q _ hq => heap_setCell_other W ⟨g, j, none⟩ q u (fun e' => hq (by simp [e']))⟩ (.inr e)⟩
theorem RowsOk.append {S : Nat → Prop} {w0 W w1 : World} {B : Nat} {rs : List RowT} (h : RowsOk S w0 W B rs) (i : Nat) (hi : i < rs.length) {o : Obj} {v' : Value} {n' : Nat} {cs' : List Value} (hgr : (W.alloc o).grownBy w1 rs[i].v.ownBlock) (ho' : w1.ownsRow B rs[i].e rs[i].z v' n' cs')
    (hbk : v'.ownBlock = rs[i].v.ownBlock ∨ v'.ownBlock = some (W.alloc o).heap.size) : RowsOk S w0 w1 B (rs.set i ⟨v', rs[i].e, rs[i].z, n'⟩) := by
  have hsz := h.kept.size
  have hlt : ∀ k (hk : k < rs.length) b, rs[k].v.ownBlock = some b → b < W.heap.size := fun k hk b hb => by
    obtain ⟨cs, ho⟩ := h.own k hk
    exact (ho.lt b hb).2
  refine ⟨fun k hk => ?_, fun a b ha hb hab q hq => ?_, (h.kept.alloc o).grown hgr (fun g hg => h.sub i hi g hg), fun k hk q hq => ?_, h.hB⟩
  · rw [List.length_set] at hk
    by_cases e : i = k
    · subst e
      rw [List.getElem_set_self]
      exact ⟨cs', ho'⟩
    · rw [List.getElem_set_ne e]
      obtain ⟨cs, ho⟩ := h.own k hk
      refine ⟨cs, (ho.alloc o).kept hgr ?_⟩
      cases hv : rs[k].v.ownBlock with
      | none => exact .inl rfl
      | some g => exact .inr fun e' => h.dis k i hk hi (Ne.symm e) g hv e'.symm
  · rw [List.length_set] at ha hb
    have hnew : ∀ b, v'.ownBlock = some b → rs[i].v.ownBlock = some b ∨ W.heap.size < b := fun b hb' => by
      rcases hbk with e | e
      · exact .inl (e ▸ hb')
      · rw [e] at hb'
        injection hb' with hb'
        rw [World.size_alloc] at hb'
        exact .inr (by omega)
    by_cases e1 : i = a
    · subst e1
      rw [List.getElem_set_self] at hq
      rw [List.getElem_set_ne hab]
      rcases hnew q hq with h1 | h1
      · exact h.dis i b ha hb hab q h1
      · exact fun e => by have := hlt b hb q e; omega
    · rw [List.getElem_set_ne e1] at hq
      by_cases e2 : i = b
      · subst e2
        rw [List.getElem_set_self]
        intro e
        rcases hnew q e with h1 | h1
        · exact h.dis a i ha hb (fun e' => e1 e'.symm) q hq h1
        · have := hlt a ha q hq; omega
      · rw [List.getElem_set_ne e2]
        exact h.dis a b ha hb hab q hq
  · rw [List.length_set] at hk
    by_cases e : i = k
    · subst e
      rw [List.getElem_set_self] at hq
      rcases hbk with e' | e'
      · exact h.sub i hi q (e' ▸ hq)
      · rw [e'] at hq
        injection hq with hq
        rw [World.size_alloc] at hq
        exact .inr (by omega)
    · rw [List.getElem_set_ne e] at hq
      exact h.sub k hk q hq
/-- An own row's block: between the two ends of the memory that the call has laid. -/
theorem own_iv {W : World} {lo : Nat} {e : TypeId} {p : Option Addr} {n c size : Nat} {cs : List Value} (h : W.ownsRow lo e size (.slice p n c) n cs) : ∀ b off, p = some ⟨b, off, none⟩ → lo ≤ b ∧ b < W.heap.size := fun b off hp => h.lt b (by rw [hp]; rfl)
theorem NumRow.but {S : Nat → Prop} {w W : World} {kd : IntKind} {p : Option Addr} {xs : List Int} (h : NumRow kd w p xs) (hk : KeptBut S w W) (hS : ∀ b off, p = some ⟨b, off, none⟩ → ¬ S b) : NumRow kd W p xs := fun i hi => by
  obtain ⟨b, off, e, hb, h0⟩ := h i hi
  exact ⟨b, off, e, Nat.lt_of_lt_of_le hb hk.size, (World.cell?_of_block (a := ⟨b, off + i, none⟩) (hk.block b hb (hS b off e))).trans h0⟩
theorem StrRow.but {S : Nat → Prop} {w W : World} {p : Option Addr} {xs : List ByteArray} (h : StrRow w p xs) (hk : KeptBut S w W) (hS : ∀ b off, p = some ⟨b, off, none⟩ → ¬ S b) : StrRow W p xs := fun i hi => by
  obtain ⟨b, off, e, hb, h0⟩ := h i hi
  exact ⟨b, off, e, Nat.lt_of_lt_of_le hb hk.size, (World.cell?_of_block (a := ⟨b, off + i, none⟩) (hk.block b hb (hS b off e))).trans h0⟩
/-- A cell of an own row, in bounds. -/
theorem own_cell {W : World} {B : Nat} {e : TypeId} {p : Option Addr} {n c size : Nat} {cs : List Value} (h : W.ownsRow B e size (.slice p n c) n cs) (hn : 0 < n) : ∃ g, p = some ⟨g, 0, none⟩ ∧ ∀ j, j < n * size → (∃ u, W.cell? ⟨g, j, none⟩ = some u) ∧ W.frozen? ⟨g, j, none⟩ = false := by
  rcases h.2 with ⟨_, h0⟩ | ⟨g, cap, cur, hv, _⟩
  · omega
  · injection hv with e1 e2 e3
    subst e1
    refine ⟨g, rfl, fun j hj => ⟨⟨_, (h.cellAt j hj).trans (List.getElem?_eq_getElem (by have := h.1; omega))⟩, h.frozenAt j⟩⟩
theorem own_sl {W : World} {B : Nat} {e : TypeId} {v : Value} {n size : Nat} {cs : List Value} (h : W.ownsRow B e size v n cs) : ∃ p c, v = .slice p n c := by
  rcases h.2 with ⟨hv, h0⟩ | ⟨g, cap, cur, hv, _⟩
  · exact ⟨none, 0, by rw [hv, h0]⟩
  · exact ⟨some ⟨g, 0, none⟩, cap, hv⟩
theorem own_ivb {W : World} {lo : Nat} {e : TypeId} {p : Option Addr} {n c size : Nat} {cs : List Value} (h : W.ownsRow lo e size (.slice p n c) n cs) {P : Nat → Prop} (iv : ∀ b off, p = some ⟨b, off, none⟩ → P b) : ∀ k, (Value.slice p n c).ownBlock = some k → P k := fun k hk => by
  obtain ⟨g, cap, hv, _⟩ := own_ptr h (by rw [hk]; exact fun e => by cases e)
  injection hv with e1
  subst e1
  have : g = k := by simpa [Value.ownBlock] using hk
  exact this ▸ iv g 0 rfl
theorem own_cap {W : World} {B : Nat} {e : TypeId} {g n c size : Nat} {cs : List Value} (h : W.ownsRow B e size (.slice (some ⟨g, 0, none⟩) n c) n cs) : n ≤ c := by
  rcases h.2 with ⟨hv, _⟩ | ⟨g', cap, cur, hv, _, _, hc, _⟩
  · cases hv
  · injection hv with _ _ e3
    rw [e3]; exact hc
end Go.Proofs.Ytjmnbnlhahbcjaa
