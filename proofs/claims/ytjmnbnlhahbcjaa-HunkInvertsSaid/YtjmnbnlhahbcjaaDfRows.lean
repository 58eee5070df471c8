/- Rows of pairs and rows of hunks. -/
import Derived.Test.YtjmnbnlhahbcjaaDfBase
import Derived.Test.YtjmnbnlhahbcjaaDfP
namespace Go.Proofs.Ytjmnbnlhahbcjaa
open Go Go.RowKit

/-- A pair's cells. -/
def prCells (qs : List (Nat × Nat)) : List Value := qs.flatMap fun q => [.int .i64 q.1, .int .i64 q.2]
theorem prCells_cons (q : Nat × Nat) (qs : List (Nat × Nat)) : prCells (q :: qs) = [.int .i64 q.1, .int .i64 q.2] ++ prCells qs := by unfold prCells; rw [List.flatMap_cons]
theorem prCells_app (qs rs : List (Nat × Nat)) : prCells (qs ++ rs) = prCells qs ++ prCells rs := by simp [prCells]
theorem prCells_len : ∀ qs : List (Nat × Nat), (prCells qs).length = qs.length * 2
  | [] => rfl
  | q :: qs => by
    rw [prCells_cons, List.length_append, prCells_len qs, List.length_cons]
    simp; omega
theorem prCells_at : ∀ (qs : List (Nat × Nat)) (i : Nat) (h : i < qs.length), (prCells qs)[i * 2]? = some (.int .i64 qs[i].1) ∧ (prCells qs)[i * 2 + 1]? = some (.int .i64 qs[i].2)
  | q :: qs, 0, _ => by rw [prCells_cons]; exact ⟨rfl, rfl⟩
  | q :: qs, i + 1, h => by
    have ih := prCells_at qs i (Nat.lt_of_succ_lt_succ h)
    rw [prCells_cons]
    refine ⟨?_, ?_⟩
    · rw [List.getElem?_append_right (by simp; omega), show (i + 1) * 2 - [Value.int .i64 q.1, .int .i64 q.2].length = i * 2 by simp; omega, ih.1]; rfl
    · rw [List.getElem?_append_right (by simp; omega), show (i + 1) * 2 + 1 - [Value.int .i64 q.1, .int .i64 q.2].length = i * 2 + 1 by simp; omega, ih.2]; rfl
/-- The slice at p holds these pairs. -/
def PrRow (w : World) (p : Option Addr) (qs : List (Nat × Nat)) : Prop := ∀ i (h : i < qs.length), ∃ b off, p = some ⟨b, off, none⟩ ∧ b < w.heap.size ∧ w.cell? ⟨b, off + i * 2, none⟩ = some (.int .i64 qs[i].1) ∧ w.cell? ⟨b, off + i * 2 + 1, none⟩ = some (.int .i64 qs[i].2)
theorem PrRow.at {w : World} {p : Option Addr} {qs : List (Nat × Nat)} (h : PrRow w p qs) (i : Nat) (hi : i < qs.length) : ∃ b off, p = some ⟨b, off, none⟩ ∧ b < w.heap.size ∧ ∀ W, Below w.heap.size w W → W.cell? ⟨b, off + i * 2, none⟩ = some (.int .i64 qs[i].1) ∧ W.cell? ⟨b, off + i * 2 + 1, none⟩ = some (.int .i64 qs[i].2) := by
  obtain ⟨b, off, e, hlt, h0, h1⟩ := h i hi
  exact ⟨b, off, e, hlt, fun W hb => ⟨(hb.cell (p := ⟨b, off + i * 2, none⟩) hlt).trans h0, (hb.cell (p := ⟨b, off + i * 2 + 1, none⟩) hlt).trans h1⟩⟩
theorem PrRow.later {w W : World} {p : Option Addr} {qs : List (Nat × Nat)} (h : PrRow w p qs) (hb : Below w.heap.size w W) : PrRow W p qs := fun i hi => by
  obtain ⟨b, off, e, hlt, h0, h1⟩ := h i hi
  exact ⟨b, off, e, Nat.lt_of_lt_of_le hlt hb.size, (hb.cell (p := ⟨b, off + i * 2, none⟩) hlt).trans h0, (hb.cell (p := ⟨b, off + i * 2 + 1, none⟩) hlt).trans h1⟩
theorem PrRow.but {S : Nat → Prop} {w W : World} {p : Option Addr} {qs : List (Nat × Nat)} (h : PrRow w p qs) (hk : KeptBut S w W) (hS : ∀ b off, p = some ⟨b, off, none⟩ → ¬ S b) : PrRow W p qs := fun i hi => by
  obtain ⟨b, off, e, hb, h0, h1⟩ := h i hi
  have hh := hk.block b hb (hS b off e)
  exact ⟨b, off, e, Nat.lt_of_lt_of_le hb hk.size, (World.cell?_of_block (a := ⟨b, off + i * 2, none⟩) hh).trans h0, (World.cell?_of_block (a := ⟨b, off + i * 2 + 1, none⟩) hh).trans h1⟩
theorem pr_owned {W : World} {B : Nat} {e : TypeId} {v : Value} {n : Nat} {qs : List (Nat × Nat)} (hn : qs.length = n) (h : W.ownsRow B e 2 v n (prCells qs)) : ∃ p c, v = .slice p n c ∧ PrRow W p qs := by
  subst hn
  rcases h.2 with ⟨hv, h0⟩ | ⟨g, cap, cur, hv, _⟩
  · refine ⟨none, 0, by rw [hv, h0], fun i hi => ?_⟩
    omega
  · refine ⟨some ⟨g, 0, none⟩, cap, hv, fun i hi => ?_⟩
    subst hv
    have h0 := (h.cellAt (i * 2) (by omega)).trans (prCells_at qs i hi).1
    have h1 := (h.cellAt (i * 2 + 1) (by omega)).trans (prCells_at qs i hi).2
    have hlt := World.block_lt_of_cell? W _ (show W.cell? ⟨g, i * 2, none⟩ = some (.int .i64 qs[i].1) from h0)
    refine ⟨g, 0, rfl, hlt, ?_⟩
    rw [Nat.zero_add]
    exact ⟨h0, h1⟩
theorem pr_at {W : World} {B : Nat} {e : TypeId} {p : Option Addr} {n c : Nat} {qs : List (Nat × Nat)} (hn : qs.length = n) (h : W.ownsRow B e 2 (.slice p n c) n (prCells qs)) : PrRow W p qs := by
  obtain ⟨p', c', e', hr⟩ := pr_owned hn h
  injection e' with e1
  rw [e1]; exact hr
theorem prInfo : (Try.prog.info? 48).map (fun i => (i.zero, i.size, i.bytes)) = some (some (.agg #[.int .i64 0, .int .i64 0]), 2, 16) := by kernel_rfl
theorem hkInfo : (Try.prog.info? 47).map (fun i => (i.zero, i.size, i.bytes)) = some (some (.agg #[.int .i64 0, .slice none 0 0, .slice none 0 0]), 3, 56) := by kernel_rfl
theorem intInfo : (Try.prog.info? 3).map (fun i => (i.zero, i.size, i.bytes)) = some (some (.int .i64 0), 1, 8) := by kernel_rfl
/-- Pairs handed out, in a row of the call's own. -/
def GivesPr (w : World) (qs : List (Nat × Nat)) (e : Ending) (w' : World) : Prop := Below w.heap.size w w' ∧ ∃ p c, e = .returned (.slice p qs.length c) ∧ PrRow w' p qs ∧ w'.ownsRow w.heap.size 48 2 (.slice p qs.length c) qs.length (prCells qs)

abbrev Tx := ByteArray
/-- The slice at p holds these hunks. -/
def HkRow (w : World) (p : Option Addr) (hs : List (Hk Tx)) : Prop := ∀ i (h : i < hs.length), ∃ b off, p = some ⟨b, off, none⟩ ∧ b < w.heap.size ∧ w.cell? ⟨b, off + i * 3, none⟩ = some (.int .i64 hs[i].pos) ∧
  (∃ p1 c1, w.cell? ⟨b, off + i * 3 + 1, none⟩ = some (.slice p1 hs[i].old.length c1) ∧ StrRow w p1 hs[i].old) ∧ ∃ p2 c2, w.cell? ⟨b, off + i * 3 + 2, none⟩ = some (.slice p2 hs[i].new.length c2) ∧ StrRow w p2 hs[i].new
theorem HkRow.later {w W : World} {p : Option Addr} {hs : List (Hk Tx)} (h : HkRow w p hs) (hb : Below w.heap.size w W) : HkRow W p hs := fun i hi => by
  obtain ⟨b, off, e, hlt, h0, ⟨p1, c1, h1, r1⟩, p2, c2, h2, r2⟩ := h i hi
  exact ⟨b, off, e, Nat.lt_of_lt_of_le hlt hb.size, (hb.cell (p := ⟨b, off + i * 3, none⟩) hlt).trans h0, ⟨p1, c1, (hb.cell (p := ⟨b, off + i * 3 + 1, none⟩) hlt).trans h1, r1.later hb⟩, p2, c2, (hb.cell (p := ⟨b, off + i * 3 + 2, none⟩) hlt).trans h2, r2.later hb⟩
theorem HkRow.at {w : World} {p : Option Addr} {hs : List (Hk Tx)} (h : HkRow w p hs) (i : Nat) (hi : i < hs.length) : ∃ b off p1 c1 p2 c2, p = some ⟨b, off, none⟩ ∧ StrRow w p1 hs[i].old ∧ StrRow w p2 hs[i].new ∧ ∀ W, Below w.heap.size w W →
    W.cell? ⟨b, off + i * 3, none⟩ = some (.int .i64 hs[i].pos) ∧ W.cell? ⟨b, off + i * 3 + 1, none⟩ = some (.slice p1 hs[i].old.length c1) ∧ W.cell? ⟨b, off + i * 3 + 2, none⟩ = some (.slice p2 hs[i].new.length c2) := by
  obtain ⟨b, off, e, hlt, h0, ⟨p1, c1, h1, r1⟩, p2, c2, h2, r2⟩ := h i hi
  exact ⟨b, off, p1, c1, p2, c2, e, r1, r2, fun W hb => ⟨(hb.cell (p := ⟨b, off + i * 3, none⟩) hlt).trans h0, (hb.cell (p := ⟨b, off + i * 3 + 1, none⟩) hlt).trans h1, (hb.cell (p := ⟨b, off + i * 3 + 2, none⟩) hlt).trans h2⟩⟩
/-- The cells of a row of hunks. -/
def hkCells : List (Hk Tx) → List (Value × Value) → List Value
  | h :: hs, u :: us => .int .i64 h.pos :: u.1 :: u.2 :: hkCells hs us
  | _, _ => []
theorem hkCells_snoc : ∀ (hs : List (Hk Tx)) (us : List (Value × Value)) (h : Hk Tx) (u : Value × Value), hs.length = us.length → hkCells (hs ++ [h]) (us ++ [u]) = hkCells hs us ++ [.int .i64 h.pos, u.1, u.2]
  | [], [], _, _, _ => rfl
  | _ :: hs, _ :: us, h, u, e => by
    simp only [List.cons_append, hkCells]
    rw [hkCells_snoc hs us h u (by simpa using e)]
theorem hkCells_len : ∀ (hs : List (Hk Tx)) (us : List (Value × Value)), hs.length = us.length → (hkCells hs us).length = hs.length * 3
  | [], [], _ => rfl
  | _ :: hs, _ :: us, e => by
    simp only [hkCells, List.length_cons]
    rw [hkCells_len hs us (by simpa using e)]; omega
theorem hkCells_at : ∀ (hs : List (Hk Tx)) (us : List (Value × Value)) (i : Nat) (h : i < hs.length) (h' : i < us.length), (hkCells hs us)[i * 3]? = some (.int .i64 hs[i].pos) ∧ (hkCells hs us)[i * 3 + 1]? = some us[i].1 ∧ (hkCells hs us)[i * 3 + 2]? = some us[i].2
  | _ :: _, _ :: _, 0, _, _ => ⟨rfl, rfl, rfl⟩
  | h :: hs, u :: us, i + 1, g, g' => by
    have ih := hkCells_at hs us i (by simpa using g) (by simpa using g')
    simp only [hkCells, List.getElem_cons_succ]
    rw [show (i + 1) * 3 = i * 3 + 3 by omega, show i * 3 + 3 + 1 = i * 3 + 1 + 3 by omega, show i * 3 + 3 + 2 = i * 3 + 2 + 3 by omega]
    simpa using ih
def Apart (a b : Value) : Prop := ∀ k, a.ownBlock = some k → b.ownBlock ≠ some k
def flatV (us : List (Value × Value)) : List Value := us.flatMap fun u => [u.1, u.2]
theorem flatV_snoc (us : List (Value × Value)) (u : Value × Value) : flatV (us ++ [u]) = flatV us ++ [u.1, u.2] := by simp [flatV]
theorem flatV_mem {us : List (Value × Value)} {x : Value} : x ∈ flatV us ↔ ∃ u ∈ us, x = u.1 ∨ x = u.2 := by simp [flatV]
/-- A row of hunks of the call's own, each with two rows of its own. -/
structure HkOwn (B : Nat) (W : World) (v : Value) (hs : List (Hk Tx)) (us : List (Value × Value)) : Prop where
  len : hs.length = us.length
  row : W.ownsRow B 47 3 v hs.length (hkCells hs us)
  subs : ∀ i (h : i < hs.length) (h' : i < us.length), W.ownsRow B 9 1 us[i].1 hs[i].old.length (hs[i].old.map Value.string) ∧ W.ownsRow B 9 1 us[i].2 hs[i].new.length (hs[i].new.map Value.string)
  dis : (flatV us).Pairwise Apart
  top : ∀ x ∈ flatV us, Apart x v
theorem HkOwn.lt {B : Nat} {W : World} {v : Value} {hs : List (Hk Tx)} {us : List (Value × Value)} (h : HkOwn B W v hs us) : ∀ x ∈ flatV us, ∀ k, x.ownBlock = some k → B ≤ k ∧ k < W.heap.size := fun x hx k hk => by
  obtain ⟨u, hu, e⟩ := flatV_mem.1 hx
  obtain ⟨i, hi, rfl⟩ := List.mem_iff_getElem.1 hu
  have := h.subs i (by rw [h.len]; exact hi) hi
  rcases e with rfl | rfl
  · exact this.1.lt k hk
  · exact this.2.lt k hk
theorem HkOwn.later {B : Nat} {w W : World} {v : Value} {hs : List (Hk Tx)} {us : List (Value × Value)} (h : HkOwn B w v hs us) (hb : Below w.heap.size w W) : HkOwn B W v hs us :=
  ⟨h.len, row_later h.row hb, fun i hi hi' => ⟨row_later (h.subs i hi hi').1 hb, row_later (h.subs i hi hi').2 hb⟩, h.dis, h.top⟩
theorem HkOwn.reads {B : Nat} {W : World} {v : Value} {hs : List (Hk Tx)} {us : List (Value × Value)} (h : HkOwn B W v hs us) : ∃ p c, v = .slice p hs.length c ∧ HkRow W p hs := by
  rcases h.row.2 with ⟨hv, h0⟩ | ⟨g, cap, cur, hv, _⟩
  · refine ⟨none, 0, by rw [hv, h0], fun i hi => ?_⟩
    omega
  · refine ⟨some ⟨g, 0, none⟩, cap, hv, fun i hi => ?_⟩
    have hr := h.row
    rw [hv] at hr
    have hi' : i < us.length := by rw [← h.len]; exact hi
    have hl := hkCells_len hs us h.len
    obtain ⟨a0, a1, a2⟩ := hkCells_at hs us i hi hi'
    have h0 := (hr.cellAt (i * 3) (by omega)).trans a0
    have h1 := (hr.cellAt (i * 3 + 1) (by omega)).trans a1
    have h2 := (hr.cellAt (i * 3 + 2) (by omega)).trans a2
    have hlt := World.block_lt_of_cell? W _ (show W.cell? ⟨g, i * 3, none⟩ = some (.int .i64 hs[i].pos) from h0)
    obtain ⟨s1, s2⟩ := h.subs i hi hi'
    obtain ⟨p1, c1, e1, r1⟩ := row_owned s1
    obtain ⟨p2, c2, e2, r2⟩ := row_owned s2
    rw [e1] at h1
    rw [e2] at h2
    exact ⟨g, 0, rfl, hlt, by rw [Nat.zero_add]; exact h0, ⟨p1, c1, by rw [Nat.zero_add]; exact h1, r1⟩, p2, c2, by rw [Nat.zero_add]; exact h2, r2⟩
/-- Hunks handed out, all in rows of the call's own. -/
def GivesHk (w : World) (hs : List (Hk Tx)) (e : Ending) (w' : World) : Prop := Below w.heap.size w w' ∧ ∃ p c us, e = .returned (.slice p hs.length c) ∧ HkRow w' p hs ∧ HkOwn w.heap.size w' (.slice p hs.length c) hs us
end Go.Proofs.Ytjmnbnlhahbcjaa
