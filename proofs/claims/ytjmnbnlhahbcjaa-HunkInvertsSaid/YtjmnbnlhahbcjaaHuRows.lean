/- Rows of hunks with whatever place: that came in, that the call owns. -/
import Derived.Test.YtjmnbnlhahbcjaaHuP
namespace Go.Proofs.Ytjmnbnlhahbcjaa
open Go Go.RowKit

/-- A list of texts at p, with room for c. -/
def TxP (w : World) (p : Option Addr) (c : Nat) (xs : List Tx) : Prop := StrRow w p xs ∧ (p = none → xs.length = 0 ∧ c = 0) ∧ xs.length ≤ c
theorem TxP.later {w W : World} {p : Option Addr} {c : Nat} {xs : List Tx} (h : TxP w p c xs) (hb : Below w.heap.size w W) : TxP W p c xs := ⟨h.1.later hb, h.2⟩
/-- The slice at p holds these hunks. -/
def HuRow (w : World) (p : Option Addr) (hs : List Hu) : Prop := ∀ i (h : i < hs.length), ∃ b off, p = some ⟨b, off, none⟩ ∧ b < w.heap.size ∧ w.cell? ⟨b, off + i * 3, none⟩ = some (.int .i64 hs[i].pos) ∧
  (∃ p1 c1, w.cell? ⟨b, off + i * 3 + 1, none⟩ = some (.slice p1 hs[i].old.length c1) ∧ TxP w p1 c1 hs[i].old) ∧ ∃ p2 c2, w.cell? ⟨b, off + i * 3 + 2, none⟩ = some (.slice p2 hs[i].new.length c2) ∧ TxP w p2 c2 hs[i].new
theorem HuRow.later {w W : World} {p : Option Addr} {hs : List Hu} (h : HuRow w p hs) (hb : Below w.heap.size w W) : HuRow W p hs := fun i hi => by
  obtain ⟨b, off, e, hlt, h0, ⟨p1, c1, h1, r1⟩, p2, c2, h2, r2⟩ := h i hi
  exact ⟨b, off, e, Nat.lt_of_lt_of_le hlt hb.size, (hb.cell (p := ⟨b, off + i * 3, none⟩) hlt).trans h0, ⟨p1, c1, (hb.cell (p := ⟨b, off + i * 3 + 1, none⟩) hlt).trans h1, r1.later hb⟩, p2, c2, (hb.cell (p := ⟨b, off + i * 3 + 2, none⟩) hlt).trans h2, r2.later hb⟩
theorem HuRow.at {w : World} {p : Option Addr} {hs : List Hu} (h : HuRow w p hs) (i : Nat) (hi : i < hs.length) : ∃ b off p1 c1 p2 c2, p = some ⟨b, off, none⟩ ∧ TxP w p1 c1 hs[i].old ∧ TxP w p2 c2 hs[i].new ∧ ∀ W, Below w.heap.size w W →
    W.cell? ⟨b, off + i * 3, none⟩ = some (.int .i64 hs[i].pos) ∧ W.cell? ⟨b, off + i * 3 + 1, none⟩ = some (.slice p1 hs[i].old.length c1) ∧ W.cell? ⟨b, off + i * 3 + 2, none⟩ = some (.slice p2 hs[i].new.length c2) := by
  obtain ⟨b, off, e, hlt, h0, ⟨p1, c1, h1, r1⟩, p2, c2, h2, r2⟩ := h i hi
  exact ⟨b, off, p1, c1, p2, c2, e, r1, r2, fun W hb => ⟨(hb.cell (p := ⟨b, off + i * 3, none⟩) hlt).trans h0, (hb.cell (p := ⟨b, off + i * 3 + 1, none⟩) hlt).trans h1, (hb.cell (p := ⟨b, off + i * 3 + 2, none⟩) hlt).trans h2⟩⟩
/-- The cells of a row of hunks. -/
def huCells : List Hu → List (Value × Value) → List Value
  | h :: hs, u :: us => .int .i64 h.pos :: u.1 :: u.2 :: huCells hs us
  | _, _ => []
theorem huCells_snoc : ∀ (hs : List Hu) (us : List (Value × Value)) (h : Hu) (u : Value × Value), hs.length = us.length → huCells (hs ++ [h]) (us ++ [u]) = huCells hs us ++ [.int .i64 h.pos, u.1, u.2]
  | [], [], _, _, _ => rfl
  | _ :: hs, _ :: us, h, u, e => by
    simp only [List.cons_append, huCells]
    rw [huCells_snoc hs us h u (by simpa using e)]
theorem huCells_len : ∀ (hs : List Hu) (us : List (Value × Value)), hs.length = us.length → (huCells hs us).length = hs.length * 3
  | [], [], _ => rfl
  | _ :: hs, _ :: us, e => by
    simp only [huCells, List.length_cons]
    rw [huCells_len hs us (by simpa using e)]; omega
theorem huCells_at : ∀ (hs : List Hu) (us : List (Value × Value)) (i : Nat) (h : i < hs.length) (h' : i < us.length), (huCells hs us)[i * 3]? = some (.int .i64 hs[i].pos) ∧ (huCells hs us)[i * 3 + 1]? = some us[i].1 ∧ (huCells hs us)[i * 3 + 2]? = some us[i].2
  | _ :: _, _ :: _, 0, _, _ => ⟨rfl, rfl, rfl⟩
  | h :: hs, u :: us, i + 1, g, g' => by
    have ih := huCells_at hs us i (by simpa using g) (by simpa using g')
    simp only [huCells, List.getElem_cons_succ]
    rw [show (i + 1) * 3 = i * 3 + 3 by omega, show i * 3 + 3 + 1 = i * 3 + 1 + 3 by omega, show i * 3 + 3 + 2 = i * 3 + 2 + 3 by omega]
    simpa using ih
/-- A row of hunks of the call's own, each with two rows of its own. -/
structure HuOwn (B : Nat) (W : World) (v : Value) (hs : List Hu) (us : List (Value × Value)) : Prop where
  len : hs.length = us.length
  row : W.ownsRow B 47 3 v hs.length (huCells hs us)
  subs : ∀ i (h : i < hs.length) (h' : i < us.length), W.ownsRow B 9 1 us[i].1 hs[i].old.length (hs[i].old.map Value.string) ∧ W.ownsRow B 9 1 us[i].2 hs[i].new.length (hs[i].new.map Value.string)
  dis : (flatV us).Pairwise Apart
  top : ∀ x ∈ flatV us, Apart x v
theorem HuOwn.lt {B : Nat} {W : World} {v : Value} {hs : List Hu} {us : List (Value × Value)} (h : HuOwn B W v hs us) : ∀ x ∈ flatV us, ∀ k, x.ownBlock = some k → B ≤ k ∧ k < W.heap.size := fun x hx k hk => by
  obtain ⟨u, hu, e⟩ := flatV_mem.1 hx
  obtain ⟨i, hi, rfl⟩ := List.mem_iff_getElem.1 hu
  have := h.subs i (by rw [h.len]; exact hi) hi
  rcases e with rfl | rfl
  · exact this.1.lt k hk
  · exact this.2.lt k hk
theorem HuOwn.later {B : Nat} {w W : World} {v : Value} {hs : List Hu} {us : List (Value × Value)} (h : HuOwn B w v hs us) (hb : Below w.heap.size w W) : HuOwn B W v hs us :=
  ⟨h.len, row_later h.row hb, fun i hi hi' => ⟨row_later (h.subs i hi hi').1 hb, row_later (h.subs i hi hi').2 hb⟩, h.dis, h.top⟩
theorem HuOwn.reads {B : Nat} {W : World} {v : Value} {hs : List Hu} {us : List (Value × Value)} (h : HuOwn B W v hs us) : ∃ p c, v = .slice p hs.length c ∧ HuRow W p hs := by
  rcases h.row.2 with ⟨hv, h0⟩ | ⟨g, cap, cur, hv, _⟩
  · refine ⟨none, 0, by rw [hv, h0], fun i hi => ?_⟩
    omega
  · refine ⟨some ⟨g, 0, none⟩, cap, hv, fun i hi => ?_⟩
    have hr := h.row
    rw [hv] at hr
    have hi' : i < us.length := by rw [← h.len]; exact hi
    have hl := huCells_len hs us h.len
    obtain ⟨a0, a1, a2⟩ := huCells_at hs us i hi hi'
    have h0 := (hr.cellAt (i * 3) (by omega)).trans a0
    have h1 := (hr.cellAt (i * 3 + 1) (by omega)).trans a1
    have h2 := (hr.cellAt (i * 3 + 2) (by omega)).trans a2
    have hlt := World.block_lt_of_cell? W _ (show W.cell? ⟨g, i * 3, none⟩ = some (.int .i64 hs[i].pos) from h0)
    obtain ⟨s1, s2⟩ := h.subs i hi hi'
    obtain ⟨p1, c1, e1, r1⟩ := row_owned s1
    obtain ⟨p2, c2, e2, r2⟩ := row_owned s2
    rw [e1] at h1
    rw [e2] at h2
    exact ⟨g, 0, rfl, hlt, by rw [Nat.zero_add]; exact h0, ⟨p1, c1, by rw [Nat.zero_add]; exact h1, r1, own_facts (e1 ▸ s1)⟩, p2, c2, by rw [Nat.zero_add]; exact h2, r2, own_facts (e2 ▸ s2)⟩
/-- Hunks handed out, all in rows of the call's own. -/
def GivesHu (w : World) (hs : List Hu) (e : Ending) (w' : World) : Prop := Below w.heap.size w w' ∧ ∃ p c us, e = .returned (.slice p hs.length c) ∧ HuRow w' p hs ∧ HuOwn w.heap.size w' (.slice p hs.length c) hs us
end Go.Proofs.Ytjmnbnlhahbcjaa
