/- Hunks of the call's own, as rows that may be written over. -/
import Derived.Test.YtjmnbnlhahbcjaaHuSpP
namespace Go.Proofs.Ytjmnbnlhahbcjaa
open Go Go.RowKit

def flatR : List Hu → List (Value × Value) → List RowT
  | h :: hs, u :: us => ⟨u.1, 9, 1, h.old.length⟩ :: ⟨u.2, 9, 1, h.new.length⟩ :: flatR hs us
  | _, _ => []
theorem flatR_map : ∀ (hs : List Hu) (us : List (Value × Value)), hs.length = us.length → (flatR hs us).map (·.v) = flatV us
  | [], [], _ => rfl
  | _ :: hs, u :: us, e => by
    have ih := flatR_map hs us (by simpa using e)
    simp only [flatR, List.map_cons, ih]
    simp [flatV]
theorem flatR_len : ∀ (hs : List Hu) (us : List (Value × Value)), hs.length = us.length → (flatR hs us).length = 2 * hs.length
  | [], [], _ => rfl
  | _ :: hs, _ :: us, e => by
    have ih := flatR_len hs us (by simpa using e)
    simp only [flatR, List.length_cons, ih]; omega
theorem flatR_mem : ∀ (hs : List Hu) (us : List (Value × Value)), hs.length = us.length → ∀ r ∈ flatR hs us, ∃ i, ∃ (h : i < hs.length) (h' : i < us.length), r = ⟨us[i].1, 9, 1, hs[i].old.length⟩ ∨ r = ⟨us[i].2, 9, 1, hs[i].new.length⟩
  | [], [], _, r, hr => by cases hr
  | h :: hs, u :: us, e, r, hr => by
    rcases List.mem_cons.1 hr with rfl | hr
    · exact ⟨0, by simp, by simp, .inl rfl⟩
    · rcases List.mem_cons.1 hr with rfl | hr
      · exact ⟨0, by simp, by simp, .inr rfl⟩
      · obtain ⟨i, g, g', h2⟩ := flatR_mem hs us (by simpa using e) r hr
        exact ⟨i + 1, by simpa using g, by simpa using g', by simpa using h2⟩
theorem flatV_at : ∀ (us : List (Value × Value)) (i : Nat) (h : i < us.length), (flatV us)[2 * i]? = some us[i].1 ∧ (flatV us)[2 * i + 1]? = some us[i].2
  | u :: us, 0, _ => ⟨rfl, rfl⟩
  | u :: us, i + 1, h => by
    have ih := flatV_at us i (by simpa using h)
    have e : flatV (u :: us) = u.1 :: u.2 :: flatV us := by simp [flatV]
    rw [e, show 2 * (i + 1) = 2 * i + 1 + 1 by omega, show 2 * i + 1 + 1 + 1 = (2 * i + 1) + 1 + 1 by omega]
    simpa using ih
theorem Sp.of {S : Nat → Prop} {lo g0 c n : Nat} {W : World} {hs : List Hu} {us : List (Value × Value)} (h : HuOwn lo W (.slice (some ⟨g0, 0, none⟩) n c) hs us) (hn : hs.length = n) (hB : HuB hs) (hlo : lo ≤ W.heap.size)
    (hS : ∀ x ∈ (Value.slice (some ⟨g0, 0, none⟩) n c) :: flatV us, ∀ g, x.ownBlock = some g → S g) :
    ∃ rs vs, Sp S W W lo g0 c n rs vs ∧ (∀ u (hu : u + 1 < rs.length), rs[u + 1].v = vs u) ∧ ∀ u (hu : u + 1 < rs.length), rs[u + 1].n ≤ 8796093021952 := by
  subst hn
  have hl := flatR_len hs us h.len
  have hm := flatR_map hs us h.len
  have hv : ∀ u (hu : u < (flatR hs us).length), (flatR hs us)[u].v = ((flatV us)[u]?).getD (.bool false) := fun u hu => by
    rw [← hm, List.getElem?_map, List.getElem?_eq_getElem hu]; rfl
  have hvl : (flatV us).length = 2 * hs.length := by rw [← hm, List.length_map, hl]
  have hmem : ∀ u (hu : u < (flatR hs us).length), (flatR hs us)[u].v ∈ flatV us := fun u hu => by
    rw [← hm]; exact List.mem_map.2 ⟨_, List.getElem_mem hu, rfl⟩
  have hap : ∀ u k (hu : u < (flatR hs us).length) (hk : k < (flatR hs us).length), u < k → Apart (flatR hs us)[u].v (flatR hs us)[k].v := fun u k hu hk huk => by
    have := List.pairwise_iff_getElem.1 h.dis u k (by omega) (by omega) huk
    simp only [← hm, List.getElem_map] at this
    exact this
  refine ⟨⟨.slice (some ⟨g0, 0, none⟩) hs.length c, 47, 3, hs.length⟩ :: flatR hs us, fun u => ((flatV us)[u]?).getD (.bool false), ⟨⟨fun i hi => ?_, fun i j hi hj hij k h1 h2 => ?_, KeptBut.refl _ _, fun i hi k hk => .inl ?_, hlo⟩, by rw [List.length_cons, hl], fun _ => rfl, fun u hu => ?_, fun u hu => ?_⟩, fun u hu => ?_, fun u hu => ?_⟩
  · cases i with
    | zero => exact ⟨_, h.row⟩
    | succ i =>
      have hi' : i < (flatR hs us).length := by simpa using hi
      simp only [List.getElem_cons_succ]
      obtain ⟨q, g, g', e | e⟩ := flatR_mem hs us h.len _ (List.getElem_mem hi')
      · rw [e]; exact ⟨_, (h.subs q g g').1⟩
      · rw [e]; exact ⟨_, (h.subs q g g').2⟩
  · cases i with
    | zero =>
      cases j with
      | zero => exact hij rfl
      | succ j =>
        have hj' : j < (flatR hs us).length := by simpa using hj
        simp only [List.getElem_cons_succ, List.getElem_cons_zero] at h1 h2
        exact h.top _ (hmem j hj') k h2 h1
    | succ i =>
      have hi' : i < (flatR hs us).length := by simpa using hi
      cases j with
      | zero =>
        simp only [List.getElem_cons_succ, List.getElem_cons_zero] at h1 h2
        exact h.top _ (hmem i hi') k h1 h2
      | succ j =>
        have hj' : j < (flatR hs us).length := by simpa using hj
        simp only [List.getElem_cons_succ] at h1 h2
        rcases Nat.lt_or_ge i j with e | e
        · exact hap i j hi' hj' e k h1 h2
        · exact hap j i hj' hi' (by omega) k h2 h1
  · cases i with
    | zero => exact hS _ (.head _) k hk
    | succ i => exact hS _ (.tail _ (hmem i (by simpa using hi))) k (by simpa using hk)
  · have hu' : u < (flatR hs us).length := by simpa using hu
    simp only [List.getElem_cons_succ]
    obtain ⟨q, g, g', e | e⟩ := flatR_mem hs us h.len _ (List.getElem_mem hu')
    · rw [e]; exact ⟨rfl, rfl⟩
    · rw [e]; exact ⟨rfl, rfl⟩
  · have hq : u / 2 < us.length := by rw [← h.len]; omega
    obtain ⟨a0, a1, a2⟩ := huCells_at hs us (u / 2) (by omega) hq
    obtain ⟨f1, f2⟩ := flatV_at us (u / 2) hq
    have hcl := huCells_len hs us h.len
    rcases Nat.mod_two_eq_zero_or_one u with e | e
    · have e1 : u = 2 * (u / 2) := by omega
      have e2 : slot u = u / 2 * 3 + 1 := by unfold slot; omega
      rw [h.row.cellAt (slot u) (by omega), e2, a1]
      conv => rhs; rw [e1, f1]
      rfl
    · have e1 : u = 2 * (u / 2) + 1 := by omega
      have e2 : slot u = u / 2 * 3 + 2 := by unfold slot; omega
      rw [h.row.cellAt (slot u) (by omega), e2, a2]
      conv => rhs; rw [e1, f2]
      rfl
  · simp only [List.getElem_cons_succ]
    exact hv u (by simpa using hu)
  · have hu' : u < (flatR hs us).length := by simpa using hu
    simp only [List.getElem_cons_succ]
    obtain ⟨q, g, g', e | e⟩ := flatR_mem hs us h.len _ (List.getElem_mem hu')
    · rw [e]; exact (hB.at q g).1
    · rw [e]; exact (hB.at q g).2.1
/-- Two rows of one hunk in view. -/
structure St (S : Nat → Prop) (w0 W : World) (lo g0 c n : Nat) (rs : List RowT) (vs : Nat → Value) (i : Nat) (xa : Value) (na : Nat) (xb : Value) (nb : Nat) : Prop where
  sp : Sp S w0 W lo g0 c n rs vs
  hi : i < n
  ra : rs[2 * i + 1]? = some ⟨xa, 9, 1, na⟩
  rb : rs[2 * i + 1 + 1]? = some ⟨xb, 9, 1, nb⟩
section
variable {S : Nat → Prop} {w0 W : World} {lo g0 c n : Nat} {rs : List RowT} {vs : Nat → Value} {i na nb : Nat} {xa xb : Value}
theorem St.ia (h : St S w0 W lo g0 c n rs vs i xa na xb nb) : ∃ hu : 2 * i + 1 < rs.length, rs[2 * i + 1] = ⟨xa, 9, 1, na⟩ := List.getElem?_eq_some_iff.1 h.ra
theorem St.ib (h : St S w0 W lo g0 c n rs vs i xa na xb nb) : ∃ hu : 2 * i + 1 + 1 < rs.length, rs[2 * i + 1 + 1] = ⟨xb, 9, 1, nb⟩ := List.getElem?_eq_some_iff.1 h.rb
theorem St.alloc (h : St S w0 W lo g0 c n rs vs i xa na xb nb) (o : Obj) : St S w0 (W.alloc o) lo g0 c n rs vs i xa na xb nb := ⟨h.sp.alloc o, h.hi, h.ra, h.rb⟩
theorem St.owna (h : St S w0 W lo g0 c n rs vs i xa na xb nb) : ∃ cs, W.ownsRow lo 9 1 xa na cs := by
  obtain ⟨hu, e⟩ := h.ia
  have := h.sp.ok.own (2 * i + 1) hu
  rwa [e] at this
theorem St.ownb (h : St S w0 W lo g0 c n rs vs i xa na xb nb) : ∃ cs, W.ownsRow lo 9 1 xb nb cs := by
  obtain ⟨hu, e⟩ := h.ib
  have := h.sp.ok.own (2 * i + 1 + 1) hu
  rwa [e] at this
theorem St.base (h : St S w0 W lo g0 c n rs vs i xa na xb nb) : lo ≤ W.heap.size := Nat.le_trans h.sp.ok.hB h.sp.ok.kept.size
theorem St.growa {W' : World} {x' : Value} {m' : Nat} {cs' : List Value} (h : St S w0 W lo g0 c n rs vs i xa na xb nb) (hgr : W.grownBy W' xa.ownBlock) (ho : W'.ownsRow lo 9 1 x' m' cs') (hbk : x'.ownBlock = xa.ownBlock ∨ x'.ownBlock = some W.heap.size) :
    St S w0 W' lo g0 c n (rs.set (2 * i + 1) ⟨x', 9, 1, m'⟩) vs i x' m' xb nb := by
  obtain ⟨hu, e⟩ := h.ia
  exact ⟨h.sp.grow (2 * i) hu (by rw [e]; exact hgr) ho (by rw [e]; exact hbk), h.hi, by rw [List.getElem?_set_self hu], by rw [List.getElem?_set_ne (by omega)]; exact h.rb⟩
theorem St.growb {W' : World} {x' : Value} {m' : Nat} {cs' : List Value} (h : St S w0 W lo g0 c n rs vs i xa na xb nb) (hgr : W.grownBy W' xb.ownBlock) (ho : W'.ownsRow lo 9 1 x' m' cs') (hbk : x'.ownBlock = xb.ownBlock ∨ x'.ownBlock = some W.heap.size) :
    St S w0 W' lo g0 c n (rs.set (2 * i + 1 + 1) ⟨x', 9, 1, m'⟩) vs i xa na x' m' := by
  obtain ⟨hu, e⟩ := h.ib
  exact ⟨h.sp.grow (2 * i + 1) hu (by rw [e]; exact hgr) ho (by rw [e]; exact hbk), h.hi, by rw [List.getElem?_set_ne (by omega)]; exact h.ra, by rw [List.getElem?_set_self hu]⟩
theorem slot_even (i : Nat) : slot (2 * i) = i * 3 + 1 := by unfold slot; omega
theorem slot_odd (i : Nat) : slot (2 * i + 1) = i * 3 + 2 := by unfold slot; omega
theorem St.cells {ya yb : Value} (h : St S w0 W lo g0 c n rs vs i xa na xb nb) (ea : vs (2 * i) = ya) (eb : vs (2 * i + 1) = yb) : W.cell? ⟨g0, i * 3 + 1, none⟩ = some ya ∧ W.cell? ⟨g0, i * 3 + 2, none⟩ = some yb := by
  have h1 := h.sp.cel (2 * i) (by have := h.hi; omega)
  have h2 := h.sp.cel (2 * i + 1) (by have := h.hi; omega)
  rw [slot_even, ea] at h1
  rw [slot_odd, eb] at h2
  exact ⟨h1, h2⟩
end
def Tied (rs : List RowT) (vs : Nat → Value) : Prop := ∀ u (hu : u + 1 < rs.length), rs[u + 1].v = vs u
def Small (rs : List RowT) (i k : Nat) : Prop := ∀ u (hu : u + 1 < rs.length), 2 * i ≤ u → rs[u + 1].n ≤ 8796093021952 + (if u ≤ 2 * i + 1 then k else 0)
theorem Tied.set {rs : List RowT} {vs : Nat → Value} (h : Tied rs vs) (u : Nat) (r : RowT) : Tied (rs.set (u + 1) r) (fun k => if k = u then r.v else vs k) := fun k hk => by
  rw [List.length_set] at hk
  by_cases e : k = u
  · subst e; rw [List.getElem_set_self]; exact (if_pos rfl).symm
  · rw [List.getElem_set_ne (by omega)]; exact (h k hk).trans (if_neg e).symm
theorem Small.set {rs : List RowT} {i k : Nat} (h : Small rs i k) (ra rb : RowT) (h1 : ra.n ≤ 8796093021952 + (k + 1)) (h2 : rb.n ≤ 8796093021952 + (k + 1)) : Small ((rs.set (2 * i + 1) ra).set (2 * i + 1 + 1) rb) i (k + 1) := fun u hu h0 => by
  rw [List.length_set, List.length_set] at hu
  by_cases e1 : u = 2 * i + 1
  · subst e1; rw [List.getElem_set_self]; split <;> omega
  · rw [List.getElem_set_ne (by omega)]
    by_cases e2 : u = 2 * i
    · subst e2; rw [List.getElem_set_self]; split <;> omega
    · rw [List.getElem_set_ne (by omega)]
      have := h u hu h0
      split at this <;> split <;> omega
end Go.Proofs.Ytjmnbnlhahbcjaa
