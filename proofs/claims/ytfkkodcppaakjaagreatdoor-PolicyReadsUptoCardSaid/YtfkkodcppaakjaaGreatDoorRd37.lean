/- Texts of the proof, merged: PrNewP, SrLess, LabRow. -/
import Derived.Test.YtfkkodcppaakjaaGreatDoorRd6
import Derived.Test.YtfkkodcppaakjaaGreatDoorRd17
import Derived.Test.YtfkkodcppaakjaaGreatDoorRd18
import Derived.Test.YtfkkodcppaakjaaGreatDoorRd36
import Derived.Sort.WalkA
import Derived.Below
/- An own row of viewers with a row of viewers behind it; plain facts of sorting by insertion. -/
namespace Go.Proofs.YtfkkodcppaakjaaGreatDoor
open Go Go.RowKit

theorem addrAdd' (b off i : Nat) : (⟨b, off, none⟩ : Addr).add i = ⟨b, off + i, none⟩ := by
  unfold Addr.add
  by_cases h : i = 0
  · subst h; rfl
  · simp [h]
theorem app_vw {P : Program} {w : World} {ops : Array Oper} {rest : List Oper} {o : Oper} {a : Act} {Q : Exit → Act → World → Prop} (hgd : o.guard = none) (s x : Operand) (t : TypeId)
    (ho : o.op = .call { callee := .builtin .append, args := #[s, x], argTypes := #[t, t] })
    (base : Nat) (e : TypeId) (i : TypeInfo) (z : Value) (ht : P.underlying t = some (.slice e)) (hi : P.info? e = some i) (hz : i.zero = some z) (hsize : i.size = 2) (hby : i.bytes = 24) (hzs : z.cells.size = 2)
    (v : Value) (m0 : Nat) (ys : List Vw) (hs : a.eval s = v) (hown : w.ownsRow base e 2 v m0 (flat ys)) (p : Option Addr) (m c : Nat) (xs : List Vw) (hx : a.eval x = .slice p m c) (hl : xs.length = m) (hrow : VwRow w p xs) (hnil : p = none → m = 0 ∧ c = 0)
    (hm : m0 + m ≤ 5864062014804) (hbase : base ≤ w.heap.size)
    (h : ∀ v' w', w'.ownsRow base e 2 v' (m0 + m) (flat (ys ++ xs)) → Below base w w' → wpList P ops Q rest (a.put o.dst v') w') : wpList P ops Q (o :: rest) a w := by
  cases p with
  | none =>
    obtain ⟨rfl, rfl⟩ := hnil rfl
    have e0 : xs = [] := List.eq_nil_of_length_eq_zero hl
    subst e0
    exact wpList_append_own_none hgd s x t ho base e i 2 ht hi v m0 (flat ys) hs hown hx (h v w (by rw [List.append_nil]; exact hown) (Below.refl _ _))
  | some ad =>
    refine wpList_append_own w hgd s x t ho base e i z 2 24 ht hi hz hsize hby hzs (by decide) v m0 (flat ys) hs hown ad m c (flat xs) hx (by rw [flat_len, hl]) ?_ ?_ (by unfold maxLen; omega) (by omega) hbase ?_
    · intro j u hj
      have hjl : j < (flat xs).length := by
        rcases Nat.lt_or_ge j (flat xs).length with h' | h'
        · exact h'
        · rw [List.getElem?_eq_none h'] at hj; cases hj
      rw [flat_len] at hjl
      have hi' : j / 2 < xs.length := by omega
      obtain ⟨b, off, e1, hlt, h0, h1⟩ := hrow (j / 2) hi'
      injection e1 with e1
      subst e1
      have hf := flat_at xs (j / 2) (j % 2) hi' (Nat.mod_lt _ (by decide))
      have ej : j / 2 * 2 + j % 2 = j := by omega
      rw [ej, hj] at hf
      rw [addrAdd']
      have hr : j % 2 = 0 ∨ j % 2 = 1 := by omega
      rcases hr with r | r
      · rw [r] at hf
        rw [show off + j = off + j / 2 * 2 by omega, h0]; exact hf.symm
      · rw [r] at hf
        rw [show off + j = off + j / 2 * 2 + 1 by omega, h1]; exact hf.symm
    · intro u hu
      unfold flat at hu
      obtain ⟨x, _, hx⟩ := List.mem_flatMap.1 hu
      simp [Vw.vals] at hx
      rcases hx with rfl | rfl <;> rfl
    · intro v' w' ho' hg _
      refine h v' w' ?_ ((Below.refl base w).grown hg hbase fun g hg' => (hown.lt g hg').1)
      rw [show flat (ys ++ xs) = flat ys ++ flat xs by simp [flat]]
      exact ho'
/-- Where a name stands in rising names. -/
def AtPlace (S : List Vw) (x : Vw) (k : Nat) : Prop := k ≤ S.length ∧ (∀ j (h : j < S.length), j < k → S[j].s < x.s) ∧ ∀ h : k < S.length, ¬ S[k].s < x.s
theorem place_new {S : List Vw} {x : Vw} {k : Nat} (hS : Rising S) (hp : AtPlace S x k) (hne : ∀ h : k < S.length, S[k].s ≠ x.s) : Rising (S.take k ++ x :: S.drop k) ∧ (S ++ [x]).Perm (S.take k ++ x :: S.drop k) := by
  obtain ⟨hk, h1, h2⟩ := hp
  constructor
  · unfold Rising
    rw [List.pairwise_append]
    refine ⟨List.Pairwise.sublist (List.take_sublist k S) hS, ?_, ?_⟩
    · rw [List.pairwise_cons]
      refine ⟨fun y hy => ?_, List.Pairwise.sublist (List.drop_sublist k S) hS⟩
      obtain ⟨j, hj, rfl⟩ := List.getElem_of_mem hy
      rw [List.getElem_drop]
      have hkl : k < S.length := by rw [List.length_drop] at hj; omega
      have h3 : x.s < S[k].s := by
        rcases Std.lt_trichotomy S[k].s x.s with h | h | h
        · exact absurd h (h2 hkl)
        · exact absurd h (hne hkl)
        · exact h
      rcases Nat.eq_zero_or_pos j with h0 | h0
      · subst h0; exact h3
      · have := List.pairwise_iff_getElem.1 hS k (k + j) hkl (by rw [List.length_drop] at hj; omega) (by omega)
        exact Std.lt_trans h3 this
    · intro y hy z hz
      obtain ⟨i, hi, rfl⟩ := List.getElem_of_mem hy
      rw [List.length_take] at hi
      rw [List.getElem_take]
      rcases List.mem_cons.1 hz with rfl | hz
      · exact h1 i (by omega) (by omega)
      · obtain ⟨j, hj, rfl⟩ := List.getElem_of_mem hz
        rw [List.getElem_drop]
        rw [List.length_drop] at hj
        exact List.pairwise_iff_getElem.1 hS i (k + j) (by omega) (by omega) (by omega)
  · have e : S ++ [x] = (S.take k ++ S.drop k) ++ [x] := by rw [List.take_append_drop]
    rw [e, List.append_assoc]
    exact List.Perm.append_left _ (List.perm_append_comm (l₁ := S.drop k) (l₂ := [x]))
theorem place_twice {S : List Vw} {x : Vw} {k : Nat} (h : k < S.length) (e : S[k].s = x.s) : x.s ∈ names S := by
  rw [← e]; exact List.mem_map_of_mem (List.getElem_mem h)
end Go.Proofs.YtfkkodcppaakjaaGreatDoor
/- The order of labels as the library's sort asks for it: by contracts. -/
namespace Go.Proofs.YtfkkodcppaakjaaGreatDoor
open Go Go.RowKit

/-- a label as a value -/
abbrev lbV (c : Nat) : Value := .int .u64 c
/-- the order of labels -/
abbrev ltL (a b : Nat) : Bool := decide (a < b)
theorem ltL_int (a b : Nat) : decide ((a : Int) < (b : Int)) = ltL a b := by simp [ltL]

theorem lbNaN_any (x : Nat) (w : World) : Calls Tryz.prog 176 #[lbV x] w fun e w' => e = .returned (.bool false) ∧ w' = w := by
  go_enter Tryz.func176, Tryz.ntmps176
  go_wp2
  go_ret
  exact ⟨by simp, rfl⟩
theorem lbLess_any (x y : Nat) (w : World) : Calls Tryz.prog 147 #[lbV x, lbV y] w fun e w' => e = .returned (.bool (ltL x y)) ∧ w' = w := by
  go_enter Tryz.func147, Tryz.ntmps147
  go_wp2_with (go_at_call 176; refine (lbNaN_any _ _).mono ?_; rintro e w' ⟨rfl, rfl⟩)
  go_ret
  refine ⟨?_, rfl⟩
  simp [ltL]
end Go.Proofs.YtfkkodcppaakjaaGreatDoor
/- Rows of labels in memory. -/
namespace Go.Proofs.YtfkkodcppaakjaaGreatDoor
open Go Go.RowKit

/-- A list of labels that a slice points to. -/
def LabRow (w : World) (p : Option Addr) (cs : List Nat) : Prop := ∀ i (h : i < cs.length), ∃ b off, p = some ⟨b, off, none⟩ ∧ b < w.heap.size ∧ w.cell? ⟨b, off + i, none⟩ = some (.int .u64 cs[i])
theorem LabRow.at {w : World} {p : Option Addr} {cs : List Nat} (h : LabRow w p cs) (i : Nat) (hi : i < cs.length) : ∃ b off, p = some ⟨b, off, none⟩ ∧ b < w.heap.size ∧ ∀ W, Below w.heap.size w W → W.cell? ⟨b, off + i, none⟩ = some (.int .u64 cs[i]) := by
  obtain ⟨b, off, e, hlt, hc⟩ := h i hi
  exact ⟨b, off, e, hlt, fun W hb => (hb.cell (p := ⟨b, off + i, none⟩) hlt).trans hc⟩
theorem LabRow.later {w W : World} {p : Option Addr} {cs : List Nat} (h : LabRow w p cs) (hb : Below w.heap.size w W) : LabRow W p cs := fun i hi => by
  obtain ⟨b, off, e, hlt, hc⟩ := h i hi
  exact ⟨b, off, e, Nat.lt_of_lt_of_le hlt hb.size, (hb.cell (p := ⟨b, off + i, none⟩) hlt).trans hc⟩
def labVals (cs : List Nat) : List Value := cs.map lbV
theorem labVals_len (cs : List Nat) : (labVals cs).length = cs.length := by simp [labVals]
theorem labVals_snoc (cs : List Nat) (c : Nat) : labVals (cs ++ [c]) = labVals cs ++ [lbV c] := by simp [labVals]
theorem lab_owned {W : World} {B : Nat} {e : TypeId} {v : Value} {n : Nat} {cs : List Nat} (hn : cs.length = n) (h : W.ownsRow B e 1 v n (labVals cs)) : ∃ p c, v = .slice p n c ∧ LabRow W p cs := by
  subst hn
  rcases h.2 with ⟨hv, h0⟩ | ⟨g, cap, cur, hv, _⟩
  · refine ⟨none, 0, by rw [hv, h0], fun i hi => ?_⟩
    omega
  · refine ⟨some ⟨g, 0, none⟩, cap, hv, fun i hi => ?_⟩
    subst hv
    have hc := h.cellAt i (by omega)
    unfold labVals at hc
    rw [List.getElem?_map, List.getElem?_eq_getElem hi] at hc
    have hlt := World.block_lt_of_cell? W _ (show W.cell? ⟨g, i, none⟩ = some (.int .u64 cs[i]) from hc)
    exact ⟨g, 0, rfl, hlt, by rw [Nat.zero_add]; exact hc⟩
end Go.Proofs.YtfkkodcppaakjaaGreatDoor
