/- Lists of texts copied behind a row of the call's own; slices.Grow, slices.Concat of two lists; diff.copied. -/
import Derived.Test.YtjmnbnlhahbcjaaDfRows
import Derived.Lib.AppendZerosOnto
import Derived.Lib.SliceRun
import Derived.Lib.Walk
namespace Go.Proofs.Ytjmnbnlhahbcjaa
open Go Go.RowKit

theorem own_mono {W : World} {B B' z : Nat} {e : TypeId} {v : Value} {n : Nat} {cs : List Value} (h : W.ownsRow B e z v n cs) (hB : B' ≤ B) : W.ownsRow B' e z v n cs := by
  refine ⟨h.1, ?_⟩
  rcases h.2 with h' | ⟨g, cap, cur, hv, hb, rest⟩
  · exact .inl h'
  · exact .inr ⟨g, cap, cur, hv, Nat.le_trans hB hb, rest⟩
theorem tx_cell {w : World} {ad : Addr} {xs : List Tx} (h : StrRow w (some ad) xs) : ∀ j u, (xs.map Value.string)[j]? = some u → w.cell? (ad.add j) = some u := by
  intro j u hj
  rw [List.getElem?_map] at hj
  cases hx : xs[j]? with
  | none => rw [hx] at hj; cases hj
  | some y =>
    rw [hx] at hj
    obtain ⟨hi, rfl⟩ := List.getElem?_eq_some_iff.1 hx
    obtain ⟨b, off, e1, _, hc⟩ := h j hi
    injection e1 with e1
    subst e1
    rw [addrAdd, hc]; exact hj
theorem tx_one (xs : List Tx) : ∀ u ∈ xs.map Value.string, u.oneCell' = true := by
  intro u hu
  obtain ⟨y, _, rfl⟩ := List.mem_map.1 hu
  rfl
theorem app_tx {P : Program} {w : World} {ops : Array Oper} {rest : List Oper} {o : Oper} {a : Act} {Q : Exit → Act → World → Prop} (hgd : o.guard = none) (s x : Operand) (t : TypeId)
    (ho : o.op = .call { callee := .builtin .append, args := #[s, x], argTypes := #[t, t] })
    (base : Nat) (e : TypeId) (i : TypeInfo) (z : Value) (ht : P.underlying t = some (.slice e)) (hi : P.info? e = some i) (hz : i.zero = some z) (hsize : i.size = 1) (hby : i.bytes = 16) (hzs : z.cells.size = 1)
    (v : Value) (m0 : Nat) (ys : List Tx) (hs : a.eval s = v) (hown : w.ownsRow base e 1 v m0 (ys.map Value.string)) (p : Option Addr) (m c : Nat) (xs : List Tx) (hx : a.eval x = .slice p m c) (hl : xs.length = m) (hrow : StrRow w p xs) (hnil : p = none → m = 0 ∧ c = 0)
    (hm : m0 + m ≤ 8796093022208) (hbase : base ≤ w.heap.size)
    (h : ∀ v' w', w'.ownsRow base e 1 v' (m0 + m) ((ys ++ xs).map Value.string) → w.grownBy w' v.ownBlock → (v'.ownBlock = v.ownBlock ∨ v'.ownBlock = some w.heap.size) → wpList P ops Q rest (a.put o.dst v') w') : wpList P ops Q (o :: rest) a w := by
  cases p with
  | none =>
    obtain ⟨rfl, rfl⟩ := hnil rfl
    have e0 : xs = [] := List.eq_nil_of_length_eq_zero hl
    subst e0
    exact wpList_append_own_none hgd s x t ho base e i 1 ht hi v m0 (ys.map Value.string) hs hown hx (h v w (by rw [List.append_nil]; exact hown) ⟨rfl, rfl, rfl, Nat.le_refl _, fun _ _ _ => rfl⟩ (.inl rfl))
  | some ad =>
    refine wpList_append_blk w hgd s x t ho base e i z 1 16 ht hi hz hsize hby hzs (by decide) v m0 (ys.map Value.string) hs hown ad m c (xs.map Value.string) hx (by rw [List.length_map, hl]; omega) (tx_cell hrow) (tx_one xs) (by unfold maxLen; omega) (by omega) hbase ?_
    intro v' w' ho' hgr hbk
    exact h v' w' (by rw [List.map_append]; exact ho') hgr hbk
set_option maxRecDepth 100000 in
/-- A list copied, in new memory. -/
theorem copied_any (w : World) (p : Option Addr) (n c : Nat) (xs : List Tx) (hn : xs.length = n) (hnm : n ≤ 8796093022208) (hr : StrRow w p xs) (hnil : p = none → n = 0 ∧ c = 0) :
    Calls Try.prog 60 #[.slice p n c] w fun e w' => Below w.heap.size w w' ∧ ∃ v, e = .returned v ∧ w'.ownsRow w.heap.size 9 1 v n (xs.map Value.string) := by
  obtain ⟨i0, hi, hz0, hz1, hz2⟩ := info_parts strInfo
  go_enter Try.func60, Try.ntmps60
  go_wp2_with (at_builtin; refine app_tx rfl _ _ 33 rfl w.heap.size 9 i0 (.string ⟨#[]⟩) Try.underlying33 hi hz0 hz1 hz2 rfl _ 0 [] rfl (World.ownsRow_nil _ _ _ _) p n c xs rfl hn hr hnil (by omega) (Nat.le_refl _) ?_)
  intro v' w' ho' hgr _
  have hb : Below w.heap.size w w' := (Below.refl _ _).grown hgr (Nat.le_refl _) (fun g hg => by cases hg)
  clear hgr
  go_wp2_with fail
  go_ret
  exact ⟨hb, _, rfl, ho'⟩
set_option maxRecDepth 100000 in
set_option maxHeartbeats 4000000 in
theorem grow_any (w : World) (n : Nat) (hn : n ≤ 8796093022208) :
    Calls Try.prog 84 #[.slice none 0 0, .int .i64 n] w fun e w' => Below w.heap.size w w' ∧ ∃ v, e = .returned v ∧ w'.ownsRow w.heap.size 9 1 v 0 [] := by
  obtain ⟨i0, hi, hz0, hz1, hz2⟩ := info_parts strInfo
  have h1 : ¬ ((n : Int) < 0) := by omega
  by_cases h0 : n = 0
  · subst h0
    go_enter Try.func84, Try.ntmps84
    go_wp2_with fail
    go_ret
    exact ⟨Below.refl _ _, _, rfl, World.ownsRow_nil _ _ _ _⟩
  · have h4 : (n : Int) > 0 := by omega
    have hrz : ∀ ty, (Builtin.append_ #[33, 3] ty #[.slice none 0 0, .int .i64 (n : Int)]).run Try.prog w =
        .ok (.slice (some ⟨w.heap.size, 0, none⟩) n (grownCap w n 0 9)) (w.drew.alloc (.cells (([] : List Value).toArray ++ Builtin.zeroCells (Value.string ⟨#[]⟩).cells n ++ Builtin.zeroCells (Value.string ⟨#[]⟩).cells (grownCap w n 0 9 - n)) 9)) := fun ty => by
      have h := Lib.run_append_grow_zeros (P := Try.prog) w 33 3 ty 9 i0 (.string ⟨#[]⟩) .i64 .i64 Try.underlying33 Try.underlying3 hi hz0 none 0 0 [] (run_firstCells_none w.drew i0.size 0 0 0) n (by omega) (by rw [hz1]; decide) (by omega) (by omega) (by rw [hz2]; omega) (growslice_fits (by omega) (by rw [hz2]; omega))
      simpa using h
    have hG1 : n ≤ grownCap w n 0 9 := grownCap_ge w _ _ _
    have hG2 : grownCap w n 0 9 ≤ maxLen := grownCap_le_maxLen w n 0 9 (by unfold maxLen; omega)
    obtain ⟨G, hG⟩ : ∃ G, G = grownCap w n 0 9 := ⟨_, rfl⟩
    rw [← hG] at hrz hG1 hG2
    have hG63 : G ≤ 9223372036854775807 := by unfold maxLen at hG2; omega
    clear hG
    go_enter Try.func84, Try.ntmps84
    go_wp2_with (at_builtin; refine Lib.wpList_append_run _ rfl _ _ _ _ rfl _ _ rfl rfl _ _ (hrz _) ?_)
    all_goals go_ret
    refine ⟨?_, _, rfl, ?_⟩
    · exact (Below.drew (Below.refl w.heap.size w)).alloc (by simp) _
    · refine ⟨by simp, .inr ⟨w.heap.size, G, _, rfl, Nat.le_refl _, heap_alloc_new w.drew _, Nat.zero_le _, hG2, ?_, by simp⟩⟩
      simp [Builtin.zeroCells]
      omega
set_option maxRecDepth 100000 in
set_option maxHeartbeats 4000000 in
theorem concat_any (w : World) (g : Nat) (p q : Option Addr) (n m c d : Nat) (a b : List Tx) (hn : a.length = n) (hm : b.length = m) (hnm : n + m ≤ 8796093022208) (hp : StrRow w p a) (hq : StrRow w q b) (hpn : p = none → n = 0 ∧ c = 0) (hqn : q = none → m = 0 ∧ d = 0)
    (hg : g < w.heap.size) (g0 : w.cell? ⟨g, 0, none⟩ = some (.slice p n c)) (g1 : w.cell? ⟨g, 1, none⟩ = some (.slice q m d)) :
    Calls Try.prog 79 #[.slice (some ⟨g, 0, none⟩) 2 2] w fun e w' => Below w.heap.size w w' ∧ ∃ v, e = .returned v ∧ w'.ownsRow w.heap.size 9 1 v (n + m) ((a ++ b).map Value.string) := by
  obtain ⟨i0, hi, hz0, hz1, hz2⟩ := info_parts strInfo
  have HN := Lib.hid hn
  have HM := Lib.hid hm
  have HP := Lib.hid hp
  have HQ := Lib.hid hq
  have G0 := Lib.hid (fun W (hb : Below w.heap.size w W) => (hb.cell (p := ⟨g, 0, none⟩) hg).trans g0)
  have G1 := Lib.hid (fun W (hb : Below w.heap.size w W) => (hb.cell (p := ⟨g, 1, none⟩) hg).trans g1)
  clear hn hm hp hq g0 g1
  go_enter Try.func79, Try.ntmps79
  go_wp2_with fail
  go_loopg [3, 11] 2 (fun g v vi wr => ∃ k : Nat, k + g = 2 ∧ vi = .int .i64 k ∧ Below w.heap.size w wr ∧ v = .int .i64 ((if k = 0 then 0 else if k = 1 then n else n + m : Nat) : Int))
  case atStart => exact ⟨0, by omega, rfl, Below.refl _ _, rfl⟩
  case round =>
    obtain ⟨k, hk, rfl, hbr, rfl⟩ := hrel
    have e0 := G0.out wr hbr
    have e1 := G1.out wr hbr
    have hk3 : k = 0 ∨ k = 1 ∨ k = 2 := by omega
    rcases hk3 with rfl | rfl | rfl
    · have h1 : ¬ ((n : Int) < 0) := by omega
      go_wp2_with fail
      go_roundg (gk - 1)
      case rel => exact ⟨1, by omega, by go_num, hbr, by go_num⟩
      case measure => omega
    · have h1 : ¬ ((n : Int) + (m : Int) < 0) := by omega
      have hw : wrap64 ((n : Int) + m) = (n : Int) + m := by unfold wrap64; omega
      have h2 : ((n : Int) + (m : Int) < 0) = False := eq_false h1
      go_wp2_with fail
      go_roundg (gk - 1)
      case rel => exact ⟨2, by omega, by go_num, hbr, by simp⟩
      case measure => omega
    · have cG := grow_any wr (n + m) hnm
      have HB := Lib.hid hbr
      have hsr := hbr.size
      clear hbr e0 e1
      simp only [if_neg (show ¬ (2 : Nat) = 0 by decide), if_neg (show ¬ (2 : Nat) = 1 by decide)] at *
      go_wp2_with fail
      refine cG.mono ?_
      rintro e w2 ⟨hb2, v2, rfl, ho2⟩
      have hB2 := HB.out.trans (hb2.mono hsr)
      have hO2 : w2.ownsRow w.heap.size 9 1 v2 0 [] := own_mono ho2 hsr
      have HB2 := Lib.hid hB2
      have HO2 := Lib.hid hO2
      clear cG hb2 ho2 HB hO2 hB2
      go_wp2_with fail
      go_loopg [6, 27] 2 (fun g v vi wr => ∃ k : Nat, k + g = 2 ∧ vi = .int .i64 k ∧ Below w.heap.size w wr ∧ Hid (wr.ownsRow w.heap.size 9 1 v (if k = 0 then 0 else if k = 1 then n else n + m) ((if k = 0 then [] else if k = 1 then a else a ++ b).map Value.string)))
      case atStart => exact ⟨0, by omega, rfl, HB2.out, HO2.out⟩
      case round =>
        obtain ⟨k, hk, rfl, hbr, HO⟩ := hrel
        have hsr := hbr.size
        have e0 := G0.out _ hbr
        have e1 := G1.out _ hbr
        have hk3 : k = 0 ∨ k = 1 ∨ k = 2 := by omega
        rcases hk3 with rfl | rfl | rfl
        · have ho := HO.out
          simp only [if_true] at ho
          have hrow := HP.out.later hbr
          have HB := Lib.hid hbr
          clear HO hbr
          go_wp2_with (at_builtin; refine app_tx rfl _ _ 33 rfl w.heap.size 9 i0 (.string ⟨#[]⟩) Try.underlying33 hi hz0 hz1 hz2 rfl _ 0 [] rfl ho p n c a rfl HN.out hrow hpn (by omega) hsr ?_)
          intro v' w' ho' hgr _
          have hbb : Below w.heap.size w w' := HB.out.grown hgr hsr (fun g hg => (ho.lt g hg).1)
          have HOO := Lib.hid ho'
          clear ho ho' hgr hrow
          go_wp2_with fail
          go_roundg (gk - 1)
          case rel => exact ⟨1, by omega, by go_num, hbb, by show World.ownsRow _ _ _ _ _ _ _; simpa using HOO.out⟩
          case measure => omega
        · have ho := HO.out
          simp only [if_neg (show ¬ (1 : Nat) = 0 by decide), if_true] at ho
          have hrow := HQ.out.later hbr
          have HB := Lib.hid hbr
          clear HO hbr
          go_wp2_with (at_builtin; refine app_tx rfl _ _ 33 rfl w.heap.size 9 i0 (.string ⟨#[]⟩) Try.underlying33 hi hz0 hz1 hz2 rfl _ n a rfl ho q m d b rfl HM.out hrow hqn (by omega) hsr ?_)
          intro v' w' ho' hgr _
          have hbb : Below w.heap.size w w' := HB.out.grown hgr hsr (fun g hg => (ho.lt g hg).1)
          have HOO := Lib.hid ho'
          clear ho ho' hgr hrow
          go_wp2_with fail
          go_roundg (gk - 1)
          case rel => exact ⟨2, by omega, by go_num, hbb, by show World.ownsRow _ _ _ _ _ _ _; simpa using HOO.out⟩
          case measure => omega
        · have ho := HO.out
          simp only [if_neg (show ¬ (2 : Nat) = 0 by decide), if_neg (show ¬ (2 : Nat) = 1 by decide)] at ho
          have HOO := Lib.hid ho
          have HB := Lib.hid hbr
          clear ho HO hbr
          go_wp2_with fail
          go_ret
          exact ⟨HB.out, _, rfl, HOO.out⟩
end Go.Proofs.Ytjmnbnlhahbcjaa
