/- ident.Twice, by its contract. -/
import Derived.Test.YtfkkodcppaakjaaIdBase
namespace Go.Proofs.Ytfkkodcppaakjaa
open Go Go.RowKit Go.Maps

/-- The identities of lines. -/
def idsOf (xs : List Li) : List (Nat × Int) := xs.map Li.id
theorem ids_snoc {xs : List Li} {k : Nat} (hk : k < xs.length) : idsOf (xs.take (k + 1)) = idsOf (xs.take k) ++ [xs[k].id] := by
  unfold idsOf
  rw [List.take_succ_eq_append_getElem hk, List.map_append]; rfl
/-- Does the identity at place i stand ahead of it? -/
def hitAt (xs : List Li) (i : Nat) : Bool := decide (xs[i]!.id ∈ idsOf (xs.take i))
theorem hit_iff {xs : List Li} {k : Nat} (hk : k < xs.length) : hitAt xs k = true ↔ xs[k].id ∈ idsOf (xs.take k) := by
  unfold hitAt
  rw [decide_eq_true_eq, getElem!_pos xs k hk]
/-- The first place of a line whose identity stands ahead of it. -/
def twiceI (xs : List Li) : Option Nat := (List.range xs.length).find? (hitAt xs)
/-- What Twice answers. -/
def twV (xs : List Li) : Value := match twiceI xs with
  | some i => .tuple #[.int .i64 (i : Nat), .bool true]
  | none => .tuple #[.int .i64 0, .bool false]
theorem tw_hit {xs : List Li} {k : Nat} (hk : k < xs.length) (h : ∀ j, j < k → hitAt xs j = false) (hh : hitAt xs k = true) : twiceI xs = some k := by
  unfold twiceI
  rw [List.find?_range_eq_some]
  exact ⟨hh, List.mem_range.2 hk, fun j hj => by simp [h j hj]⟩
theorem tw_none {xs : List Li} (h : ∀ j, j < xs.length → hitAt xs j = false) : twiceI xs = none := by
  unfold twiceI
  rw [List.find?_eq_none]
  intro j hj
  simp [h j (List.mem_range.1 hj)]
theorem tw_lt {xs : List Li} {k : Nat} (h : twiceI xs = some k) : k < xs.length := by
  unfold twiceI at h
  exact List.mem_range.1 (List.mem_of_find?_eq_some h)

/-- A set of identities, as it is read. -/
structure SetIs (D : DataW Unit) (l : List (Nat × Int)) : Prop where
  map : IsMap D
  has : ∀ u n, u < 18446744073709551616 → (Lit.int .i64 n).wf = true → (Maps.has D (idLit u n) = true ↔ (u, n) ∈ l)
theorem set_nil : SetIs (.map [] : DataW Unit) [] := ⟨⟨[], rfl⟩, fun u n _ _ => by simp [Maps.has]⟩
theorem id_lit_key (u : Nat) (n : Int) : WideAt.IsKeyLit (idLit u n) := by simp [WideAt.IsKeyLit, idLit]
theorem id_inj {u u' : Nat} {n n' : Int} (hu : u < 18446744073709551616) (hn : (Lit.int .i64 n).wf = true) (hu' : u' < 18446744073709551616) (hn' : (Lit.int .i64 n').wf = true) (e : idLit u n = idLit u' n') : (u, n) = (u', n') := by
  have h1 := id_key hu hn
  have h2 := id_key hu' hn'
  rw [← e] at h2
  have := idLaw.inj h1 h2
  simp at this
  obtain ⟨e1, e2⟩ := this
  rw [show u = u' by omega, e2]
theorem SetIs.put {D : DataW Unit} {l : List (Nat × Int)} (h : SetIs D l) (u : Nat) (n : Int) (hu : u < 18446744073709551616) (hn : (Lit.int .i64 n).wf = true) : SetIs (D.put (idLit u n) (.agg [])) (l ++ [(u, n)]) := by
  refine ⟨h.map.put _ _, fun u' n' hu' hn' => ?_⟩
  by_cases e : (u', n') = (u, n)
  · obtain ⟨rfl, rfl⟩ := Prod.mk.inj e
    simp [has_put_same h.map (id_lit_key u' n')]
  · rw [has_put_other (fun e' => e (id_inj hu' hn' hu hn (by simpa using e'))), h.has u' n' hu' hn']
    simp only [List.mem_append, List.mem_singleton]
    exact ⟨.inl, fun h => h.elim id fun h => absurd h e⟩

theorem of_any (x : Li) (w : World) : Calls Try.prog 22 #[x.agg] w fun e w' => e = .returned (.agg #[.int .u64 x.u, .int .i64 x.n]) ∧ Below w.heap.size w w' := by
  unfold Li.agg
  go_enter Try.func22, Try.ntmps22
  go_wp2
  refine bodyPost_ret (v := .agg #[.int .u64 x.u, .int .i64 x.n]) (by simp [results, Try.results22, go_sem]) rfl ⟨rfl, ((Below.refl _ _).alloc (Nat.le_refl _) _).alloc (by simp) _⟩

theorem mapHint (n : Int) (w : World) : (Instr.makeMap 45 (some (.int .i64 n))).run Try.prog w = .ok (.map (some w.heap.size)) (w.alloc (.map #[] 0)) := by
  simp [Instr.makeMap, asInt, asIntOf, Sem.run_bind, run_underlying Try.underlying45]
theorem zeroUnit (w : World) : (zeroValue 46).run Try.prog w = .ok (.agg #[]) w := by kernel_rfl

set_option maxRecDepth 100000 in
set_option maxHeartbeats 4000000 in
theorem twice_any (w : World) (p : Option Addr) (n c : Nat) (xs : List Li) (hn : xs.length = n) (hnm : n < maxLen) (hr : LiRow w p xs) (hf : ∀ x ∈ xs, LiOk x) :
    Calls Try.prog 8 #[.slice p n c] w fun e w' => e = .returned (twV xs) ∧ Below w.heap.size w w' := by
  have hz := mapHint
  have HN := Lib.hid hn
  have hnm' : n ≤ 9223372036854775807 := by unfold maxLen at hnm; omega
  have HFIN := Lib.hid (fun (k : Nat) (hk : k < xs.length) (h : ∀ j, j < k → hitAt xs j = false) (hh : hitAt xs k = true) => (show twV xs = .tuple #[.int .i64 (k : Nat), .bool true] by unfold twV; rw [tw_hit hk h hh]))
  have HNO := Lib.hid (fun (h : ∀ j, j < xs.length → hitAt xs j = false) => (show twV xs = .tuple #[.int .i64 0, .bool false] by unfold twV; rw [tw_none h]))
  clear hn
  go_enter Try.func8, Try.ntmps8
  go_wp2
  clear hz
  go_loopg [14] n (fun g vi wr => ∃ k : Nat, k + g = n ∧ vi = .int .i64 k ∧ Hid (∀ j, j < k → hitAt xs j = false) ∧ Below w.heap.size w wr ∧ Hid (∃ D : DataW Unit, wr.ownsMap Try.prog 49 (unitElem (H := Unit)) w.heap.size k D ∧ SetIs D (idsOf (xs.take k))))
  case atStart => exact ⟨0, by omega, rfl, fun j h => absurd h (Nat.not_lt_zero _), (Below.refl _ _).alloc (Nat.le_refl _) _, ⟨.map [], World.ownsMap_made _ _ _ _, by rw [List.take_zero]; exact set_nil⟩⟩
  case round =>
    obtain ⟨k, hk, rfl, hno, hbr, HM⟩ := hrel
    by_cases hlt : k < n
    · have hlt' : k < xs.length := by rw [HN.out]; exact hlt
      obtain ⟨b1, o1, rfl, hb1, h1c⟩ := hr.at k hlt'
      obtain ⟨g0, g1, g2, g3⟩ := h1c wr hbr
      obtain ⟨D, hown, hD⟩ := HM.out
      have hx := hf xs[k] (List.getElem_mem hlt')
      have hkey := id_key hx.u hx.n
      have hin := hD.has xs[k].u xs[k].n hx.u hx.n
      have hhit := Lib.hid (hit_iff hlt')
      have hput := Lib.hid (show SetIs (D.put (idLit xs[k].u xs[k].n) (.agg [])) (idsOf (xs.take (k + 1))) by rw [ids_snoc hlt']; exact hD.put _ _ hx.u hx.n)
      have hfin := Lib.hid (HFIN.out k hlt' hno.out)
      have hnx := Lib.hid (fun (e : hitAt xs k = false) j (hj : j < k + 1) => (show hitAt xs j = false from by
        by_cases e' : j = k
        · rw [e']; exact e
        · exact hno.out j (by omega)))
      have hid : xs[k].id = (xs[k].u, xs[k].n) := rfl
      rw [hid] at hhit
      generalize xs[k] = x at *
      have hbz := hbr.size
      have HB := Lib.hid hbr
      have cO := fun W => of_any x W
      unfold Li.agg at cO
      have hk0 : (0 : Int) ≤ (k : Int) := by omega
      have hkI : (k : Int) < (n : Int) := by omega
      clear h1c HM hD hbr hno hid hf hr
      cases hh : Maps.has D (idLit x.u x.n) with
      | true =>
        have hr1 := Lib.hid (hfin.out (hhit.out.2 (hin.1 hh)))
        clear hin hhit hput hfin hnx
        go_wp2_with fail
        refine (cO _).mono ?_
        rintro e w2 ⟨rfl, hb2⟩
        have hown2 := map_later (hown.alloc _) hb2
        have HB2 := Lib.hid ((HB.out.alloc (by omega) _).trans (hb2.mono (by simp; omega)))
        have hs2 := HB2.out.size
        clear hb2
        go_wp2_with (first
          | (at_lookup; refine wpList_lookup_own_unit _ rfl _ _ 45 rfl 49 46 idLaw Try.underlying45 (zeroUnit _) w.heap.size k D rfl hown2 _ _ rfl hkey ?_; rw [hh]))
        go_ret2
        rw [hr1.out]
        exact ⟨rfl, HB2.out.alloc (by omega) _⟩
      | false =>
        have hne : hitAt xs k = false := by
          cases h : hitAt xs k with
          | false => rfl
          | true => have := hin.2 (hhit.out.1 h); rw [hh] at this; cases this
        have hnx' : Hid (∀ j, j < k + 1 → hitAt xs j = false) := hnx.out hne
        clear hin hhit hfin hnx hne
        go_wp2_with fail
        refine (cO _).mono ?_
        rintro e w2 ⟨rfl, hb2⟩
        have hown2 := map_later (hown.alloc _) hb2
        have m0 : w2.cell? ⟨wr.heap.size, 0, none⟩ = some (.int .u64 x.u) := (hb2.cell (p := ⟨wr.heap.size, 0, none⟩) (by simp)).trans (by rw [World.cell?_alloc_mark]; rfl)
        have m1 : w2.cell? ⟨wr.heap.size, 1, none⟩ = some (.int .i64 x.n) := (hb2.cell (p := ⟨wr.heap.size, 1, none⟩) (by simp)).trans (by rw [World.cell?_alloc_mark]; rfl)
        have m2 : w2.cell? ⟨wr.heap.size, 2, none⟩ = some (.int .i64 x.r) := (hb2.cell (p := ⟨wr.heap.size, 2, none⟩) (by simp)).trans (by rw [World.cell?_alloc_mark]; rfl)
        have m3 : w2.cell? ⟨wr.heap.size, 3, none⟩ = some (.string x.s) := (hb2.cell (p := ⟨wr.heap.size, 3, none⟩) (by simp)).trans (by rw [World.cell?_alloc_mark]; rfl)
        have a0 := (World.cell?_alloc_some w2 _ (.cells #[] 46) (by rw [m0]; rfl)).trans m0
        have a1 := (World.cell?_alloc_some w2 _ (.cells #[] 46) (by rw [m1]; rfl)).trans m1
        have a2 := (World.cell?_alloc_some w2 _ (.cells #[] 46) (by rw [m2]; rfl)).trans m2
        have a3 := (World.cell?_alloc_some w2 _ (.cells #[] 46) (by rw [m3]; rfl)).trans m3
        clear m0 m1 m2 m3
        have HB2 := Lib.hid ((HB.out.alloc (by omega) _).trans (hb2.mono (by simp; omega)))
        have hs2 := HB2.out.size
        have hs2' : wr.heap.size + 1 ≤ w2.heap.size := by have := hb2.size; simpa using this
        clear hb2
        go_wp2_with (first
          | (at_lookup; refine wpList_lookup_own_unit _ rfl _ _ 45 rfl 49 46 idLaw Try.underlying45 (zeroUnit _) w.heap.size k D rfl hown2 _ _ rfl hkey ?_; rw [hh]))
        refine (cO _).mono ?_
        rintro e w3 ⟨rfl, hb3⟩
        have hown3 := map_later (hown2.alloc _) hb3
        have HB3 := Lib.hid ((HB2.out.alloc (by omega) _).trans (hb3.mono (by simp; omega)))
        have hs3 := HB3.out.size
        clear hb3 hown2 a0 a1 a2 a3
        go_wp2_with (first
          | (at_mapUpdate; refine wpList_mapUpdate_own _ rfl _ _ _ 45 rfl 49 46 idLaw Try.underlying45 _ w.heap.size k D rfl hown3 (by omega) _ _ (idLit x.u x.n) rfl rfl hkey _ [] unitElem_mk ?_; intro w4 hown4 hgr4))
        have hbe : Below w.heap.size w w4 := HB3.out.grown hgr4 (by omega) (fun j hj => by cases hj; exact Nat.le_refl _)
        have HO : Hid (∃ D : DataW Unit, w4.ownsMap Try.prog 49 (unitElem (H := Unit)) w.heap.size (k + 1) D ∧ SetIs D (idsOf (xs.take (k + 1)))) := ⟨_, hown4, hput.out⟩
        clear hown4 hgr4 hown3 hput
        go_wp2
        go_roundg (gk - 1)
        case rel => exact ⟨k + 1, by omega, by go_num, hnx'.out, hbe, HO⟩
        case measure => omega
    · obtain rfl : n = k := by omega
      have hr1 := Lib.hid (HNO.out fun j hj => hno.out j (by rw [HN.out] at hj; exact hj))
      have HB := Lib.hid hbr
      clear hbr HM
      go_wp2_with fail
      go_ret2
      rw [hr1.out]
      exact ⟨rfl, HB.out⟩
end Go.Proofs.Ytfkkodcppaakjaa
