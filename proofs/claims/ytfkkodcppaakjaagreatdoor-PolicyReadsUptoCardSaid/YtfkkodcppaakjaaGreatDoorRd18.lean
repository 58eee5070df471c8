/- Texts of the proof, merged: PoNew. -/
import Derived.Test.YtfkkodcppaakjaaGreatDoorRd12
import Derived.Test.YtfkkodcppaakjaaGreatDoorRd16
import Derived.Test.YtfkkodcppaakjaaGreatDoorRd17
/- policy.New, by its contract. -/
namespace Go.Proofs.YtfkkodcppaakjaaGreatDoor
open Go Go.RowKit Go.Maps

theorem okL_long {l : List Vw} (h : ¬ l.length ≤ 64) : ¬ okL l := fun k => h k.1
theorem okL_twice {l : List Vw} {k : Nat} (hk : k < l.length) (h : l[k].s ∈ names (l.take k)) : ¬ okL l := fun o => by
  have hn := o.2.1
  have e : l = l.take k ++ l[k] :: l.drop (k + 1) := by rw [← List.drop_eq_getElem_cons hk, List.take_append_drop]
  rw [e] at hn
  unfold names at hn h
  rw [List.map_append, List.nodup_append] at hn
  exact hn.2.2 _ h _ (List.mem_map_of_mem (List.mem_cons_self ..)) rfl
theorem okL_name {l : List Vw} {k : Nat} (hk : k < l.length) (h : nameL l[k].s = false) : ¬ okL l := fun o => by
  have := o.2.2 l[k] (List.getElem_mem hk)
  rw [h] at this; cases this
/-- Between two rounds: k viewers are in the map. -/
def UpTo (l : List Vw) (k : Nat) : Prop := (names (l.take k)).Nodup ∧ ∀ x ∈ l.take k, nameL x.s = true
theorem upTo_zero (l : List Vw) : UpTo l 0 := ⟨by simp [names], by simp⟩
theorem upTo_step {l : List Vw} {k : Nat} (hk : k < l.length) (h : UpTo l k) (h1 : l[k].s ∉ names (l.take k)) (h2 : nameL l[k].s = true) : UpTo l (k + 1) := by
  have e : l.take (k + 1) = l.take k ++ [l[k]] := List.take_succ_eq_append_getElem hk
  unfold UpTo
  rw [e]
  refine ⟨?_, fun x hx => ?_⟩
  · unfold names at h1 ⊢
    rw [List.map_append, List.nodup_append]
    refine ⟨h.1, by simp, fun a ha b hb => ?_⟩
    simp only [List.map_cons, List.map_nil, List.mem_singleton] at hb
    rintro rfl
    exact h1 (hb ▸ ha)
  · rw [List.mem_append, List.mem_singleton] at hx
    rcases hx with hx | rfl
    · exact h.2 x hx
    · exact h2
theorem upTo_all {l : List Vw} (h64 : l.length ≤ 64) (h : UpTo l l.length) : okL l := by
  unfold UpTo at h
  rw [List.take_length] at h
  exact ⟨h64, h.1, h.2⟩
/-- What New answers. -/
def NewSays (l : List Vw) (W : World) (e : Ending) (w' : World) : Prop := Below W.heap.size W w' ∧ ((okL l ∧ ∃ v, e = .returned (.tuple #[v, .int .i64 0]) ∧ PolAt w' v (sortV l) ∧ ∃ a, v = .pointer (some a)) ∨ (¬ okL l ∧ e = .returned (.tuple #[.pointer none, .int .i64 30])))
theorem mapAt_grown {w W : World} {B b : Nat} {l : List Vw} (h : MapAt w b l) (hb : Below w.heap.size w W) (_ : B ≤ b) : MapAt W b l := h.later hb

theorem run_makeMap_hint (n : Int) (w : World) : (Instr.makeMap 132 (some (.int .i64 n))).run Tryz.prog w = .ok (.map (some w.heap.size)) (w.alloc (.map #[] 0)) := by
  simp [Instr.makeMap, asInt, asIntOf, Sem.run_bind, run_underlying Tryz.underlying132]
theorem owns_below {w W : World} {b n : Nat} {D : DataW Unit} {R : Value → Option (DataW Unit × List MemPlace)} {k : TypeId} (h : w.ownsMap Tryz.prog k R b n D) (hb : Below w.heap.size w W) : W.ownsMap Tryz.prog k R b n D := by
  have hbl := h.lt
  obtain ⟨es, clock, hb', Ft, hs, hD⟩ := h
  exact ⟨es, clock, (hb.block b hbl).trans hb', Ft, hs, hD⟩

set_option maxRecDepth 100000 in
set_option maxHeartbeats 4000000 in
theorem new_any (w : World) (p : Option Addr) (n c : Nat) (l : List Vw) (hn : l.length = n) (hnm : n ≤ maxLen) (hr : VwRow w p l) (hf : Fit64 l) :
    Calls Tryz.prog 35 #[.slice p n c] w (NewSays l w) := by
  unfold maxLen at hnm
  by_cases h64 : n ≤ 64
  · have hz := run_makeMap_hint
    have HN := Lib.hid hn
    clear hn
    go_enter Tryz.func35, Tryz.ntmps35
    go_wp2
    clear hz
    go_loopg [17] n (fun g vi wr => ∃ k : Nat, k + g = n ∧ vi = .int .i64 k ∧ UpTo l k ∧ Below w.heap.size w wr ∧ Hid (∃ D : DataW Unit, wr.ownsMap Tryz.prog 9 (plainElem Tryz.prog 23) w.heap.size k D ∧ MapIs D (l.take k)))
    case atStart => exact ⟨0, by omega, rfl, upTo_zero l, (Below.refl _ _).alloc (Nat.le_refl _) _, ⟨.map [], World.ownsMap_made _ _ _ _, by rw [List.take_zero]; exact mapIs_nil⟩⟩
    case round =>
      obtain ⟨k, hk, rfl, hu, hbr, HM⟩ := hrel
      by_cases hlt : k < n
      · have hlt' : k < l.length := by rw [HN.out]; exact hlt
        obtain ⟨b1, o1, rfl, hb1, h1c⟩ := hr.at k hlt'
        obtain ⟨g1, g2⟩ := h1c wr hbr
        obtain ⟨D, hown, hD⟩ := HM.out
        obtain ⟨hx1, hx2⟩ := hf l[k] (List.getElem_mem hlt')
        have hup := Lib.hid (fun (h1 : l[k].s ∉ names (l.take k)) h2 => upTo_step hlt' hu h1 h2)
        have htw := Lib.hid (fun h => okL_twice hlt' h)
        have hnm' := Lib.hid (fun h => okL_name hlt' h)
        have hput := Lib.hid (fun h : l[k].s ∉ names (l.take k) => (show MapIs (D.put (.string l[k].s) (.lit (.int .u64 l[k].c))) (l.take (k + 1)) by rw [List.take_succ_eq_append_getElem hlt']; exact hD.put l[k] h))
        have hin := hD.has l[k].s
        generalize l[k] = x at *
        have hkey : keyOf Tryz.prog 9 (.string (bs x.s)) = some (.string x.s) := by
          have := Go.WideMaps.keyOf_string_mk (P := Tryz.prog) Tryz.underlying9 (s := bs x.s) (by rw [bs_size]; exact hx2)
          rwa [bs_list] at this
        have hwf : (Lit.int .u64 (x.c : Int)).wf = true := WalkArith.wf_u64 (by omega)
        have hbz := hbr.size
        have HB := Lib.hid hbr
        clear h1c HM hD hbr hu
        cases hh : Maps.has D (.string x.s) with
        | true =>
          have hno : Hid (¬ okL l) := htw.out (hin.1 hh)
          clear hin htw hnm' hput hup
          go_wp2_with (first
            | (at_lookup; refine wpList_lookup_own_ok_int _ rfl _ _ 132 rfl 9 23 .u64 strLaw Tryz.underlying132 Tryz.underlying23 (zeroLab _) w.heap.size k D rfl (hown.alloc _) _ _ rfl hkey ?_; intro c hat hwc; rw [hh]; clear hat hwc))
          go_ret2
          exact ⟨HB.out.alloc (by omega) _, .inr ⟨hno.out, rfl⟩⟩
        | false =>
          have hni : x.s ∉ names (l.take k) := fun h => by have := hin.2 h; rw [hh] at this; cases this
          have cN := fun W => name_any (bs x.s) W (by rw [bs_size]; exact hx2)
          rw [bs_list] at cN
          cases hnx : nameL x.s with
          | false =>
            rw [hnx] at cN
            have hno : Hid (¬ okL l) := hnm'.out hnx
            clear hin htw hnm' hput hup hni
            go_wp2_with (first
              | (at_lookup; refine wpList_lookup_own_ok_int _ rfl _ _ 132 rfl 9 23 .u64 strLaw Tryz.underlying132 Tryz.underlying23 (zeroLab _) w.heap.size k D rfl (hown.alloc _) _ _ rfl hkey ?_; intro c hat hwc; rw [hh]; clear hat hwc)
              | (go_at_call 85; refine (cN _).mono ?_; rintro e w' ⟨rfl, hb2⟩))
            go_ret2
            exact ⟨(HB.out.alloc (by omega) _).trans (hb2.mono (by simp; omega)), .inr ⟨hno.out, rfl⟩⟩
          | true =>
            rw [hnx] at cN
            have hup' : Hid (UpTo l (k + 1)) := hup.out hni hnx
            have hput' := Lib.hid (hput.out hni)
            clear hin htw hnm' hput hup hni
            go_wp2_with (first
              | (at_lookup; refine wpList_lookup_own_ok_int _ rfl _ _ 132 rfl 9 23 .u64 strLaw Tryz.underlying132 Tryz.underlying23 (zeroLab _) w.heap.size k D rfl (hown.alloc _) _ _ rfl hkey ?_; intro c hat hwc; rw [hh]; clear hat hwc)
              | (go_at_call 85; refine (cN _).mono ?_; rintro e w2 ⟨rfl, hb2⟩
                 have m0 : w2.cell? ⟨wr.heap.size, 0, none⟩ = some (.string (bs x.s)) := (hb2.cell (p := ⟨wr.heap.size, 0, none⟩) (by simp)).trans (by rw [World.cell?_alloc_mark]; rfl)
                 have m1 : w2.cell? ⟨wr.heap.size, 1, none⟩ = some (.int .u64 x.c) := (hb2.cell (p := ⟨wr.heap.size, 1, none⟩) (by simp)).trans (by rw [World.cell?_alloc_mark]; rfl)
                 have hown2 := owns_below (hown.alloc _) hb2)
              | (at_mapUpdate; refine wpList_mapUpdate_own _ rfl _ _ _ 132 rfl 9 23 strLaw Tryz.underlying132 _ w.heap.size k D rfl hown2 (by unfold maxLen; omega) _ _ (.string x.s) rfl rfl hkey _ [] (plainElem_int Tryz.underlying23 hwf) ?_; intro w3 hown3 hgr3))
            have hsz2 := hb2.size
            have hbe : Below w.heap.size w w3 := ((HB.out.alloc (by omega) _).trans (hb2.mono (by simp; omega))).grown hgr3 (by simp at hsz2; omega) (fun j hj => by cases hj; exact Nat.le_refl _)
            have HO : Hid (∃ D : DataW Unit, w3.ownsMap Tryz.prog 9 (plainElem Tryz.prog 23) w.heap.size (k + 1) D ∧ MapIs D (l.take (k + 1))) := ⟨_, hown3, hput'.out⟩
            clear hown3 hgr3 hown2 m0 m1 hb2 cN
            go_wp2
            go_roundg (gk - 1)
            case rel => exact ⟨k + 1, by omega, by go_num, hup'.out, hbe, HO⟩
            case measure => omega
      · obtain rfl : n = k := by omega
        obtain ⟨D, hown, hD⟩ := HM.out
        have hok := upTo_all (l := l) (by rw [HN.out]; exact h64) (by rw [HN.out]; exact hu)
        have hall : l.take n = l := by rw [← HN.out]; exact List.take_length
        rw [hall] at hD
        have HD := Lib.hid hD
        have HO := Lib.hid hown
        have HB := Lib.hid hbr
        have hbz := hbr.size
        have hlo : Lo64 l := fun x hx => (hf x hx).1
        clear hD HM hown hbr hall
        go_wp2
        go_ret2
        refine ⟨HB.out.alloc (by omega) _, .inl ⟨hok, _, rfl, ⟨okL_perm (sortV_perm l).symm hok, sortV_rising hok.2.1, hlo.perm (sortV_perm l), ?_⟩, _, rfl⟩⟩
        exact ⟨wr.heap.size, w.heap.size, rfl, by simp, by rw [World.cell?_alloc_mark]; rfl, n, D, h64, HO.out.alloc _, HD.out.perm (sortV_perm l).symm⟩
  · have hno := okL_long (l := l) (by omega)
    clear hn
    go_enter Tryz.func35, Tryz.ntmps35
    go_wp2
    go_ret2
    exact ⟨Below.refl _ _, .inr ⟨hno, rfl⟩⟩
end Go.Proofs.YtfkkodcppaakjaaGreatDoor
