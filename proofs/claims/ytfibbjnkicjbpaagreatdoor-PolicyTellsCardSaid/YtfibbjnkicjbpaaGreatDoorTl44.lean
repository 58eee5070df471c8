/- Texts of the proof, merged: PoFresh. -/
import Derived.Test.YtfibbjnkicjbpaaGreatDoorTl7
import Derived.Test.YtfibbjnkicjbpaaGreatDoorTl43
/- policy.New once more: with the blocks that it makes told. -/
namespace Go.Proofs.YtfibbjnkicjbpaaGreatDoor
open Go Go.RowKit

/-- A policy at two blocks that are told. -/
structure PolB (w : World) (p b : Nat) (l : List Vw) : Prop where
  ok : okL l
  up : Rising l
  lo : Lo64 l
  lt : p < w.heap.size
  cell : w.cell? ⟨p, 0, none⟩ = some (.map (some b))
  map : MapAt w b l
theorem PolB.at {w : World} {p b : Nat} {l : List Vw} (h : PolB w p b l) : PolAt w (.pointer (some ⟨p, 0, none⟩)) l := ⟨h.ok, h.up, h.lo, p, b, rfl, h.lt, h.cell, h.map⟩
theorem PolB.keep {w W : World} {p b : Nat} {l : List Vw} (h : PolB w p b l) (hs : w.heap.size ≤ W.heap.size) (hp : W.heap[p]? = w.heap[p]?) (hb : W.heap[b]? = w.heap[b]?) : PolB W p b l := by
  obtain ⟨n, D, hn, ⟨es, clock, hb', Ft, hs', hD⟩, hm⟩ := h.map
  exact ⟨h.ok, h.up, h.lo, Nat.lt_of_lt_of_le h.lt hs, (World.cell?_of_block (a := ⟨p, 0, none⟩) hp).trans h.cell, n, D, hn, ⟨es, clock, hb.trans hb', Ft, hs', hD⟩, hm⟩
theorem PolB.ltb {w : World} {p b : Nat} {l : List Vw} (h : PolB w p b l) : b < w.heap.size := h.map.lt
theorem PolB.later {w W : World} {p b : Nat} {l : List Vw} (h : PolB w p b l) (hb : Below w.heap.size w W) : PolB W p b l := h.keep hb.size (hb.block _ h.lt) (hb.block _ h.ltb)
def NewFresh (l : List Vw) (W : World) (e : Ending) (w' : World) : Prop := Below W.heap.size W w' ∧ ((okL l ∧ ∃ p b, e = .returned (.tuple #[.pointer (some ⟨p, 0, none⟩), .int .i64 0]) ∧ W.heap.size ≤ p ∧ W.heap.size ≤ b ∧ PolB w' p b (sortV l)) ∨ (¬ okL l ∧ e = .returned (.tuple #[.pointer none, .int .i64 30])))
set_option maxRecDepth 100000 in
set_option maxHeartbeats 4000000 in
theorem newF_any (w : World) (p : Option Addr) (n c : Nat) (l : List Vw) (hn : l.length = n) (hnm : n ≤ maxLen) (hr : VwRow w p l) (hf : Fit64 l) :
    Calls Tryz.prog 14 #[.slice p n c] w (NewFresh l w) := by
  unfold maxLen at hnm
  by_cases h64 : n ≤ 64
  · have hz := run_makeMap_hint
    have HN := Lib.hid hn
    clear hn
    go_enter Tryz.func14, Tryz.ntmps14
    go_wp2
    clear hz
    go_loopg [17] n (fun g vi wr => ∃ k : Nat, k + g = n ∧ vi = .int .i64 k ∧ UpTo l k ∧ Below w.heap.size w wr ∧ Hid (∃ D : DataW Unit, wr.ownsMap Tryz.prog 9 (plainElem Tryz.prog 25) w.heap.size k D ∧ MapIs D (l.take k)))
    case atStart => exact ⟨0, by omega, rfl, upTo_zero l, (Below.refl _ _).alloc (Nat.le_refl _) _, ⟨.map [], World.ownsMap_made _ _ _ _, by rw [List.take_zero]; exact mapIs_nil⟩⟩
    case round =>
      obtain ⟨k, hk, rfl, hu, hbr, HM⟩ := hrel
      by_cases hlt : k < n
      · have hlt' : k < l.length := by rw [HN.out]; exact hlt
        obtain ⟨b1, o1, rfl, hb1, h1c⟩ := hr.at k hlt'
        obtain ⟨g1, g2⟩ := h1c wr hbr
        obtain ⟨D, hown, hD⟩ := HM.out
        obtain ⟨hx1, hx2⟩ := hf l[k] (List.getElem_mem hlt')
        have hup := Lib.hid (fun (h1 : l[k].s ∉ names (l.take k)) h2 => upTo_step hlt' hu h1 h2)
        have htw := Lib.hid (fun h => okL_twice hlt' h)
        have hnm' := Lib.hid (fun h => okL_name hlt' h)
        have hput := Lib.hid (fun h : l[k].s ∉ names (l.take k) => (show MapIs (D.put (.string l[k].s) (.lit (.int .u64 l[k].c))) (l.take (k + 1)) by rw [List.take_succ_eq_append_getElem hlt']; exact hD.put l[k] h))
        have hin := hD.has l[k].s
        generalize l[k] = x at *
        have hkey : keyOf Tryz.prog 9 (.string (bs x.s)) = some (.string x.s) := by
          have := Go.WideMaps.keyOf_string_mk (P := Tryz.prog) Tryz.underlying9 (s := bs x.s) (by rw [bs_size]; exact hx2)
          rwa [bs_list] at this
        have hwf : (Lit.int .u64 (x.c : Int)).wf = true := WalkArith.wf_u64 (by omega)
        have hbz := hbr.size
        have HB := Lib.hid hbr
        clear h1c HM hD hbr hu
        cases hh : Maps.has D (.string x.s) with
        | true =>
          have hno : Hid (¬ okL l) := htw.out (hin.1 hh)
          clear hin htw hnm' hput hup
          go_wp2_with (first
            | (at_lookup; refine wpList_lookup_own_ok_int _ rfl _ _ 52 rfl 9 25 .u64 strLaw Tryz.underlying52 Tryz.underlying25 (zeroLab _) w.heap.size k D rfl (hown.alloc _) _ _ rfl hkey ?_; intro c hat hwc; rw [hh]; clear hat hwc))
          go_ret2
          exact ⟨HB.out.alloc (by omega) _, .inr ⟨hno.out, rfl⟩⟩
        | false =>
          have hni : x.s ∉ names (l.take k) := fun h => by have := hin.2 h; rw [hh] at this; cases this
          have cN := fun W => name_any (bs x.s) W (by rw [bs_size]; exact hx2)
          rw [bs_list] at cN
          cases hnx : nameL x.s with
          | false =>
            rw [hnx] at cN
            have hno : Hid (¬ okL l) := hnm'.out hnx
            clear hin htw hnm' hput hup hni
            go_wp2_with (first
              | (at_lookup; refine wpList_lookup_own_ok_int _ rfl _ _ 52 rfl 9 25 .u64 strLaw Tryz.underlying52 Tryz.underlying25 (zeroLab _) w.heap.size k D rfl (hown.alloc _) _ _ rfl hkey ?_; intro c hat hwc; rw [hh]; clear hat hwc)
              | (go_at_call 31; refine (cN _).mono ?_; rintro e w' ⟨rfl, hb2⟩))
            go_ret2
            exact ⟨(HB.out.alloc (by omega) _).trans (hb2.mono (by simp; omega)), .inr ⟨hno.out, rfl⟩⟩
          | true =>
            rw [hnx] at cN
            have hup' : Hid (UpTo l (k + 1)) := hup.out hni hnx
            have hput' := Lib.hid (hput.out hni)
            clear hin htw hnm' hput hup hni
            go_wp2_with (first
              | (at_lookup; refine wpList_lookup_own_ok_int _ rfl _ _ 52 rfl 9 25 .u64 strLaw Tryz.underlying52 Tryz.underlying25 (zeroLab _) w.heap.size k D rfl (hown.alloc _) _ _ rfl hkey ?_; intro c hat hwc; rw [hh]; clear hat hwc)
              | (go_at_call 31; refine (cN _).mono ?_; rintro e w2 ⟨rfl, hb2⟩
                 have m0 : w2.cell? ⟨wr.heap.size, 0, none⟩ = some (.string (bs x.s)) := (hb2.cell (p := ⟨wr.heap.size, 0, none⟩) (by simp)).trans (by rw [World.cell?_alloc_mark]; rfl)
                 have m1 : w2.cell? ⟨wr.heap.size, 1, none⟩ = some (.int .u64 x.c) := (hb2.cell (p := ⟨wr.heap.size, 1, none⟩) (by simp)).trans (by rw [World.cell?_alloc_mark]; rfl)
                 have hown2 := owns_below (hown.alloc _) hb2)
              | (at_mapUpdate; refine wpList_mapUpdate_own _ rfl _ _ _ 52 rfl 9 25 strLaw Tryz.underlying52 _ w.heap.size k D rfl hown2 (by unfold maxLen; omega) _ _ (.string x.s) rfl rfl hkey _ [] (plainElem_int Tryz.underlying25 hwf) ?_; intro w3 hown3 hgr3))
            have hsz2 := hb2.size
            have hbe : Below w.heap.size w w3 := ((HB.out.alloc (by omega) _).trans (hb2.mono (by simp; omega))).grown hgr3 (by simp at hsz2; omega) (fun j hj => by cases hj; exact Nat.le_refl _)
            have HO : Hid (∃ D : DataW Unit, w3.ownsMap Tryz.prog 9 (plainElem Tryz.prog 25) w.heap.size (k + 1) D ∧ MapIs D (l.take (k + 1))) := ⟨_, hown3, hput'.out⟩
            clear hown3 hgr3 hown2 m0 m1 hb2 cN
            go_wp2
            go_roundg (gk - 1)
            case rel => exact ⟨k + 1, by omega, by go_num, hup'.out, hbe, HO⟩
            case measure => omega
      · obtain rfl : n = k := by omega
        obtain ⟨D, hown, hD⟩ := HM.out
        have hok := upTo_all (l := l) (by rw [HN.out]; exact h64) (by rw [HN.out]; exact hu)
        have hall : l.take n = l := by rw [← HN.out]; exact List.take_length
        rw [hall] at hD
        have HD := Lib.hid hD
        have HO := Lib.hid hown
        have HB := Lib.hid hbr
        have hbz := hbr.size
        have hlo : Lo64 l := fun x hx => (hf x hx).1
        clear hD HM hown hbr hall
        go_wp2
        go_ret2
        exact ⟨HB.out.alloc (by omega) _, .inl ⟨hok, wr.heap.size, w.heap.size, rfl, hbz, Nat.le_refl _, ⟨okL_perm (sortV_perm l).symm hok, sortV_rising hok.2.1, hlo.perm (sortV_perm l), by simp, by rw [World.cell?_alloc_mark]; rfl, n, D, h64, HO.out.alloc _, HD.out.perm (sortV_perm l).symm⟩⟩⟩
  · have hno := okL_long (l := l) (by omega)
    clear hn
    go_enter Tryz.func14, Tryz.ntmps14
    go_wp2
    go_ret2
    exact ⟨Below.refl _ _, .inr ⟨hno, rfl⟩⟩
end Go.Proofs.YtfibbjnkicjbpaaGreatDoor
