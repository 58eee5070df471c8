/- IdentTexts, by a walk over the contracts; a line that came in as a value, opened. -/
import Derived.Test.YtbcfmckhgjcakaaDoorIdRefParse
import Derived.Lib.SmallJoins
import Derived.OpenVars
namespace Go.Proofs.YtbcfmckhgjcakaaDoor
open Go Go.ChangeShapes Go.WideShapes Go.RowKit Go.Joins

theorem lab_nat' {n : Int} (h : (Lit.int .u64 n).wf = true) : ∃ a : Nat, n = (a : Int) ∧ a < 18446744073709551616 := by
  simp [Lit.wf, IntKind.min, IntKind.max, IntKind.signed, IntKind.bits] at h
  exact ⟨n.toNat, by omega, by omega⟩
theorem wf_bounds {n : Int} (h : (Lit.int .i64 n).wf = true) : -9223372036854775808 ≤ n ∧ n ≤ 9223372036854775807 := by
  simp [Lit.wf, IntKind.min, IntKind.max, IntKind.signed, IntKind.bits] at h
  omega
set_option maxRecDepth 100000 in
theorem open_liv {H : Type} {enc : TypeId × Value → H} {W : World} {base : Nat} {v : Value} {d : DataW H} {ps : List MemPlace} (hv : Value.okWide Tryd.prog W .any base 25 v)
    (h : DataW.Trod enc Tryd.prog W 0 (fun _ => true) true 25 v d ps) : ∃ y : Li, v = y.agg ∧ LiOk y := by
  obtain ⟨cs, rfl, hcs⟩ := okWide_struct Tryd.underlying25 hv
  rw [liCellsOf] at hcs
  obtain ⟨fuel, hf⟩ := h
  have hf2 : DataW.trod enc Tryd.prog W 0 (fun _ => true) true fuel 25 cs.toList = some (d, ps) := by simpa [Value.cells] using hf
  obtain ⟨l⟩ := cs
  simp only [List.size_toArray] at hcs
  match l, hcs with
  | [k0, k1, k2, k3], _ =>
    obtain ⟨y0, y1, y2, y3, n', _, _, h0, h1, h2, h3⟩ := trod_struct4 Tryd.underlying25 hf2
    have q0 : DataW.trod enc Tryd.prog W 0 (fun _ => true) true n' 23 [k0] = some y0 := h0
    have q1 : DataW.trod enc Tryd.prog W 0 (fun _ => true) true n' 3 [k1] = some y1 := h1
    have q2 : DataW.trod enc Tryd.prog W 0 (fun _ => true) true n' 3 [k2] = some y2 := h2
    have q3 : DataW.trod enc Tryd.prog W 0 (fun _ => true) true n' 9 [k3] = some y3 := h3
    obtain ⟨u, d0, _, wu⟩ := DataW.trod_int Tryd.underlying23 q0
    obtain ⟨n, d1, _, wn⟩ := DataW.trod_int Tryd.underlying3 q1
    obtain ⟨r, d2, _, wr⟩ := DataW.trod_int Tryd.underlying3 q2
    obtain ⟨s, d3, _, ws⟩ := DataW.trod_string Tryd.underlying9 q3
    simp only [List.cons.injEq, and_true] at d0 d1 d2 d3
    subst d0 d1 d2 d3
    obtain ⟨m, rfl, hm⟩ := lab_nat' wu
    exact ⟨⟨m, n, r, s⟩, rfl, ⟨hm, wn, wr, ws⟩⟩
/-- A line in a box of its own, below what is there later. -/
def StayLi (w : World) (x : Li) (W : World) : Prop := LiAt W w.heap.size 0 x ∧ Below w.heap.size w W ∧ w.heap.size + 1 ≤ W.heap.size
theorem StayLi.next {w W W' : World} {x : Li} (h : StayLi w x W) (hb : Below W.heap.size W W') : StayLi w x W' := by
  obtain ⟨⟨h0, h1, h2, h3⟩, hbw, hs⟩ := h
  have hl : w.heap.size < W.heap.size := by omega
  have hs' := hb.size
  exact ⟨⟨(hb.cell (p := ⟨w.heap.size, 0, none⟩) hl).trans h0, (hb.cell (p := ⟨w.heap.size, 0 + 1, none⟩) hl).trans h1, (hb.cell (p := ⟨w.heap.size, 0 + 2, none⟩) hl).trans h2, (hb.cell (p := ⟨w.heap.size, 0 + 3, none⟩) hl).trans h3⟩, hbw.trans (hb.mono hbw.size), by omega⟩
def StW (w : World) (x : Li) (W : World) : Prop := W.cell? ⟨w.heap.size, 0, none⟩ = some (.int .u64 x.u) ∧ W.cell? ⟨w.heap.size, 1, none⟩ = some (.int .i64 x.n) ∧ W.cell? ⟨w.heap.size, 2, none⟩ = some (.int .i64 x.r) ∧ W.cell? ⟨w.heap.size, 3, none⟩ = some (.string x.s) ∧ Hid (StayLi w x W)
theorem stw {w W : World} {x : Li} (h : StayLi w x W) : StW w x W := by
  obtain ⟨h0, h1, h2, h3⟩ := h.1
  exact ⟨h0, by simpa using h1, by simpa using h2, by simpa using h3, h⟩
set_option maxRecDepth 100000 in
set_option maxHeartbeats 4000000 in
theorem identTexts_any (x : Li) (s : ByteArray) (w : World) (hx : LiOk x) (h0 : -9223372036854775808 ≤ x.n) (h1 : x.n ≤ 9223372036854775807) (hs : s.size ≤ 281474976710656) (hT : BTab w) (hE : EvW w) (hP : Tabs w) :
    Calls Tryd.prog 3 #[x.agg, .string s] w fun e w' => e = .returned (.bool true) ∧ Below w.heap.size w w' := by
  have HT := Lib.hid hT
  have HE := Lib.hid hE
  have HP := Lib.hid hP
  have cT := fun W (hb : Below w.heap.size w W) => text_id W x hx (hT.below hb) (hP.below hb) h0 h1
  have cR := fun W (hb : Below w.heap.size w W) => refText_id W x hx (hP.below hb) h0 h1
  have CT := Lib.hid cT
  have CR := Lib.hid cR
  clear hT hE hP cT cR hx h0 h1
  generalize idText x.u x.n = tx at *
  unfold Li.agg at *
  go_enter Tryd.func3, Tryd.ntmps3
  go_wp2_with fail
  have hB1 : Below w.heap.size w (w.alloc (.cells #[.int .u64 x.u, .int .i64 x.n, .int .i64 x.r, .string x.s] 25)) := (Below.refl _ w).alloc (Nat.le_refl _) _
  have hS0 : StayLi w x (w.alloc (.cells #[.int .u64 x.u, .int .i64 x.n, .int .i64 x.r, .string x.s] 25)) := by
    refine ⟨⟨?_, ?_, ?_, ?_⟩, hB1, by simp⟩ <;> (rw [World.cell?_alloc_mark]; rfl)
  have cP := parse_id s _ hs (HT.out.below hB1) (HE.out.below hB1) (HP.out.below hB1)
  have HS0 := Lib.hid hS0
  clear hB1 hS0
  refine cP.mono ?_
  rintro e w2 ⟨a, n, er, rfl, hr1, hb2⟩
  have HS2 := Lib.hid (HS0.out.next hb2)
  have HR1 := Lib.hid hr1
  have cQ := refParse_id s w2 hs
  clear cP hr1 hb2 HS0
  go_wp2_with fail
  refine cQ.mono ?_
  rintro e w3 ⟨a', n', er', rfl, hr2, hb3⟩
  have HS3 := Lib.hid (HS2.out.next hb3)
  obtain ⟨rfl, rfl, rfl⟩ := idReads_one HR1.out hr2
  clear cQ hr2 hb3 HS2 HR1
  go_wp2_with fail
  have hS : StW w x w3.drew := stw ⟨HS3.out.1, Below.drew HS3.out.2.1, HS3.out.2.2⟩
  have SK := Lib.hid (fun (W W' : World) (h : StW w x W) (hb : Below W.heap.size W W') => (show StW w x W' from stw (h.2.2.2.2.out.next hb)))
  clear HS3
  refine region_ord (StW w x) [(0, true), (2, true), (1, false), (3, false), (4, true), (5, true), (6, true), (7, true), (8, true), (9, true), (10, true), (11, true), (12, true), (13, true), (14, true), (15, true), (16, true), (17, true), (18, true), (19, true), (20, true)] (by kernel_rfl) (by kernel_rfl) (by kernel_rfl) (by kernel_rfl) hS ?_
  have HS := Lib.hid hS
  clear hS
  iterate 2 (refine ord_take (v := ?_) rfl (by rfl) ?_ ?_; rotate_left; (focus (intro w hSw; unfold StW at hSw; (try dsimp only at hSw); go_simp; (try with_reducible rfl); done)); (try simp (maxSteps := 10000000) only [Act.put, List.setIfInBounds_toArray, List.set_cons_zero, List.set_cons_succ]))
  refine ord_call rfl (by rfl) (fun K hK => ?_)
  go_simp
  refine (CT.out _ HS.out.2.2.2.2.out.2.1).mono ?_
  rintro e u1 ⟨rfl, hb1⟩
  have S1 := Lib.hid (SK.out _ _ HS.out hb1)
  clear hb1 HS
  go_wp2_with fail
  refine hK.out _ _ S1.out (fun _ => ?_)
  clear hK
  (try simp (maxSteps := 10000000) only [Act.put, List.setIfInBounds_toArray, List.set_cons_zero, List.set_cons_succ])
  refine ord_call rfl (by rfl) (fun K hK => ?_)
  go_simp
  refine (CR.out _ S1.out.2.2.2.2.out.2.1).mono ?_
  rintro e u2 ⟨rfl, hb2⟩
  have S2 := Lib.hid (SK.out _ _ S1.out hb2)
  clear hb2 S1
  go_wp2_with fail
  refine hK.out _ _ S2.out (fun _ => ?_)
  clear hK
  (try simp (maxSteps := 10000000) only [Act.put, List.setIfInBounds_toArray, List.set_cons_zero, List.set_cons_succ])
  iterate 17 (refine ord_take (v := ?_) rfl (by rfl) ?_ ?_; rotate_left; (focus (intro w hSw; (try dsimp only at hSw); go_simp; (try with_reducible rfl); done)); (try simp (maxSteps := 10000000) only [Act.put, List.setIfInBounds_toArray, List.set_cons_zero, List.set_cons_succ]))
  refine ord_end ?_
  have HB := Lib.hid S2.out.2.2.2.2.out.2.1
  go_wp2_with fail
  go_ret
  exact ⟨rfl, HB.out⟩
end Go.Proofs.YtbcfmckhgjcakaaDoor
