/- DocAll, where New takes the lines. -/
import Derived.Test.YtfkkodcppaakjaaDcAllW
import Derived.Test.YtfkkodcppaakjaaRegFull
import Derived.Test.YtfkkodcppaakjaaRegOrd
import Derived.Laws.EntriesVeiled
import Derived.Sort.CutIn
import Derived.Stop.RegionWithIn
import Derived.Shelf.RegionOpen
namespace Go.Proofs.Ytfkkodcppaakjaa
open Go Go.RowKit Go.Maps Go.Shelf

attribute [local go_sem] Oper.semAt_some

/-- What the law's loop holds on to. -/
structure DaIn (z q bx : Nat) (p : Option Addr) (n c : Nat) (stop : Int) (p2 : Option Addr) (c2 : Nat) (fnv : Value) (xs : List Li) (W : World) : Prop where
  b0 : Boxed W z 22 (.slice p n c)
  b1 : Boxed W (z + 1) 3 (.int .i64 stop)
  b2 : Boxed W (z + 1 + 1) 4 (.bool false)
  b3 : Boxed W q 39 fnv
  bX : Boxed W bx 22 (.slice p2 n c2)
  l0 : z + 1 + 1 < q + 1
  lX : bx < q + 1
  hat0 : ∀ i (h : i < xs.length), ∃ b off, p = some ⟨b, off, none⟩ ∧ b < q + 1 ∧ LiAt W b (off + i * 4) xs[i]
  hat : ∀ i (h : i < xs.length), ∃ b off, p2 = some ⟨b, off, none⟩ ∧ b < q + 1 ∧ LiAt W b (off + i * 4) xs[i]
  sz : q + 1 ≤ W.heap.size
theorem DaIn.keep {z q bx : Nat} {p : Option Addr} {n c : Nat} {stop : Int} {p2 : Option Addr} {c2 : Nat} {fnv : Value} {xs : List Li} {W W' : World} (h : DaIn z q bx p n c stop p2 c2 fnv xs W)
    (hs : W.heap.size ≤ W'.heap.size) (hk : ∀ j, j < q + 1 → W'.heap[j]? = W.heap[j]?) : DaIn z q bx p n c stop p2 c2 fnv xs W' :=
  ⟨(hk z (by have := h.l0; omega)).trans h.b0, (hk (z + 1) (by have := h.l0; omega)).trans h.b1, (hk (z + 1 + 1) h.l0).trans h.b2, (hk q (by omega)).trans h.b3, (hk bx h.lX).trans h.bX, h.l0, h.lX,
    fun i hi => by obtain ⟨b, o, e, hb, hc⟩ := h.hat0 i hi; exact ⟨b, o, e, hb, hc.same (hk b hb)⟩,
    fun i hi => by obtain ⟨b, o, e, hb, hc⟩ := h.hat i hi; exact ⟨b, o, e, hb, hc.same (hk b hb)⟩, Nat.le_trans h.sz hs⟩
theorem DaIn.later {z q bx : Nat} {p : Option Addr} {n c : Nat} {stop : Int} {p2 : Option Addr} {c2 : Nat} {fnv : Value} {xs : List Li} {W W' : World} {B : Nat} (h : DaIn z q bx p n c stop p2 c2 fnv xs W)
    (hb : Below B W W') (hB : q + 1 ≤ B) : DaIn z q bx p n c stop p2 c2 fnv xs W' := h.keep hb.size fun j hj => hb.block j (Nat.lt_of_lt_of_le hj hB)
/-- A line in a block of its own. -/
def LiBox (W : World) (B : Nat) (x : Li) : Prop := W.heap[B]? = some (.cells #[.int .u64 x.u, .int .i64 x.n, .int .i64 x.r, .string x.s] 26 (0, 0))
theorem liBox_own {β : Type} (B : Nat) (x : Li) : Own (fun (_ : β) W => LiBox W B x) := fun s X Y row hs hg hrow =>
  (hg.block B (Array.getElem?_eq_some_iff.1 hs).1 (fun e' => by obtain ⟨o, ho, hc⟩ := hrow B e'.symm; rw [show X.heap[B]? = _ from hs] at ho; cases ho; cases hc)).trans hs
theorem LiBox.at {W : World} {B : Nat} {x : Li} (h : LiBox W B x) : LiAt W B 0 x := by
  have h' : W.heap[B]? = _ := h
  refine ⟨?_, ?_, ?_, ?_⟩ <;> simp [World.cell?, h']
theorem keeps_below {A B : World} (h : Below A.heap.size A B) : KeepsOthers A B := ⟨h.size, fun k _ hk _ => (h.block k (Array.getElem?_eq_some_iff.1 hk).1).trans hk⟩
/-- The marks are taken one by one. -/
theorem leaves_marks {F : Fence} {k : Nat} {P : Program} {fn : Func} {tmps : Array Value} {R : Ending → World → Prop} (Good : World → Prop) (M : Nat) (hG : ∀ w D o, Good w → M ≤ D → w.heap[D]? = some (.deferred (some [])) → Good (w.putObj D o))
    (hend : ∀ w, Good w → LeavesIn F k P fn tmps R [] .returning w) : ∀ (ds : List Nat) (w : World), ds.Nodup → (∀ D ∈ ds, M ≤ D ∧ w.heap[D]? = some (.deferred (some []))) → Good w →
    LeavesInM F k P fn tmps R (ds.map fun D => { target := .collected D, args := #[] }) .returning w
  | [], w, _, _, hg => hend w hg
  | D :: ds, w, hnd, hds, hg => by
    have hD := hds D (by simp)
    have hnd' := List.nodup_cons.1 hnd
    refine ⟨by simp, .inl ⟨D, _, rfl, run_takeDeferred hD.2, ?_⟩⟩
    refine leaves_marks Good M hG hend ds _ hnd'.2 (fun E hE => ⟨(hds E (by simp [hE])).1, ?_⟩) (hG _ _ _ hg hD.1 hD.2)
    have hne : D ≠ E := fun e => hnd'.1 (e ▸ hE)
    exact (World.putObj_heap_other hne.symm).trans (hds E (by simp [hE])).2
set_option maxRecDepth 100000 in
set_option maxHeartbeats 8000000 in
theorem docAll_yes (w : World) (p : Option Addr) (n c : Nat) (xs : List Li) (stop : Int) (hn : xs.length = n) (hnm : n ≤ 3518437208880) (hr : LiRow w p xs) (hnil : p = none → n = 0 ∧ c = 0) (hf : ∀ x ∈ xs, LiOk x) (hyes : takesB [] xs = true) :
    Calls Try.prog 4 #[.slice p n c, .int .i64 stop] w fun e w' => e = .returned (.bool true) ∧ Below w.heap.size w w' := by
  have hB0 : Below w.heap.size w (((w.alloc (.cells #[.slice p n c] 22)).alloc (.cells #[.int .i64 stop] 3)).alloc (.cells #[.bool false] 4)) := (((Below.refl _ _).alloc (Nat.le_refl _) _).alloc (by simp) _).alloc (by simp; omega) _
  have c0 := ((Boxed.new w 22 (.slice p n c)).alloc (.cells #[.int .i64 stop] 3)).alloc (.cells #[.bool false] 4)
  have c1 := (Boxed.new (w.alloc (.cells #[.slice p n c] 22)) 3 (.int .i64 stop)).alloc (.cells #[.bool false] 4)
  have c2 := Boxed.new ((w.alloc (.cells #[.slice p n c] 22)).alloc (.cells #[.int .i64 stop] 3)) 4 (.bool false)
  simp only [World.size_alloc] at c1 c2
  have cN := dNew_any _ p n c xs hn (hr.later hB0) hnil hf (by omega)
  have HYES := Lib.hid hyes
  have HR := Lib.hid hr
  have HF := Lib.hid hf
  have HN := Lib.hid hn
  refine (callsIn_wide (n := 9)).1 ?_
  refine callsIn_of_wp_marks Try.func4 rfl trivial ?_ rfl
  simp only [Try.ntmps4, List.size_toArray, List.length_cons, List.length_nil, Nat.reduceAdd, Nat.reduceSub, Array.replicate_succ, Array.replicate_zero, List.push_toArray, List.append_toArray, List.nil_append, List.cons_append]
  have H0 := Lib.hid c0; have H1 := Lib.hid c1; have H2 := Lib.hid c2; have HB0 := Lib.hid hB0
  have HS0 : Hid ((((w.alloc (.cells #[.slice p n c] 22)).alloc (.cells #[.int .i64 stop] 3)).alloc (.cells #[.bool false] 4)).heap.size = w.heap.size + 3) := by show _ = _; simp
  have k0 := H0.out.cell
  clear c0 c1 c2 hB0 hyes hr hnil hf hn
  gi_wp2
  refine ⟨trivial, (callsIn_wide.2 cN).mono ?_⟩
  rintro e w1 ⟨hb1, ⟨_, a, v, m, rfl, hD⟩ | ⟨hno, rfl⟩⟩
  rotate_left
  · rw [HYES.out] at hno; cases hno
  rw [HS0.out] at hD
  have g0 := boxed_later H0.out hb1
  have g1 := boxed_later H1.out hb1
  have g2 := boxed_later H2.out hb1
  have hbw1 := HB0.out.trans (hb1.mono HB0.out.size)
  have cA := allOf_any w1 (w.heap.size + 3) a v m xs.length xs hD (by rw [HN.out]; omega)
  have hs1 := hb1.size
  rw [HS0.out] at hs1
  have HD1 := Lib.hid hD
  have HOWN : Hid (∀ j, docS a v m j → w.heap.size + 3 ≤ j ∧ j < w1.heap.size) := fun j hj => hD.own_lt hj
  have G0 := Lib.hid g0; have G1 := Lib.hid g1; have G2 := Lib.hid g2
  have HB1 := Lib.hid hbw1
  clear cN hb1 g0 g1 g2 hbw1 H0 H1 H2 HB0 hD k0 HS0 HYES
  gi_wp2
  refine ⟨trivial, (callsIn_wide.2 cA).mono ?_⟩
  rintro e w2 ⟨hb2, bx, v2, rfl, hbx, hBX, hrow2⟩
  obtain ⟨p2, c2, rfl⟩ : ∃ p2 c2, v2 = .slice p2 n c2 := by
    rw [HN.out] at hrow2
    rcases hrow2.2 with ⟨hv, h0⟩ | ⟨g, cap, cur, hv, _⟩
    · exact ⟨none, 0, by rw [hv, h0]⟩
    · exact ⟨_, _, hv⟩
  rw [HN.out] at hrow2
  have hb3 : Below w2.heap.size w2 (w2.alloc (.cells #[.func (.func 34) #[] #[.pointer (some ⟨bx, 0, none⟩)]] 39)) := (Below.refl _ _).alloc (Nat.le_refl _) _
  have hb13 := hb2.trans (hb3.mono hb2.size)
  have g0 := boxed_later G0.out hb13
  have g1 := boxed_later G1.out hb13
  have g2 := boxed_later G2.out hb13
  have g3 := Boxed.new w2 39 (.func (.func 34) #[] #[.pointer (some ⟨bx, 0, none⟩)])
  have gX := boxed_later hBX hb3
  have hD3 := HD1.out.later hb13
  have hrow3 := hrow2.alloc (.cells #[.func (.func 34) #[] #[.pointer (some ⟨bx, 0, none⟩)]] 39)
  have hbw3 := HB1.out.trans (hb13.mono HB1.out.size)
  have hs2 := hb2.size
  have HLX := Lib.hid hBX.lt
  have HAT3 : Hid (∀ i (h : i < xs.length), ∃ b off, p2 = some ⟨b, off, none⟩ ∧ w1.heap.size ≤ b ∧ b < w2.heap.size ∧ LiAt (w2.alloc (.cells #[.func (.func 34) #[] #[.pointer (some ⟨bx, 0, none⟩)]] 39)) b (off + i * 4) xs[i]) := by
    intro i hi
    rcases row_shape HN.out hrow2 with ⟨_, h0⟩ | ⟨g, cap, hv, hB, hlt, _, _, _, hat⟩
    · rw [h0] at hi; exact absurd hi (Nat.not_lt_zero _)
    · simp only [Value.slice.injEq] at hv
      refine ⟨g, 0, hv.1, hB, hlt, ?_⟩
      rw [Nat.zero_add]
      exact (hat i hi).below hb3 hlt
  have hfn := fn_nil 34 #[.pointer (some ⟨bx, 0, none⟩)]
  have hs3 : (w2.alloc (.cells #[.func (.func 34) #[] #[.pointer (some ⟨bx, 0, none⟩)]] 39)).heap.size = w2.heap.size + 1 := by simp
  have G0 := Lib.hid g0; have G1 := Lib.hid g1; have G2 := Lib.hid g2; have G3 := Lib.hid g3; have GX := Lib.hid gX
  have HD3 := Lib.hid hD3; have HRW3 := Lib.hid hrow3; have HB3 := Lib.hid hbw3
  have HS3 := Lib.hid hs3
  have k0 := g0.cell
  have k3 := g3.cell
  clear cA hb2 hb3 hb13 g0 g1 g2 g3 gX hD3 hrow3 hbw3 hs3 HD1 hrow2 hBX HB1
  -- GEN
  have HM : Hid (w.heap.size + 3 ≤ w2.heap.size) := Nat.le_trans hs1 hs2
  have hL4 : w.heap.size + 3 ≤ w1.heap.size := hs1
  gi_upto_if 35 with fail
  gi_cut [] from 15 (fun wr => Hid (KeptBut (docS a v m) (w2.alloc (.cells #[.func (.func 34) #[] #[.pointer (some ⟨bx, 0, none⟩)]] 39)) wr))
  case first =>
    by_cases hn0 : n = 0
    · subst hn0
      gi_wp2
      gi_meet
      case rel => exact KeptBut.refl _ _
    · have hpos : (0 : Int) < (n : Int) := by omega
      have hlt0 : 0 < xs.length := by rw [HN.out]; omega
      have H0 := HR.out 0 hlt0
      have HF0 := HF.out (xs[0]) (List.getElem_mem hlt0)
      obtain ⟨b0, o0, rfl, hb0, g0⟩ := H0
      rw [Nat.zero_mul, Nat.add_zero] at g0
      obtain ⟨g00, g01, _, _⟩ := g0.below HB3.out hb0
      have cR := remove_any _ _ a v m xs.length xs (HD3.out.later (Below.drew (Below.refl (w2.alloc (.cells #[.func (.func 34) #[] #[.pointer (some ⟨bx, 0, none⟩)]] 39)).heap.size _))) (by unfold maxLen; rw [HN.out]; omega) (xs[0]).u (xs[0]).n HF0.u HF0.n
      generalize xs[0] = x0 at *
      gi_wp2
      have c0 := G0.out.cell
      refine wpIn_wide.2 ?_
      have hS : (fun W : World => W.cell? ⟨w.heap.size, 0, none⟩ = some (.slice (some ⟨b0, o0, none⟩) n c) ∧ W.cell? ⟨b0, o0, none⟩ = some (.int .u64 x0.u) ∧ W.cell? ⟨b0, o0 + 1, none⟩ = some (.int .i64 x0.n) ∧ Hid (KeptBut (docS a v m) (w2.alloc (.cells #[.func (.func 34) #[] #[.pointer (some ⟨bx, 0, none⟩)]] 39)) W)) (w2.alloc (.cells #[.func (.func 34) #[] #[.pointer (some ⟨bx, 0, none⟩)]] 39)).drew := ⟨c0, g00, g01, KeptBut.of_below (Below.drew (Below.refl _ _))⟩
      refine region_ord (fun W : World => W.cell? ⟨w.heap.size, 0, none⟩ = some (.slice (some ⟨b0, o0, none⟩) n c) ∧ W.cell? ⟨b0, o0, none⟩ = some (.int .u64 x0.u) ∧ W.cell? ⟨b0, o0 + 1, none⟩ = some (.int .i64 x0.n) ∧ Hid (KeptBut (docS a v m) (w2.alloc (.cells #[.func (.func 34) #[] #[.pointer (some ⟨bx, 0, none⟩)]] 39)) W)) [(0, true), (1, true), (2, true), (3, true), (4, true), (5, true), (6, true), (7, true), (8, true), (9, false)] (by kernel_rfl) (by kernel_rfl) (by kernel_rfl) (by kernel_rfl) hS ?_
      clear hS
      iterate 9 (refine ord_take (v := ?_) rfl (by rfl) ?_ ?_; rotate_left; (focus (intro w hSw; (try dsimp only at hSw); go_simp; (try with_reducible rfl); done)); (try simp (maxSteps := 10000000) only [Act.put, List.setIfInBounds_toArray, List.set_cons_zero, List.set_cons_succ]))
      refine ord_call rfl (by rfl) (fun K hK => ?_)
      unfold Oper.wp
      simp only [execOp]
      go_simp
      refine cR.mono ?_
      rintro e w' hrm
      obtain ⟨⟨ve, rfl⟩, hbr⟩ : (∃ ve, e = .returned ve) ∧ Hid (KeptBut (docS a v m) (w2.alloc (.cells #[.func (.func 34) #[] #[.pointer (some ⟨bx, 0, none⟩)]] 39)) w') := ⟨by rcases hrm.2 with ⟨_, _, h, _⟩ | ⟨_, h, _⟩ <;> exact ⟨_, h⟩, ⟨hrm.1.os, hrm.1.tape, hrm.1.output, hrm.1.size, hrm.1.block⟩⟩
      clear hrm cR
      dsimp only
      have hb0' : b0 < w.heap.size := hb0
      have hfr : ∀ j, j < w.heap.size + 3 → w'.heap[j]? = (w2.alloc (.cells #[.func (.func 34) #[] #[.pointer (some ⟨bx, 0, none⟩)]] 39)).heap[j]? := fun j hj => hbr.out.block j (by rw [HS3.out]; have := HM.out; omega) (fun hd => by have := HOWN.out j hd; omega)
      refine hK.out _ _ ⟨(World.cell?_of_block (a := ⟨w.heap.size, 0, none⟩) (hfr _ (by show w.heap.size < _; omega))).trans c0, (World.cell?_of_block (a := ⟨b0, o0, none⟩) (hfr _ (by show b0 < _; omega))).trans g00, (World.cell?_of_block (a := ⟨b0, o0 + 1, none⟩) (hfr _ (by show b0 < _; omega))).trans g01, hbr⟩ (fun _ => ?_)
      clear hK
      (try simp (maxSteps := 10000000) only [Act.put, List.setIfInBounds_toArray, List.set_cons_zero, List.set_cons_succ])
      refine ord_end ?_
      (try dsimp only [Exit.then])
      gi_wp2
      gi_meet
      case rel => exact hbr
  case rest =>
    have hfr : ∀ j, j < w2.heap.size + 1 → (j < w.heap.size + 3 ∨ w1.heap.size ≤ j) → wc.heap[j]? = (w2.alloc (.cells #[.func (.func 34) #[] #[.pointer (some ⟨bx, 0, none⟩)]] 39)).heap[j]? := fun j hj ho => hcut.out.block j (by rw [HS3.out]; exact hj) (fun hd => by have := HOWN.out j hd; omega)
    have HDA : Hid (DaIn w.heap.size w2.heap.size bx p n c stop p2 c2 (.func (.func 34) #[] #[.pointer (some ⟨bx, 0, none⟩)]) xs wc) := by
      have h0 := HS3.out
      refine ⟨(hfr _ (by omega) (by omega)).trans G0.out, (hfr _ (by omega) (by omega)).trans G1.out, (hfr _ (by omega) (by omega)).trans G2.out, (hfr _ (by omega) (by omega)).trans G3.out, (hfr _ (by have := HLX.out; omega) (by omega)).trans GX.out, by omega, by have := HLX.out; omega, ?_, ?_, by have := hcut.out.size; rw [h0] at this; exact this⟩
      · intro i hi
        obtain ⟨b, o, e, hb, hc⟩ := HR.out i hi
        exact ⟨b, o, e, by omega, (hc.below HB3.out hb).same (hfr b (by omega) (by omega))⟩
      · intro i hi
        obtain ⟨b, o, e, hb1, hb, hc⟩ := HAT3.out i hi
        exact ⟨b, o, e, by omega, hc.same (hfr b (by omega) (by omega))⟩
    have HBW : Hid (Below w.heap.size w wc) := HB3.out.trans ⟨hcut.out.os, hcut.out.tape, hcut.out.output, hcut.out.size, fun j hj => hcut.out.block j (by rw [HS3.out]; omega) (fun hd => by have := HOWN.out j hd; omega)⟩
    clear hfr hcut G0 G1 G2 G3 GX HD3 HRW3 HB3 HS3 k0 k3 HAT3 HOWN HLX hfn
    have HLN := Lib.hid (ents_len xs)
    gi_wp2
    refine wpIn_loop (fun a' wr => ∃ (r : Nat) (ds : List Nat) (u9 u15 u16 u17 u18 u19 u20 u21 u22 u23 u24 u25 u26 u27 u28 u29 u30 u31 u32 u33 u34 u35 u36 u37 u38 u39 u40 u41 u42 u43 u44 u45 u46 u47 u48 u49 u50 u51 u52 u53 u54 u55 u56 u57 u58 u59 u60 u61 u62 u63 u64 u65 u66 u67 u68 u69 u70 u71 u72 u73 u74 u75 u76 u77 u78 u79 u80 u81 u82 u83 u84 u85 u86 u87 u88 u89 u90 u91 u92 u93 u94 u95 u96 u97 u98 u99 u100 u101 u102 u103 u104 u105 : Value), (r ≤ 2 ∧ ds.Nodup ∧ Hid (∀ D ∈ ds, w2.heap.size + 1 ≤ D ∧ wr.heap[D]? = some (.deferred (some []))) ∧ Hid (DaIn w.heap.size w2.heap.size bx p n c stop p2 c2 (.func (.func 34) #[] #[.pointer (some ⟨bx, 0, none⟩)]) xs wr) ∧ Hid (Below w.heap.size w wr)) ∧
      a' = { tmps := ((.slice p n c) :: (.int .i64 stop) :: (.pointer (some ⟨w.heap.size, 0, none⟩)) :: (.pointer (some ⟨w.heap.size + 1, 0, none⟩)) :: (.pointer (some ⟨w.heap.size + 1 + 1, 0, none⟩)) :: (.pointer (some ⟨a, 0, none⟩)) :: (.int .i64 0) :: (.pointer (some ⟨w2.heap.size, 0, none⟩)) :: (.int .i64 r) :: u9 :: undef :: undef :: undef :: undef :: undef :: u15 :: u16 :: u17 :: u18 :: u19 :: u20 :: u21 :: u22 :: u23 :: u24 :: u25 :: u26 :: u27 :: u28 :: u29 :: u30 :: u31 :: u32 :: u33 :: u34 :: u35 :: u36 :: u37 :: u38 :: u39 :: u40 :: u41 :: u42 :: u43 :: u44 :: u45 :: u46 :: u47 :: u48 :: u49 :: u50 :: u51 :: u52 :: u53 :: u54 :: u55 :: u56 :: u57 :: u58 :: u59 :: u60 :: u61 :: u62 :: u63 :: u64 :: u65 :: u66 :: u67 :: u68 :: u69 :: u70 :: u71 :: u72 :: u73 :: u74 :: u75 :: u76 :: u77 :: u78 :: u79 :: u80 :: u81 :: u82 :: u83 :: u84 :: u85 :: u86 :: u87 :: u88 :: u89 :: u90 :: u91 :: u92 :: u93 :: u94 :: u95 :: u96 :: u97 :: u98 :: u99 :: u100 :: u101 :: u102 :: u103 :: u104 :: u105 :: [] : List Value).toArray, defers := ds.map fun D => { target := .collected D, args := #[] } }) (fun a' _ => 2 - (intOf (a'.tmps.getD 8 undef)).toNat) ?start ?round
    case start =>
      refine ⟨0, [], ?_⟩
      (repeat apply Exists.intro)
      refine ⟨⟨by omega, List.nodup_nil, fun D hD => (by simp at hD), HDA, HBW⟩, rfl⟩
    case round =>
      intro a0 wr hinv
      obtain ⟨r, ds, u9, hinv⟩ := hinv
      obtain ⟨u15, hinv⟩ := hinv
      obtain ⟨u16, hinv⟩ := hinv
      obtain ⟨u17, hinv⟩ := hinv
      obtain ⟨u18, hinv⟩ := hinv
      obtain ⟨u19, hinv⟩ := hinv
      obtain ⟨u20, hinv⟩ := hinv
      obtain ⟨u21, hinv⟩ := hinv
      obtain ⟨u22, hinv⟩ := hinv
      obtain ⟨u23, hinv⟩ := hinv
      obtain ⟨u24, hinv⟩ := hinv
      obtain ⟨u25, hinv⟩ := hinv
      obtain ⟨u26, hinv⟩ := hinv
      obtain ⟨u27, hinv⟩ := hinv
      obtain ⟨u28, hinv⟩ := hinv
      obtain ⟨u29, hinv⟩ := hinv
      obtain ⟨u30, hinv⟩ := hinv
      obtain ⟨u31, hinv⟩ := hinv
      obtain ⟨u32, hinv⟩ := hinv
      obtain ⟨u33, hinv⟩ := hinv
      obtain ⟨u34, hinv⟩ := hinv
      obtain ⟨u35, hinv⟩ := hinv
      obtain ⟨u36, hinv⟩ := hinv
      obtain ⟨u37, hinv⟩ := hinv
      obtain ⟨u38, hinv⟩ := hinv
      obtain ⟨u39, hinv⟩ := hinv
      obtain ⟨u40, hinv⟩ := hinv
      obtain ⟨u41, hinv⟩ := hinv
      obtain ⟨u42, hinv⟩ := hinv
      obtain ⟨u43, hinv⟩ := hinv
      obtain ⟨u44, hinv⟩ := hinv
      obtain ⟨u45, hinv⟩ := hinv
      obtain ⟨u46, hinv⟩ := hinv
      obtain ⟨u47, hinv⟩ := hinv
      obtain ⟨u48, hinv⟩ := hinv
      obtain ⟨u49, hinv⟩ := hinv
      obtain ⟨u50, hinv⟩ := hinv
      obtain ⟨u51, hinv⟩ := hinv
      obtain ⟨u52, hinv⟩ := hinv
      obtain ⟨u53, hinv⟩ := hinv
      obtain ⟨u54, hinv⟩ := hinv
      obtain ⟨u55, hinv⟩ := hinv
      obtain ⟨u56, hinv⟩ := hinv
      obtain ⟨u57, hinv⟩ := hinv
      obtain ⟨u58, hinv⟩ := hinv
      obtain ⟨u59, hinv⟩ := hinv
      obtain ⟨u60, hinv⟩ := hinv
      obtain ⟨u61, hinv⟩ := hinv
      obtain ⟨u62, hinv⟩ := hinv
      obtain ⟨u63, hinv⟩ := hinv
      obtain ⟨u64, hinv⟩ := hinv
      obtain ⟨u65, hinv⟩ := hinv
      obtain ⟨u66, hinv⟩ := hinv
      obtain ⟨u67, hinv⟩ := hinv
      obtain ⟨u68, hinv⟩ := hinv
      obtain ⟨u69, hinv⟩ := hinv
      obtain ⟨u70, hinv⟩ := hinv
      obtain ⟨u71, hinv⟩ := hinv
      obtain ⟨u72, hinv⟩ := hinv
      obtain ⟨u73, hinv⟩ := hinv
      obtain ⟨u74, hinv⟩ := hinv
      obtain ⟨u75, hinv⟩ := hinv
      obtain ⟨u76, hinv⟩ := hinv
      obtain ⟨u77, hinv⟩ := hinv
      obtain ⟨u78, hinv⟩ := hinv
      obtain ⟨u79, hinv⟩ := hinv
      obtain ⟨u80, hinv⟩ := hinv
      obtain ⟨u81, hinv⟩ := hinv
      obtain ⟨u82, hinv⟩ := hinv
      obtain ⟨u83, hinv⟩ := hinv
      obtain ⟨u84, hinv⟩ := hinv
      obtain ⟨u85, hinv⟩ := hinv
      obtain ⟨u86, hinv⟩ := hinv
      obtain ⟨u87, hinv⟩ := hinv
      obtain ⟨u88, hinv⟩ := hinv
      obtain ⟨u89, hinv⟩ := hinv
      obtain ⟨u90, hinv⟩ := hinv
      obtain ⟨u91, hinv⟩ := hinv
      obtain ⟨u92, hinv⟩ := hinv
      obtain ⟨u93, hinv⟩ := hinv
      obtain ⟨u94, hinv⟩ := hinv
      obtain ⟨u95, hinv⟩ := hinv
      obtain ⟨u96, hinv⟩ := hinv
      obtain ⟨u97, hinv⟩ := hinv
      obtain ⟨u98, hinv⟩ := hinv
      obtain ⟨u99, hinv⟩ := hinv
      obtain ⟨u100, hinv⟩ := hinv
      obtain ⟨u101, hinv⟩ := hinv
      obtain ⟨u102, hinv⟩ := hinv
      obtain ⟨u103, hinv⟩ := hinv
      obtain ⟨u104, hinv⟩ := hinv
      obtain ⟨u105, hinv⟩ := hinv
      obtain ⟨⟨hr2, hnd, HDS, HDr, HBr⟩, ha⟩ := hinv
      subst ha
      try dsimp only
      clear G0 G1 G2 HDA HBW HR HF hbx hs2 hL4 hs1
      by_cases hr : r = 2
      · have hrI : ¬ ((r : Int) < 2) := by omega
        have f2 := HDr.out.b2.frozen
        have k2 := HDr.out.b2.cell
        gi_wp2
        refine leaves_marks (fun W => W.cell? ⟨w.heap.size + 1 + 1, 0, none⟩ = some (.bool true) ∧ Below w.heap.size w W) (w2.heap.size + 1) ?_ ?_ ds _ hnd ?_ ⟨World.cell?_setCell_same' wr ⟨w.heap.size + 1 + 1, 0, none⟩ (.bool true) (by rw [k2]; rfl), HBr.out.setCell (p := ⟨w.heap.size + 1 + 1, 0, none⟩) (by show w.heap.size ≤ w.heap.size + 1 + 1; omega) _⟩
        · rintro W D o ⟨hc, hb⟩ hD _
          have hM := HM.out
          exact ⟨(World.cell?_of_block (a := ⟨w.heap.size + 1 + 1, 0, none⟩) (World.putObj_heap_other (by show w.heap.size + 1 + 1 ≠ D; omega))).trans hc, hb.trans ⟨rfl, rfl, rfl, by simp, fun k hk => World.putObj_heap_other (by omega)⟩⟩
        · rintro W ⟨hc, hb⟩
          refine ⟨.bool true, ?_, rfl, hb⟩
          simp [results, Try.f4, go_sem, hc]
        · intro D hD
          have hM := HM.out
          have h := HDS.out D hD
          exact ⟨h.1, (heap_setCell_other wr ⟨w.heap.size + 1 + 1, 0, none⟩ D (.bool true) (by show D ≠ w.heap.size + 1 + 1; omega)).trans h.2⟩
      · have hrI : (r : Int) < 2 := by omega
        gi_upto_region 12 with fail
        gi_cut [9] from 15 (fun t9 W => t9 = .pointer (some ⟨wr.heap.size, 0, none⟩) ∧ W = wr.alloc (.cells #[.int .i64 0] 3))
        case first =>
          gi_wp2
          gi_meet
          case rel => exact ⟨rfl, rfl⟩
        case rest =>
          obtain ⟨rfl, rfl⟩ := hcut
          have hbk : Below wr.heap.size wr (wr.alloc (.cells #[.int .i64 0] 3)) := (Below.refl _ _).alloc (Nat.le_refl _) _
          have HDk := Lib.hid (HDr.out.later hbk HDr.out.sz)
          have HKB := Lib.hid (Boxed.new wr 3 (.int .i64 0))
          have HBK := Lib.hid hbk
          have k3 := HDk.out.b3.cell
          have HSZ : Hid ((wr.alloc (.cells #[.int .i64 0] 3)).heap.size = wr.heap.size + 1) := by show _ = _; simp
          clear hbk
          gi_wp2
          generalize wr.alloc (.cells #[.int .i64 0] 3) = W0 at *
          have hsz0 := HSZ.out
          have hM := HM.out
          have hq := HDr.out.sz
          refine wpIn_rangeFunc_ownH rfl (by omega) (gf := 34) (lb := #[.pointer (some ⟨bx, 0, none⟩)]) rfl trivial (enters_of Try.func34 (by kernel_rfl) rfl)
            (all_stops 8 (by omega) bx wr.heap.size p2 n c2 xs HN.out (by omega) W0 HDk.out.bX.cell (by have := HDr.out.lX; omega) (by omega) (fun i hi => by obtain ⟨b, o, e, hb, hc⟩ := HDk.out.hat i hi; exact ⟨b, o, e, by omega, hc⟩)) belowK_t (belowK_b (by omega)) (Below.refl _ _) (fun _ => rfl)
            (fun pre W => Boxed W wr.heap.size 3 (.int .i64 (pre.length : Int)) ∧ Below wr.heap.size wr W)
            (fun _ pre _ => ¬ pre <+: entsOf xs)
            (OwnFrom.and (Own.from (boxed_own _ _ _) _) (ownFrom_below (Nat.le_refl _) (by omega)))
            (fun _ _ _ _ _ hs _ _ => hs)
            ⟨HKB.out, HBK.out⟩
            (fun y a' W => ∃ Bx, wr.heap.size + 1 ≤ Bx ∧ LiBox W Bx y.x ∧ a' = { tmps := ((.slice p n c) :: (.int .i64 stop) :: (.pointer (some ⟨w.heap.size, 0, none⟩)) :: (.pointer (some ⟨w.heap.size + 1, 0, none⟩)) :: (.pointer (some ⟨w.heap.size + 1 + 1, 0, none⟩)) :: (.pointer (some ⟨a, 0, none⟩)) :: (.int .i64 0) :: (.pointer (some ⟨w2.heap.size, 0, none⟩)) :: (.int .i64 r) :: (.pointer (some ⟨wr.heap.size, 0, none⟩)) :: (.int .i64 y.i) :: (.pointer (some ⟨Bx, 0, none⟩)) :: undef :: undef :: undef :: u15 :: u16 :: u17 :: u18 :: u19 :: u20 :: u21 :: u22 :: u23 :: u24 :: u25 :: u26 :: u27 :: u28 :: u29 :: u30 :: u31 :: u32 :: u33 :: u34 :: u35 :: u36 :: u37 :: u38 :: u39 :: u40 :: u41 :: u42 :: u43 :: u44 :: u45 :: u46 :: u47 :: u48 :: u49 :: .func (.func 34) #[] #[.pointer (some ⟨bx, 0, none⟩)] :: (.int .i64 y.i) :: y.x.agg :: u53 :: u54 :: u55 :: u56 :: u57 :: u58 :: u59 :: u60 :: u61 :: u62 :: u63 :: u64 :: u65 :: u66 :: u67 :: u68 :: u69 :: u70 :: u71 :: u72 :: u73 :: u74 :: u75 :: u76 :: u77 :: u78 :: u79 :: u80 :: u81 :: u82 :: u83 :: u84 :: u85 :: u86 :: u87 :: u88 :: u89 :: u90 :: u91 :: u92 :: u93 :: u94 :: u95 :: u96 :: u97 :: u98 :: u99 :: u100 :: u101 :: u102 :: u103 :: u104 :: u105 :: [] : List Value).toArray, defers := [] })
            (fun y a' _ X Y row hs hg hr => by obtain ⟨Bx, h1, h2, h3⟩ := hs; exact ⟨Bx, h1, liBox_own Bx y.x () X Y row h2 hg (fun r e => (hr r e).2), h3⟩)
            ?assign ?body ?done ?stop
          case assign =>
            rintro l pre ⟨yi, yu, yn, yr, ys⟩ W K ⟨hk1, hb1⟩ hK
            unfold encE Li.agg at *
            dsimp only at *
            gi_wp2
            exact hK _ _ ((KeepsOthers.alloc _ _).from _) ((Below.refl _ W).alloc hb1.size _) ⟨hk1.alloc _, hb1.alloc hb1.size _⟩ ⟨W.heap.size, hk1.lt, World.alloc_heap_new W _, rfl⟩
          case stop =>
            rintro D c pre W _ hp hx _
            exact absurd hp hx
          case done =>
            rintro D zs W hD rfl ⟨hk1, hb1⟩ hKD
            rw [HLN.out, HN.out] at hk1
            have k9 := hk1.cell
            have HDW := Lib.hid (HDr.out.later hb1 HDr.out.sz)
            have k0 := HDW.out.b0.cell
            gi_wp2
            rw [show ((r : Int) + 1) = ((r + 1 : Nat) : Int) from rfl]
            refine ⟨⟨r + 1, D :: ds, ?_⟩, ?_⟩
            · (repeat apply Exists.intro)
              refine ⟨⟨by omega, List.nodup_cons.2 ⟨fun hDm => ?_, hnd⟩, ?_, HDW, HBr.out.trans (hb1.mono HBr.out.size)⟩, rfl⟩
              · have h2 := (HDS.out D hDm).2
                have := (Array.getElem?_eq_some_iff.1 h2).1
                omega
              · intro E hE
                rcases List.mem_cons.1 hE with rfl | hE
                · exact ⟨by omega, hKD⟩
                · have h := HDS.out E hE
                  exact ⟨h.1, (hb1.block E (Array.getElem?_eq_some_iff.1 h.2).1).trans h.2⟩
            · show 2 - (intOf (.int .i64 ((r + 1 : Nat) : Int))).toNat < 2 - (intOf (.int .i64 (r : Int))).toNat
              simp only [intOf]
              omega
          case body =>
            rintro l pre ⟨yi, yx⟩ a' W hl ⟨rl, hrl⟩ ⟨hk1, hb1⟩ ⟨Bx, hBx, hbX, rfl⟩ hlt
            have hlt' : pre.length < xs.length := by rw [HN.out]; exact hlt
            obtain ⟨b0, o0, hp, hb0, hc0⟩ := (HDr.out.later hb1 hq).hat0 pre.length hlt'
            have hEA := ents_at hlt'
            obtain ⟨x, hx⟩ : ∃ x, xs[pre.length] = x := ⟨_, rfl⟩
            rw [hx] at hc0 hEA
            have HDW := Lib.hid (HDr.out.later hb1 hq)
            have HEA := Lib.hid hEA
            subst hp
            have HX := Lib.hid hbX
            have hltX : Bx < W.heap.size := (Array.getElem?_eq_some_iff.1 hbX).1
            have hsW := hb1.size
            have HK1 := Lib.hid hk1
            have HB1 := Lib.hid hb1
            have c1 := hk1.cell
            have c2 := HDW.out.b0.cell
            have d : LiAt W Bx 0 yx := LiBox.at hbX
            have g := hc0
            clear hbX hk1 hb1 hc0 hEA hx k3
            obtain ⟨good, hgood⟩ : ∃ good : Bool, good = (decide (yi = (pre.length : Int)) && oneL yx x) := ⟨_, rfl⟩
            have hkn : ¬ ((pre.length : Int) = (n : Int)) := by omega
            have hk0 : (0 : Int) ≤ (pre.length : Int) := by omega
            have hklt : (pre.length : Int) < (n : Int) := by omega
            gi_upto_region 16 with fail
            gi_cut [70] from 106 (fun t70 V => t70 = .bool (!good) ∧ Hid (Below W.heap.size W V))
            case first =>
              by_cases hi : yi = (pre.length : Int)
              · subst hi
                cases hone : oneL yx x with
                | true =>
                  obtain rfl : good = true := by rw [hgood, hone]; simp
                  clear hgood
                  refine region_full (fun V : World => V.cell? ⟨wr.heap.size, 0, none⟩ = some (.int .i64 (pre.length : Int)) ∧ V.cell? ⟨w.heap.size, 0, none⟩ = some (.slice (some ⟨b0, o0, none⟩) n c) ∧ LiAt V Bx 0 yx ∧ LiAt V b0 (o0 + pre.length * 4) x ∧ Hid (Below W.heap.size W V)) (((.slice (some ⟨b0, o0, none⟩) n c) :: (.int .i64 stop) :: (.pointer (some ⟨w.heap.size, 0, none⟩)) :: (.pointer (some ⟨w.heap.size + 1, 0, none⟩)) :: (.pointer (some ⟨w.heap.size + 1 + 1, 0, none⟩)) :: (.pointer (some ⟨a, 0, none⟩)) :: (.int .i64 0) :: (.pointer (some ⟨w2.heap.size, 0, none⟩)) :: (.int .i64 r) :: (.pointer (some ⟨wr.heap.size, 0, none⟩)) :: (.int .i64 (pre.length : Int)) :: (.pointer (some ⟨Bx, 0, none⟩)) :: undef :: undef :: undef :: u15 :: u16 :: u17 :: u18 :: u19 :: u20 :: u21 :: u22 :: u23 :: u24 :: u25 :: u26 :: u27 :: u28 :: u29 :: u30 :: u31 :: u32 :: u33 :: u34 :: u35 :: u36 :: u37 :: u38 :: u39 :: u40 :: u41 :: u42 :: u43 :: u44 :: u45 :: u46 :: u47 :: u48 :: u49 :: .func (.func 34) #[] #[.pointer (some ⟨bx, 0, none⟩)] :: (.int .i64 (pre.length : Int)) :: yx.agg :: (.int .i64 (pre.length : Int)) :: (.int .i64 (pre.length : Int)) :: (.bool false) :: (.bool false) :: (.int .i64 (pre.length : Int)) :: (.slice (some ⟨b0, o0, none⟩) n c) :: (.int .i64 n) :: (.bool false) :: (.bool false) :: (.bool false) :: (.agg #[.int .u64 yx.u, .int .i64 yx.n, .int .i64 yx.r, .string yx.s]) :: (.slice (some ⟨b0, o0, none⟩) n c) :: (.int .i64 (pre.length : Int)) :: (.pointer (some ⟨b0, o0 + pre.length * 4, none⟩)) :: (.agg #[.int .u64 x.u, .int .i64 x.n, .int .i64 x.r, .string x.s]) :: (.bool true) :: (.bool false) :: (.bool false) :: u71 :: u72 :: u73 :: u74 :: u75 :: u76 :: u77 :: u78 :: u79 :: u80 :: u81 :: u82 :: u83 :: u84 :: u85 :: u86 :: u87 :: u88 :: u89 :: u90 :: u91 :: u92 :: u93 :: u94 :: u95 :: u96 :: u97 :: u98 :: u99 :: u100 :: u101 :: u102 :: u103 :: u104 :: u105 :: [] : List Value).toArray) (by kernel_rfl) (by kernel_rfl) (by kernel_rfl) (by kernel_rfl) ?_ ?_ ?_
                  · exact ⟨c1, c2, d, g, Below.drew (Below.refl _ _)⟩
                  · refine full_want_k (by kernel_rfl) (fun V hV K hK => ?_) ?_; focus (obtain ⟨c1, c2, ⟨d0, d1, d2, d3⟩, ⟨g0, g1, g2, g3⟩, hbV⟩ := hV; unfold Oper.wpIn; refine ⟨fun _ _ => trivial, ?_⟩; rw [Oper.semAt_eq _ _ _ (by intro c h; cases h)]; go_simp; exact hK.out _ _ (by first | with_reducible rfl | (simp; omega)) ⟨c1, c2, ⟨d0, d1, d2, d3⟩, ⟨g0, g1, g2, g3⟩, hbV⟩)
                    refine full_want_k (by kernel_rfl) (fun V hV K hK => ?_) ?_; focus (obtain ⟨c1, c2, ⟨d0, d1, d2, d3⟩, ⟨g0, g1, g2, g3⟩, hbV⟩ := hV; unfold Oper.wpIn; refine ⟨fun _ _ => trivial, ?_⟩; rw [Oper.semAt_eq _ _ _ (by intro c h; cases h)]; go_simp; exact hK.out _ _ (by first | with_reducible rfl | (simp; omega)) ⟨c1, c2, ⟨d0, d1, d2, d3⟩, ⟨g0, g1, g2, g3⟩, hbV⟩)
                    refine full_want_k (by kernel_rfl) (fun V hV K hK => ?_) ?_; focus (obtain ⟨c1, c2, ⟨d0, d1, d2, d3⟩, ⟨g0, g1, g2, g3⟩, hbV⟩ := hV; unfold Oper.wpIn; refine ⟨fun _ _ => trivial, ?_⟩; rw [Oper.semAt_eq _ _ _ (by intro c h; cases h)]; go_simp; exact hK.out _ _ (by first | with_reducible rfl | (simp; omega)) ⟨c1, c2, ⟨d0, d1, d2, d3⟩, ⟨g0, g1, g2, g3⟩, hbV⟩)
                    refine full_want_k (by kernel_rfl) (fun V hV K hK => ?_) ?_; focus (obtain ⟨c1, c2, ⟨d0, d1, d2, d3⟩, ⟨g0, g1, g2, g3⟩, hbV⟩ := hV; unfold Oper.wpIn; refine ⟨fun _ _ => trivial, ?_⟩; rw [Oper.semAt_eq _ _ _ (by intro c h; cases h)]; go_simp; exact hK.out _ _ (by first | with_reducible rfl | (simp; omega)) ⟨c1, c2, ⟨d0, d1, d2, d3⟩, ⟨g0, g1, g2, g3⟩, hbV⟩)
                    refine full_want_k (by kernel_rfl) (fun V hV K hK => ?_) ?_; focus (obtain ⟨c1, c2, ⟨d0, d1, d2, d3⟩, ⟨g0, g1, g2, g3⟩, hbV⟩ := hV; unfold Oper.wpIn; refine ⟨fun _ _ => trivial, ?_⟩; rw [Oper.semAt_eq _ _ _ (by intro c h; cases h)]; go_simp; exact hK.out _ _ (by first | with_reducible rfl | (simp; omega)) ⟨c1, c2, ⟨d0, d1, d2, d3⟩, ⟨g0, g1, g2, g3⟩, hbV⟩)
                    refine full_want_k (by kernel_rfl) (fun V hV K hK => ?_) ?_; focus (obtain ⟨c1, c2, ⟨d0, d1, d2, d3⟩, ⟨g0, g1, g2, g3⟩, hbV⟩ := hV; unfold Oper.wpIn; refine ⟨fun _ _ => trivial, ?_⟩; rw [Oper.semAt_eq _ _ _ (by intro c h; cases h)]; go_simp; exact hK.out _ _ (by first | with_reducible rfl | (simp; omega)) ⟨c1, c2, ⟨d0, d1, d2, d3⟩, ⟨g0, g1, g2, g3⟩, hbV⟩)
                    refine full_want_k (by kernel_rfl) (fun V hV K hK => ?_) ?_; focus (obtain ⟨c1, c2, ⟨d0, d1, d2, d3⟩, ⟨g0, g1, g2, g3⟩, hbV⟩ := hV; unfold Oper.wpIn; refine ⟨fun _ _ => trivial, ?_⟩; rw [Oper.semAt_eq _ _ _ (by intro c h; cases h)]; go_simp; exact hK.out _ _ (by first | with_reducible rfl | (simp; omega)) ⟨c1, c2, ⟨d0, d1, d2, d3⟩, ⟨g0, g1, g2, g3⟩, hbV⟩)
                    refine full_want_k (by kernel_rfl) (fun V hV K hK => ?_) ?_; focus (obtain ⟨c1, c2, ⟨d0, d1, d2, d3⟩, ⟨g0, g1, g2, g3⟩, hbV⟩ := hV; unfold Oper.wpIn; refine ⟨fun _ _ => trivial, ?_⟩; rw [Oper.semAt_eq _ _ _ (by intro c h; cases h)]; go_simp; exact hK.out _ _ (by first | with_reducible rfl | (simp; omega)) ⟨c1, c2, ⟨d0, d1, d2, d3⟩, ⟨g0, g1, g2, g3⟩, hbV⟩)
                    refine full_want_k (by kernel_rfl) (fun V hV K hK => ?_) ?_; focus (obtain ⟨c1, c2, ⟨d0, d1, d2, d3⟩, ⟨g0, g1, g2, g3⟩, hbV⟩ := hV; unfold Oper.wpIn; refine ⟨fun _ _ => trivial, ?_⟩; rw [Oper.semAt_eq _ _ _ (by intro c h; cases h)]; go_simp; exact hK.out _ _ (by first | with_reducible rfl | (simp; omega)) ⟨c1, c2, ⟨d0, d1, d2, d3⟩, ⟨g0, g1, g2, g3⟩, hbV⟩)
                    refine full_want_k (by kernel_rfl) (fun V hV K hK => ?_) ?_; focus (obtain ⟨c1, c2, ⟨d0, d1, d2, d3⟩, ⟨g0, g1, g2, g3⟩, hbV⟩ := hV; unfold Oper.wpIn; refine ⟨fun _ _ => trivial, ?_⟩; rw [Oper.semAt_eq _ _ _ (by intro c h; cases h)]; go_simp; exact hK.out _ _ (by first | with_reducible rfl | (simp; omega)) ⟨c1, c2, ⟨d0, d1, d2, d3⟩, ⟨g0, g1, g2, g3⟩, hbV⟩)
                    refine full_want_k (by kernel_rfl) (fun V hV K hK => ?_) ?_; focus (obtain ⟨c1, c2, ⟨d0, d1, d2, d3⟩, ⟨g0, g1, g2, g3⟩, hbV⟩ := hV; unfold Oper.wpIn; refine ⟨fun _ _ => trivial, ?_⟩; rw [Oper.semAt_eq _ _ _ (by intro c h; cases h)]; go_simp; exact hK.out _ _ (by first | with_reducible rfl | (simp; omega)) ⟨c1, c2, ⟨d0, d1, d2, d3⟩, ⟨g0, g1, g2, g3⟩, hbV⟩)
                    refine full_want_k (by kernel_rfl) (fun V hV K hK => ?_) ?_; focus (obtain ⟨c1, c2, ⟨d0, d1, d2, d3⟩, ⟨g0, g1, g2, g3⟩, hbV⟩ := hV; unfold Oper.wpIn; refine ⟨fun _ _ => trivial, ?_⟩; rw [Oper.semAt_eq _ _ _ (by intro c h; cases h)]; go_simp; exact hK.out _ _ (by first | with_reducible rfl | (simp; omega)) ⟨c1, c2, ⟨d0, d1, d2, d3⟩, ⟨g0, g1, g2, g3⟩, hbV⟩)
                    refine full_want_k (by kernel_rfl) (fun V hV K hK => ?_) ?_; focus (obtain ⟨c1, c2, ⟨d0, d1, d2, d3⟩, ⟨g0, g1, g2, g3⟩, hbV⟩ := hV; unfold Oper.wpIn; refine ⟨fun _ _ => trivial, ?_⟩; rw [Oper.semAt_eq _ _ _ (by intro c h; cases h)]; go_simp; exact hK.out _ _ (by first | with_reducible rfl | (simp; omega)) ⟨c1, c2, ⟨d0, d1, d2, d3⟩, ⟨g0, g1, g2, g3⟩, hbV⟩)
                    refine full_want_k (by kernel_rfl) (fun V hV K hK => ?_) ?_; focus (obtain ⟨c1, c2, ⟨d0, d1, d2, d3⟩, ⟨g0, g1, g2, g3⟩, hbV⟩ := hV; unfold Oper.wpIn; refine ⟨fun _ _ => trivial, ?_⟩; rw [Oper.semAt_eq _ _ _ (by intro c h; cases h)]; go_simp; exact hK.out _ _ (by first | with_reducible rfl | (simp; omega)) ⟨c1, c2, ⟨d0, d1, d2, d3⟩, ⟨g0, g1, g2, g3⟩, hbV⟩)
                    refine full_want_k (by kernel_rfl) (fun V hV K hK => ?_) ?_; focus (obtain ⟨c1, c2, ⟨d0, d1, d2, d3⟩, ⟨g0, g1, g2, g3⟩, hbV⟩ := hV; unfold Oper.wpIn; refine ⟨fun _ _ => trivial, ?_⟩; rw [Oper.semAt_eq _ _ _ (by intro c h; cases h)]; go_simp; exact hK.out _ _ (by first | with_reducible rfl | (simp; omega)) ⟨c1, c2, ⟨d0, d1, d2, d3⟩, ⟨g0, g1, g2, g3⟩, hbV⟩)
                    refine full_want_k (by kernel_rfl) (fun V hV K hK => ?_) ?_; focus (unfold Oper.wpIn; refine ⟨fun _ _ => trivial, ?_⟩; rw [Oper.semAt_eq _ _ _ (by intro c h; cases h)]; go_simp; refine (CallsIn.inRound l (callsIn_wide.2 (one_any yx x V))).mono ?_; rintro e V' ⟨rfl, hbV'⟩; dsimp only; rw [hone]; obtain ⟨c1, c2, d, g, hbV⟩ := hV; have hsV := hbV.out.size; exact hK.out _ _ (by first | with_reducible rfl | (simp; omega)) ⟨(hbV'.cell (p := ⟨wr.heap.size, 0, none⟩) (by show wr.heap.size < _; omega)).trans c1, (hbV'.cell (p := ⟨w.heap.size, 0, none⟩) (by show w.heap.size < _; omega)).trans c2, d.below hbV' (by omega), g.below hbV' (by omega), hbV.out.trans (hbV'.mono hsV)⟩)
                    refine full_want_k (by kernel_rfl) (fun V hV K hK => ?_) ?_; focus (obtain ⟨c1, c2, ⟨d0, d1, d2, d3⟩, ⟨g0, g1, g2, g3⟩, hbV⟩ := hV; unfold Oper.wpIn; refine ⟨fun _ _ => trivial, ?_⟩; rw [Oper.semAt_eq _ _ _ (by intro c h; cases h)]; go_simp; exact hK.out _ _ (by first | with_reducible rfl | (simp; omega)) ⟨c1, c2, ⟨d0, d1, d2, d3⟩, ⟨g0, g1, g2, g3⟩, hbV⟩)
                    refine full_want_k (by kernel_rfl) (fun V hV K hK => ?_) ?_; focus (obtain ⟨c1, c2, ⟨d0, d1, d2, d3⟩, ⟨g0, g1, g2, g3⟩, hbV⟩ := hV; unfold Oper.wpIn; refine ⟨fun _ _ => trivial, ?_⟩; rw [Oper.semAt_eq _ _ _ (by intro c h; cases h)]; go_simp; exact hK.out _ _ (by first | with_reducible rfl | (simp; omega)) ⟨c1, c2, ⟨d0, d1, d2, d3⟩, ⟨g0, g1, g2, g3⟩, hbV⟩)
                    exact trivial
                  · intro V hV
                    (try dsimp only [Exit.then])
                    gi_wp2
                    gi_meet
                    case rel => exact ⟨rfl, hV.2.2.2.2⟩
                | false =>
                  obtain rfl : good = false := by rw [hgood, hone]; simp
                  clear hgood
                  refine region_full (fun V : World => V.cell? ⟨wr.heap.size, 0, none⟩ = some (.int .i64 (pre.length : Int)) ∧ V.cell? ⟨w.heap.size, 0, none⟩ = some (.slice (some ⟨b0, o0, none⟩) n c) ∧ LiAt V Bx 0 yx ∧ LiAt V b0 (o0 + pre.length * 4) x ∧ Hid (Below W.heap.size W V)) (((.slice (some ⟨b0, o0, none⟩) n c) :: (.int .i64 stop) :: (.pointer (some ⟨w.heap.size, 0, none⟩)) :: (.pointer (some ⟨w.heap.size + 1, 0, none⟩)) :: (.pointer (some ⟨w.heap.size + 1 + 1, 0, none⟩)) :: (.pointer (some ⟨a, 0, none⟩)) :: (.int .i64 0) :: (.pointer (some ⟨w2.heap.size, 0, none⟩)) :: (.int .i64 r) :: (.pointer (some ⟨wr.heap.size, 0, none⟩)) :: (.int .i64 (pre.length : Int)) :: (.pointer (some ⟨Bx, 0, none⟩)) :: undef :: undef :: undef :: u15 :: u16 :: u17 :: u18 :: u19 :: u20 :: u21 :: u22 :: u23 :: u24 :: u25 :: u26 :: u27 :: u28 :: u29 :: u30 :: u31 :: u32 :: u33 :: u34 :: u35 :: u36 :: u37 :: u38 :: u39 :: u40 :: u41 :: u42 :: u43 :: u44 :: u45 :: u46 :: u47 :: u48 :: u49 :: .func (.func 34) #[] #[.pointer (some ⟨bx, 0, none⟩)] :: (.int .i64 (pre.length : Int)) :: yx.agg :: (.int .i64 (pre.length : Int)) :: (.int .i64 (pre.length : Int)) :: (.bool false) :: (.bool false) :: (.int .i64 (pre.length : Int)) :: (.slice (some ⟨b0, o0, none⟩) n c) :: (.int .i64 n) :: (.bool false) :: (.bool false) :: (.bool false) :: (.agg #[.int .u64 yx.u, .int .i64 yx.n, .int .i64 yx.r, .string yx.s]) :: (.slice (some ⟨b0, o0, none⟩) n c) :: (.int .i64 (pre.length : Int)) :: (.pointer (some ⟨b0, o0 + pre.length * 4, none⟩)) :: (.agg #[.int .u64 x.u, .int .i64 x.n, .int .i64 x.r, .string x.s]) :: (.bool false) :: (.bool true) :: (.bool true) :: u71 :: u72 :: u73 :: u74 :: u75 :: u76 :: u77 :: u78 :: u79 :: u80 :: u81 :: u82 :: u83 :: u84 :: u85 :: u86 :: u87 :: u88 :: u89 :: u90 :: u91 :: u92 :: u93 :: u94 :: u95 :: u96 :: u97 :: u98 :: u99 :: u100 :: u101 :: u102 :: u103 :: u104 :: u105 :: [] : List Value).toArray) (by kernel_rfl) (by kernel_rfl) (by kernel_rfl) (by kernel_rfl) ?_ ?_ ?_
                  · exact ⟨c1, c2, d, g, Below.drew (Below.refl _ _)⟩
                  · refine full_want_k (by kernel_rfl) (fun V hV K hK => ?_) ?_; focus (obtain ⟨c1, c2, ⟨d0, d1, d2, d3⟩, ⟨g0, g1, g2, g3⟩, hbV⟩ := hV; unfold Oper.wpIn; refine ⟨fun _ _ => trivial, ?_⟩; rw [Oper.semAt_eq _ _ _ (by intro c h; cases h)]; go_simp; exact hK.out _ _ (by first | with_reducible rfl | (simp; omega)) ⟨c1, c2, ⟨d0, d1, d2, d3⟩, ⟨g0, g1, g2, g3⟩, hbV⟩)
                    refine full_want_k (by kernel_rfl) (fun V hV K hK => ?_) ?_; focus (obtain ⟨c1, c2, ⟨d0, d1, d2, d3⟩, ⟨g0, g1, g2, g3⟩, hbV⟩ := hV; unfold Oper.wpIn; refine ⟨fun _ _ => trivial, ?_⟩; rw [Oper.semAt_eq _ _ _ (by intro c h; cases h)]; go_simp; exact hK.out _ _ (by first | with_reducible rfl | (simp; omega)) ⟨c1, c2, ⟨d0, d1, d2, d3⟩, ⟨g0, g1, g2, g3⟩, hbV⟩)
                    refine full_want_k (by kernel_rfl) (fun V hV K hK => ?_) ?_; focus (obtain ⟨c1, c2, ⟨d0, d1, d2, d3⟩, ⟨g0, g1, g2, g3⟩, hbV⟩ := hV; unfold Oper.wpIn; refine ⟨fun _ _ => trivial, ?_⟩; rw [Oper.semAt_eq _ _ _ (by intro c h; cases h)]; go_simp; exact hK.out _ _ (by first | with_reducible rfl | (simp; omega)) ⟨c1, c2, ⟨d0, d1, d2, d3⟩, ⟨g0, g1, g2, g3⟩, hbV⟩)
                    refine full_want_k (by kernel_rfl) (fun V hV K hK => ?_) ?_; focus (obtain ⟨c1, c2, ⟨d0, d1, d2, d3⟩, ⟨g0, g1, g2, g3⟩, hbV⟩ := hV; unfold Oper.wpIn; refine ⟨fun _ _ => trivial, ?_⟩; rw [Oper.semAt_eq _ _ _ (by intro c h; cases h)]; go_simp; exact hK.out _ _ (by first | with_reducible rfl | (simp; omega)) ⟨c1, c2, ⟨d0, d1, d2, d3⟩, ⟨g0, g1, g2, g3⟩, hbV⟩)
                    refine full_want_k (by kernel_rfl) (fun V hV K hK => ?_) ?_; focus (obtain ⟨c1, c2, ⟨d0, d1, d2, d3⟩, ⟨g0, g1, g2, g3⟩, hbV⟩ := hV; unfold Oper.wpIn; refine ⟨fun _ _ => trivial, ?_⟩; rw [Oper.semAt_eq _ _ _ (by intro c h; cases h)]; go_simp; exact hK.out _ _ (by first | with_reducible rfl | (simp; omega)) ⟨c1, c2, ⟨d0, d1, d2, d3⟩, ⟨g0, g1, g2, g3⟩, hbV⟩)
                    refine full_want_k (by kernel_rfl) (fun V hV K hK => ?_) ?_; focus (obtain ⟨c1, c2, ⟨d0, d1, d2, d3⟩, ⟨g0, g1, g2, g3⟩, hbV⟩ := hV; unfold Oper.wpIn; refine ⟨fun _ _ => trivial, ?_⟩; rw [Oper.semAt_eq _ _ _ (by intro c h; cases h)]; go_simp; exact hK.out _ _ (by first | with_reducible rfl | (simp; omega)) ⟨c1, c2, ⟨d0, d1, d2, d3⟩, ⟨g0, g1, g2, g3⟩, hbV⟩)
                    refine full_want_k (by kernel_rfl) (fun V hV K hK => ?_) ?_; focus (obtain ⟨c1, c2, ⟨d0, d1, d2, d3⟩, ⟨g0, g1, g2, g3⟩, hbV⟩ := hV; unfold Oper.wpIn; refine ⟨fun _ _ => trivial, ?_⟩; rw [Oper.semAt_eq _ _ _ (by intro c h; cases h)]; go_simp; exact hK.out _ _ (by first | with_reducible rfl | (simp; omega)) ⟨c1, c2, ⟨d0, d1, d2, d3⟩, ⟨g0, g1, g2, g3⟩, hbV⟩)
                    refine full_want_k (by kernel_rfl) (fun V hV K hK => ?_) ?_; focus (obtain ⟨c1, c2, ⟨d0, d1, d2, d3⟩, ⟨g0, g1, g2, g3⟩, hbV⟩ := hV; unfold Oper.wpIn; refine ⟨fun _ _ => trivial, ?_⟩; rw [Oper.semAt_eq _ _ _ (by intro c h; cases h)]; go_simp; exact hK.out _ _ (by first | with_reducible rfl | (simp; omega)) ⟨c1, c2, ⟨d0, d1, d2, d3⟩, ⟨g0, g1, g2, g3⟩, hbV⟩)
                    refine full_want_k (by kernel_rfl) (fun V hV K hK => ?_) ?_; focus (obtain ⟨c1, c2, ⟨d0, d1, d2, d3⟩, ⟨g0, g1, g2, g3⟩, hbV⟩ := hV; unfold Oper.wpIn; refine ⟨fun _ _ => trivial, ?_⟩; rw [Oper.semAt_eq _ _ _ (by intro c h; cases h)]; go_simp; exact hK.out _ _ (by first | with_reducible rfl | (simp; omega)) ⟨c1, c2, ⟨d0, d1, d2, d3⟩, ⟨g0, g1, g2, g3⟩, hbV⟩)
                    refine full_want_k (by kernel_rfl) (fun V hV K hK => ?_) ?_; focus (obtain ⟨c1, c2, ⟨d0, d1, d2, d3⟩, ⟨g0, g1, g2, g3⟩, hbV⟩ := hV; unfold Oper.wpIn; refine ⟨fun _ _ => trivial, ?_⟩; rw [Oper.semAt_eq _ _ _ (by intro c h; cases h)]; go_simp; exact hK.out _ _ (by first | with_reducible rfl | (simp; omega)) ⟨c1, c2, ⟨d0, d1, d2, d3⟩, ⟨g0, g1, g2, g3⟩, hbV⟩)
                    refine full_want_k (by kernel_rfl) (fun V hV K hK => ?_) ?_; focus (obtain ⟨c1, c2, ⟨d0, d1, d2, d3⟩, ⟨g0, g1, g2, g3⟩, hbV⟩ := hV; unfold Oper.wpIn; refine ⟨fun _ _ => trivial, ?_⟩; rw [Oper.semAt_eq _ _ _ (by intro c h; cases h)]; go_simp; exact hK.out _ _ (by first | with_reducible rfl | (simp; omega)) ⟨c1, c2, ⟨d0, d1, d2, d3⟩, ⟨g0, g1, g2, g3⟩, hbV⟩)
                    refine full_want_k (by kernel_rfl) (fun V hV K hK => ?_) ?_; focus (obtain ⟨c1, c2, ⟨d0, d1, d2, d3⟩, ⟨g0, g1, g2, g3⟩, hbV⟩ := hV; unfold Oper.wpIn; refine ⟨fun _ _ => trivial, ?_⟩; rw [Oper.semAt_eq _ _ _ (by intro c h; cases h)]; go_simp; exact hK.out _ _ (by first | with_reducible rfl | (simp; omega)) ⟨c1, c2, ⟨d0, d1, d2, d3⟩, ⟨g0, g1, g2, g3⟩, hbV⟩)
                    refine full_want_k (by kernel_rfl) (fun V hV K hK => ?_) ?_; focus (obtain ⟨c1, c2, ⟨d0, d1, d2, d3⟩, ⟨g0, g1, g2, g3⟩, hbV⟩ := hV; unfold Oper.wpIn; refine ⟨fun _ _ => trivial, ?_⟩; rw [Oper.semAt_eq _ _ _ (by intro c h; cases h)]; go_simp; exact hK.out _ _ (by first | with_reducible rfl | (simp; omega)) ⟨c1, c2, ⟨d0, d1, d2, d3⟩, ⟨g0, g1, g2, g3⟩, hbV⟩)
                    refine full_want_k (by kernel_rfl) (fun V hV K hK => ?_) ?_; focus (obtain ⟨c1, c2, ⟨d0, d1, d2, d3⟩, ⟨g0, g1, g2, g3⟩, hbV⟩ := hV; unfold Oper.wpIn; refine ⟨fun _ _ => trivial, ?_⟩; rw [Oper.semAt_eq _ _ _ (by intro c h; cases h)]; go_simp; exact hK.out _ _ (by first | with_reducible rfl | (simp; omega)) ⟨c1, c2, ⟨d0, d1, d2, d3⟩, ⟨g0, g1, g2, g3⟩, hbV⟩)
                    refine full_want_k (by kernel_rfl) (fun V hV K hK => ?_) ?_; focus (obtain ⟨c1, c2, ⟨d0, d1, d2, d3⟩, ⟨g0, g1, g2, g3⟩, hbV⟩ := hV; unfold Oper.wpIn; refine ⟨fun _ _ => trivial, ?_⟩; rw [Oper.semAt_eq _ _ _ (by intro c h; cases h)]; go_simp; exact hK.out _ _ (by first | with_reducible rfl | (simp; omega)) ⟨c1, c2, ⟨d0, d1, d2, d3⟩, ⟨g0, g1, g2, g3⟩, hbV⟩)
                    refine full_want_k (by kernel_rfl) (fun V hV K hK => ?_) ?_; focus (unfold Oper.wpIn; refine ⟨fun _ _ => trivial, ?_⟩; rw [Oper.semAt_eq _ _ _ (by intro c h; cases h)]; go_simp; refine (CallsIn.inRound l (callsIn_wide.2 (one_any yx x V))).mono ?_; rintro e V' ⟨rfl, hbV'⟩; dsimp only; rw [hone]; obtain ⟨c1, c2, d, g, hbV⟩ := hV; have hsV := hbV.out.size; exact hK.out _ _ (by first | with_reducible rfl | (simp; omega)) ⟨(hbV'.cell (p := ⟨wr.heap.size, 0, none⟩) (by show wr.heap.size < _; omega)).trans c1, (hbV'.cell (p := ⟨w.heap.size, 0, none⟩) (by show w.heap.size < _; omega)).trans c2, d.below hbV' (by omega), g.below hbV' (by omega), hbV.out.trans (hbV'.mono hsV)⟩)
                    refine full_want_k (by kernel_rfl) (fun V hV K hK => ?_) ?_; focus (obtain ⟨c1, c2, ⟨d0, d1, d2, d3⟩, ⟨g0, g1, g2, g3⟩, hbV⟩ := hV; unfold Oper.wpIn; refine ⟨fun _ _ => trivial, ?_⟩; rw [Oper.semAt_eq _ _ _ (by intro c h; cases h)]; go_simp; exact hK.out _ _ (by first | with_reducible rfl | (simp; omega)) ⟨c1, c2, ⟨d0, d1, d2, d3⟩, ⟨g0, g1, g2, g3⟩, hbV⟩)
                    refine full_want_k (by kernel_rfl) (fun V hV K hK => ?_) ?_; focus (obtain ⟨c1, c2, ⟨d0, d1, d2, d3⟩, ⟨g0, g1, g2, g3⟩, hbV⟩ := hV; unfold Oper.wpIn; refine ⟨fun _ _ => trivial, ?_⟩; rw [Oper.semAt_eq _ _ _ (by intro c h; cases h)]; go_simp; exact hK.out _ _ (by first | with_reducible rfl | (simp; omega)) ⟨c1, c2, ⟨d0, d1, d2, d3⟩, ⟨g0, g1, g2, g3⟩, hbV⟩)
                    exact trivial
                  · intro V hV
                    (try dsimp only [Exit.then])
                    gi_wp2
                    gi_meet
                    case rel => exact ⟨rfl, hV.2.2.2.2⟩
              · obtain rfl : good = false := by rw [hgood]; simp [hi]
                clear hgood
                refine region_full (fun V : World => V.cell? ⟨wr.heap.size, 0, none⟩ = some (.int .i64 (pre.length : Int)) ∧ V.cell? ⟨w.heap.size, 0, none⟩ = some (.slice (some ⟨b0, o0, none⟩) n c) ∧ LiAt V Bx 0 yx ∧ LiAt V b0 (o0 + pre.length * 4) x ∧ Hid (Below W.heap.size W V)) (((.slice (some ⟨b0, o0, none⟩) n c) :: (.int .i64 stop) :: (.pointer (some ⟨w.heap.size, 0, none⟩)) :: (.pointer (some ⟨w.heap.size + 1, 0, none⟩)) :: (.pointer (some ⟨w.heap.size + 1 + 1, 0, none⟩)) :: (.pointer (some ⟨a, 0, none⟩)) :: (.int .i64 0) :: (.pointer (some ⟨w2.heap.size, 0, none⟩)) :: (.int .i64 r) :: (.pointer (some ⟨wr.heap.size, 0, none⟩)) :: (.int .i64 yi) :: (.pointer (some ⟨Bx, 0, none⟩)) :: undef :: undef :: undef :: u15 :: u16 :: u17 :: u18 :: u19 :: u20 :: u21 :: u22 :: u23 :: u24 :: u25 :: u26 :: u27 :: u28 :: u29 :: u30 :: u31 :: u32 :: u33 :: u34 :: u35 :: u36 :: u37 :: u38 :: u39 :: u40 :: u41 :: u42 :: u43 :: u44 :: u45 :: u46 :: u47 :: u48 :: u49 :: .func (.func 34) #[] #[.pointer (some ⟨bx, 0, none⟩)] :: (.int .i64 yi) :: yx.agg :: (.int .i64 yi) :: (.int .i64 (pre.length : Int)) :: (.bool true) :: (.bool true) :: undef :: undef :: undef :: undef :: (.bool true) :: (.bool true) :: undef :: undef :: undef :: undef :: undef :: undef :: undef :: (.bool true) :: u71 :: u72 :: u73 :: u74 :: u75 :: u76 :: u77 :: u78 :: u79 :: u80 :: u81 :: u82 :: u83 :: u84 :: u85 :: u86 :: u87 :: u88 :: u89 :: u90 :: u91 :: u92 :: u93 :: u94 :: u95 :: u96 :: u97 :: u98 :: u99 :: u100 :: u101 :: u102 :: u103 :: u104 :: u105 :: [] : List Value).toArray) (by kernel_rfl) (by kernel_rfl) (by kernel_rfl) (by kernel_rfl) ?_ ?_ ?_
                · exact ⟨c1, c2, d, g, Below.drew (Below.refl _ _)⟩
                · refine full_want_k (by kernel_rfl) (fun V hV K hK => ?_) ?_; focus (obtain ⟨c1, c2, ⟨d0, d1, d2, d3⟩, ⟨g0, g1, g2, g3⟩, hbV⟩ := hV; unfold Oper.wpIn; refine ⟨fun _ _ => trivial, ?_⟩; rw [Oper.semAt_eq _ _ _ (by intro c h; cases h)]; go_simp; exact hK.out _ _ (by first | with_reducible rfl | (simp; omega)) ⟨c1, c2, ⟨d0, d1, d2, d3⟩, ⟨g0, g1, g2, g3⟩, hbV⟩)
                  refine full_want_k (by kernel_rfl) (fun V hV K hK => ?_) ?_; focus (obtain ⟨c1, c2, ⟨d0, d1, d2, d3⟩, ⟨g0, g1, g2, g3⟩, hbV⟩ := hV; unfold Oper.wpIn; refine ⟨fun _ _ => trivial, ?_⟩; rw [Oper.semAt_eq _ _ _ (by intro c h; cases h)]; go_simp; exact hK.out _ _ (by first | with_reducible rfl | (simp; omega)) ⟨c1, c2, ⟨d0, d1, d2, d3⟩, ⟨g0, g1, g2, g3⟩, hbV⟩)
                  refine full_want_k (by kernel_rfl) (fun V hV K hK => ?_) ?_; focus (obtain ⟨c1, c2, ⟨d0, d1, d2, d3⟩, ⟨g0, g1, g2, g3⟩, hbV⟩ := hV; unfold Oper.wpIn; refine ⟨fun _ _ => trivial, ?_⟩; rw [Oper.semAt_eq _ _ _ (by intro c h; cases h)]; go_simp; exact hK.out _ _ (by first | with_reducible rfl | (simp; omega)) ⟨c1, c2, ⟨d0, d1, d2, d3⟩, ⟨g0, g1, g2, g3⟩, hbV⟩)
                  refine full_want_k (by kernel_rfl) (fun V hV K hK => ?_) ?_; focus (obtain ⟨c1, c2, ⟨d0, d1, d2, d3⟩, ⟨g0, g1, g2, g3⟩, hbV⟩ := hV; unfold Oper.wpIn; refine ⟨fun _ _ => trivial, ?_⟩; rw [Oper.semAt_eq _ _ _ (by intro c h; cases h)]; go_simp; exact hK.out _ _ (by first | with_reducible rfl | (simp; omega)) ⟨c1, c2, ⟨d0, d1, d2, d3⟩, ⟨g0, g1, g2, g3⟩, hbV⟩)
                  refine full_skip (by kernel_rfl) (fun _ _ _ => trivial) (by kernel_rfl) ?_
                  refine full_skip (by kernel_rfl) (fun _ _ _ => trivial) (by kernel_rfl) ?_
                  refine full_skip (by kernel_rfl) (fun _ _ _ => trivial) (by kernel_rfl) ?_
                  refine full_skip (by kernel_rfl) (fun _ _ _ => trivial) (by kernel_rfl) ?_
                  refine full_want_k (by kernel_rfl) (fun V hV K hK => ?_) ?_; focus (obtain ⟨c1, c2, ⟨d0, d1, d2, d3⟩, ⟨g0, g1, g2, g3⟩, hbV⟩ := hV; unfold Oper.wpIn; refine ⟨fun _ _ => trivial, ?_⟩; rw [Oper.semAt_eq _ _ _ (by intro c h; cases h)]; go_simp; exact hK.out _ _ (by first | with_reducible rfl | (simp; omega)) ⟨c1, c2, ⟨d0, d1, d2, d3⟩, ⟨g0, g1, g2, g3⟩, hbV⟩)
                  refine full_want_k (by kernel_rfl) (fun V hV K hK => ?_) ?_; focus (obtain ⟨c1, c2, ⟨d0, d1, d2, d3⟩, ⟨g0, g1, g2, g3⟩, hbV⟩ := hV; unfold Oper.wpIn; refine ⟨fun _ _ => trivial, ?_⟩; rw [Oper.semAt_eq _ _ _ (by intro c h; cases h)]; go_simp; exact hK.out _ _ (by first | with_reducible rfl | (simp; omega)) ⟨c1, c2, ⟨d0, d1, d2, d3⟩, ⟨g0, g1, g2, g3⟩, hbV⟩)
                  refine full_skip (by kernel_rfl) (fun _ _ _ => trivial) (by kernel_rfl) ?_
                  refine full_skip (by kernel_rfl) (fun _ _ _ => trivial) (by kernel_rfl) ?_
                  refine full_skip (by kernel_rfl) (fun _ _ _ => trivial) (by kernel_rfl) ?_
                  refine full_skip (by kernel_rfl) (fun _ _ _ => trivial) (by kernel_rfl) ?_
                  refine full_skip (by kernel_rfl) (fun _ _ _ => trivial) (by kernel_rfl) ?_
                  refine full_skip (by kernel_rfl) (fun _ _ _ => trivial) (by kernel_rfl) ?_
                  refine full_skip (by kernel_rfl) (fun _ _ _ => trivial) (by kernel_rfl) ?_
                  refine full_want_k (by kernel_rfl) (fun V hV K hK => ?_) ?_; focus (obtain ⟨c1, c2, ⟨d0, d1, d2, d3⟩, ⟨g0, g1, g2, g3⟩, hbV⟩ := hV; unfold Oper.wpIn; refine ⟨fun _ _ => trivial, ?_⟩; rw [Oper.semAt_eq _ _ _ (by intro c h; cases h)]; go_simp; exact hK.out _ _ (by first | with_reducible rfl | (simp; omega)) ⟨c1, c2, ⟨d0, d1, d2, d3⟩, ⟨g0, g1, g2, g3⟩, hbV⟩)
                  exact trivial
                · intro V hV
                  (try dsimp only [Exit.then])
                  gi_wp2
                  gi_meet
                  case rel => exact ⟨rfl, hV.2.2.2.2⟩
            case rest =>
              obtain ⟨rfl, hbc⟩ := hcut
              obtain ⟨WC, hWC⟩ : ∃ WC, WC = wc := ⟨_, rfl⟩
              subst hWC
              have hsc := hbc.out.size
              have HDV := Lib.hid (HDW.out.later (hbc.out) (by omega))
              have HKV := Lib.hid (boxed_later HK1.out hbc.out)
              have hnI : (n : Int) ≤ 3518437208880 := by omega
              clear c1 c2 d g
              cases good with
              | false =>
                have hbad : ¬ (pre ++ [(⟨yi, yx⟩ : Ent)]) <+: entsOf xs := by
                  intro hpf
                  have h1 := List.IsPrefix.getElem hpf (i := pre.length) (by simp)
                  rw [HEA.out] at h1
                  simp only [List.getElem_append_right (Nat.le_refl _), Nat.sub_self, List.getElem_cons_zero, Ent.mk.injEq] at h1
                  rw [h1.1, h1.2, oneL_refl] at hgood
                  simp at hgood
                have HBAD := Lib.hid hbad
                clear hgood hbad
                have f2 := HDV.out.b2.frozen
                have k2 := HDV.out.b2.cell
                gi_wp2
                exact ⟨((keeps_below hbc.out).trans (KeepsOthers.setCell _ _ _)).from _, HBAD.out⟩
              | true =>
                clear hgood
                have k1 := HKV.out.cell
                have k2 := HDV.out.b1.cell
                gi_upto_if 73 with fail
                gi_cut [] from 53 (fun V => Hid (Below W.heap.size W V) ∧ Hid (KeepsFrom (wr.heap.size + 1) W V))
                case first =>
                  by_cases hst : (pre.length : Int) = stop
                  · subst hst
                    have hbj : Below WC.heap.size WC (WC.alloc (.cells #[.int .i64 0] 3)) := (Below.refl _ _).alloc (Nat.le_refl _) _
                    have HDJ := Lib.hid (HDV.out.later hbj (by omega))
                    have HJB := Lib.hid (Boxed.new WC 3 (.int .i64 0))
                    have HBJ := Lib.hid hbj
                    have k7 := HDJ.out.b3.cell
                    have HSJ : Hid ((WC.alloc (.cells #[.int .i64 0] 3)).heap.size = WC.heap.size + 1) := by show _ = _; simp
                    have HKJ : Hid (KeepsFrom (wr.heap.size + 1) W (WC.alloc (.cells #[.int .i64 0] 3))) := ((keeps_below hbc.out).trans (KeepsOthers.alloc _ _)).from _
                    have hltl := (Array.getElem?_eq_some_iff.1 hrl).1
                    have HRL : Hid ((WC.alloc (.cells #[.int .i64 0] 3)).heap[l]? = some (.loop rl)) := (hbj.block l (by omega)).trans ((hbc.out.block l hltl).trans hrl)
                    clear hbj
                    gi_wp2
                    generalize WC.alloc (.cells #[.int .i64 0] 3) = W2 at *
                    have hszj := HSJ.out
                    refine wpIn_rangeFunc_ownN (l₀ := l) (r₀ := rl) rfl HRL.out (by omega) (gf := 34) (lb := #[.pointer (some ⟨bx, 0, none⟩)]) rfl trivial (enters_of Try.func34 (by kernel_rfl) rfl)
                      ((all_stops 6 (by omega) bx WC.heap.size p2 n c2 xs HN.out (by omega) W2 HDJ.out.bX.cell (by have := HDV.out.lX; omega) (by omega) (fun i hi => by obtain ⟨b, o, e, hb, hc⟩ := HDJ.out.hat i hi; exact ⟨b, o, e, by omega, hc⟩)).inRound l) belowK_t (belowK_b (by omega)) (Below.refl _ _) (fun _ => rfl)
                      (fun pre2 V => Boxed V WC.heap.size 3 (.int .i64 (pre2.length : Int)) ∧ Below WC.heap.size WC V ∧ KeepsFrom (wr.heap.size + 1) W V)
                      (fun cd pre2 V => ¬ pre2 <+: entsOf xs ∨ (cd = .exit 4 ∧ Below WC.heap.size WC V ∧ KeepsFrom (wr.heap.size + 1) W V))
                      (OwnFrom.and (Own.from (boxed_own _ _ _) _) (OwnFrom.and (ownFrom_below (Nat.le_refl _) (by omega)) (ownFrom_keepsFrom (by omega))))
                      (fun cd s X Y row hs hg hr => by
                        rcases hs with h | ⟨h1, h2, h3⟩
                        · exact .inl h
                        · exact .inr ⟨h1, (ownFrom_below (β := Unit) (B := W2.heap.size) (Nat.le_refl _) (by omega)) () X Y row h2 hg hr, (ownFrom_keepsFrom (β := Unit) (B' := W2.heap.size) (by omega)) () X Y row h3 hg hr⟩)
                      ⟨HJB.out, HBJ.out, HKJ.out⟩
                      (fun z a' V => ∃ (By : Nat) (v70 v71 v72 v73 : Value), WC.heap.size + 1 ≤ By ∧ LiBox V By z.x ∧ a' = { tmps := ((.slice (some ⟨b0, o0, none⟩) n c) :: (.int .i64 (pre.length : Int)) :: (.pointer (some ⟨w.heap.size, 0, none⟩)) :: (.pointer (some ⟨w.heap.size + 1, 0, none⟩)) :: (.pointer (some ⟨w.heap.size + 1 + 1, 0, none⟩)) :: (.pointer (some ⟨a, 0, none⟩)) :: (.int .i64 0) :: (.pointer (some ⟨w2.heap.size, 0, none⟩)) :: (.int .i64 r) :: (.pointer (some ⟨wr.heap.size, 0, none⟩)) :: (.int .i64 yi) :: (.pointer (some ⟨Bx, 0, none⟩)) :: (.pointer (some ⟨WC.heap.size, 0, none⟩)) :: (.int .i64 z.i) :: (.pointer (some ⟨By, 0, none⟩)) :: u15 :: u16 :: u17 :: u18 :: u19 :: u20 :: u21 :: u22 :: u23 :: u24 :: u25 :: u26 :: u27 :: u28 :: u29 :: u30 :: u31 :: u32 :: u33 :: u34 :: u35 :: u36 :: u37 :: u38 :: u39 :: u40 :: u41 :: u42 :: u43 :: u44 :: u45 :: u46 :: u47 :: u48 :: u49 :: .func (.func 34) #[] #[.pointer (some ⟨bx, 0, none⟩)] :: (.int .i64 yi) :: yx.agg :: u53 :: u54 :: u55 :: u56 :: u57 :: u58 :: u59 :: u60 :: u61 :: u62 :: u63 :: u64 :: u65 :: u66 :: u67 :: u68 :: u69 :: v70 :: v71 :: v72 :: v73 :: .func (.func 34) #[] #[.pointer (some ⟨bx, 0, none⟩)] :: (.int .i64 z.i) :: z.x.agg :: u77 :: u78 :: u79 :: u80 :: u81 :: u82 :: u83 :: u84 :: u85 :: u86 :: u87 :: u88 :: u89 :: u90 :: u91 :: u92 :: u93 :: u94 :: u95 :: u96 :: u97 :: u98 :: u99 :: u100 :: u101 :: u102 :: u103 :: u104 :: u105 :: [] : List Value).toArray, defers := [] })
                      (fun z a' _ X Y row hs hg hr => by obtain ⟨By, v70, v71, v72, v73, h1, h2, h3⟩ := hs; exact ⟨By, v70, v71, v72, v73, h1, liBox_own By z.x () X Y row h2 hg (fun r e => (hr r e).2), h3⟩)
                      ?assign2 ?body2 ?done2 ?stop2
                    case assign2 =>
                      rintro l2 pre2 ⟨zi, zu, zn, zr, zs⟩ V K ⟨hj1, hb1, hkf⟩ hK
                      unfold encE Li.agg at *
                      dsimp only at *
                      clear k1 k2 k7
                      gi_wp2
                      exact hK _ _ ((KeepsOthers.alloc _ _).from _) ((Below.refl _ V).alloc hb1.size _) ⟨hj1.alloc _, hb1.alloc hb1.size _, hkf.trans ((KeepsOthers.alloc _ _).from _)⟩ ⟨V.heap.size, _, _, _, _, hj1.lt, World.alloc_heap_new V _, rfl⟩
                    case stop2 =>
                      rintro cd pre2 V hp hx
                      rcases hx with hx | ⟨rfl, hbV, hkV⟩
                      · exact absurd hp hx
                      · have hbe : Hid (Below W.heap.size W V) := hbc.out.trans (hbV.mono hsc)
                        have hke := Lib.hid hkV
                        clear k1 k2 k7
                        gi_wp2
                        gi_meet
                        case rel => exact ⟨hbe, hke⟩
                    case done2 =>
                      rintro zs V rfl ⟨_, hbV, hkV⟩
                      have hbe : Hid (Below W.heap.size W V) := hbc.out.trans (hbV.mono hsc)
                      have hke := Lib.hid hkV
                      clear k1 k2 k7 hbV hkV
                      (try dsimp only [Exit.then, Exit.inBlock])
                      gi_wp2
                      gi_meet
                      case rel => exact ⟨hbe, hke⟩
                    case body2 =>
                      rintro l2 pre2 ⟨zi, zx⟩ a' V0 hl2 ⟨rl2, hrl2⟩ ⟨hj1, hbV0, hkV0⟩ ⟨By, v70, v71, v72, v73, hBy, hbY, rfl⟩ hlt2
                      dsimp only at *
                      have hlt2' : pre2.length < xs.length := by rw [HN.out]; exact hlt2
                      have HDZ := Lib.hid (HDV.out.later hbV0 (by omega))
                      obtain ⟨b3, o3, hp3, hb3, hc3⟩ := HDZ.out.hat0 pre2.length hlt2'
                      cases hp3
                      have hEA2 := ents_at hlt2'
                      obtain ⟨x2, hx2⟩ : ∃ x2, xs[pre2.length] = x2 := ⟨_, rfl⟩
                      rw [hx2] at hc3 hEA2
                      have HEA2 := Lib.hid hEA2
                      have hltY : By < V0.heap.size := (Array.getElem?_eq_some_iff.1 hbY).1
                      have hsV0 := hbV0.size
                      have HJ1 := Lib.hid hj1
                      have HBV0 := Lib.hid hbV0
                      have HKV0 := Lib.hid hkV0
                      have c1 := hj1.cell
                      have c2 := HDZ.out.b0.cell
                      have d : LiAt V0 By 0 zx := LiBox.at hbY
                      have g := hc3
                      clear hbY hj1 hbV0 hkV0 hc3 hEA2 hx2 k1 k2 k7 HDk HEA HDW HX HK1 HB1 HKV HDJ HJB HBJ HRL HKJ
                      obtain ⟨good, hgood⟩ : ∃ good : Bool, good = (decide (zi = (pre2.length : Int)) && oneL zx x2) := ⟨_, rfl⟩
                      have hkn2 : ¬ ((pre2.length : Int) = (n : Int)) := by omega
                      have hj0 : (0 : Int) ≤ (pre2.length : Int) := by omega
                      have hjlt : (pre2.length : Int) < (n : Int) := by omega
                      gi_upto_region 23 with fail
                      gi_cut [94] from 106 (fun t94 V => t94 = .bool (!good) ∧ Hid (Below V0.heap.size V0 V))
                      case first =>
                        by_cases hi : zi = (pre2.length : Int)
                        · subst hi
                          cases hone : oneL zx x2 with
                          | true =>
                            obtain rfl : good = true := by rw [hgood, hone]; simp
                            clear hgood
                            refine region_full (fun V : World => V.cell? ⟨WC.heap.size, 0, none⟩ = some (.int .i64 (pre2.length : Int)) ∧ V.cell? ⟨w.heap.size, 0, none⟩ = some (.slice (some ⟨b0, o0, none⟩) n c) ∧ LiAt V By 0 zx ∧ LiAt V b0 (o0 + pre2.length * 4) x2 ∧ Hid (Below V0.heap.size V0 V)) (((.slice (some ⟨b0, o0, none⟩) n c) :: (.int .i64 (pre.length : Int)) :: (.pointer (some ⟨w.heap.size, 0, none⟩)) :: (.pointer (some ⟨w.heap.size + 1, 0, none⟩)) :: (.pointer (some ⟨w.heap.size + 1 + 1, 0, none⟩)) :: (.pointer (some ⟨a, 0, none⟩)) :: (.int .i64 0) :: (.pointer (some ⟨w2.heap.size, 0, none⟩)) :: (.int .i64 r) :: (.pointer (some ⟨wr.heap.size, 0, none⟩)) :: (.int .i64 yi) :: (.pointer (some ⟨Bx, 0, none⟩)) :: (.pointer (some ⟨WC.heap.size, 0, none⟩)) :: (.int .i64 (pre2.length : Int)) :: (.pointer (some ⟨By, 0, none⟩)) :: u15 :: u16 :: u17 :: u18 :: u19 :: u20 :: u21 :: u22 :: u23 :: u24 :: u25 :: u26 :: u27 :: u28 :: u29 :: u30 :: u31 :: u32 :: u33 :: u34 :: u35 :: u36 :: u37 :: u38 :: u39 :: u40 :: u41 :: u42 :: u43 :: u44 :: u45 :: u46 :: u47 :: u48 :: u49 :: .func (.func 34) #[] #[.pointer (some ⟨bx, 0, none⟩)] :: (.int .i64 yi) :: yx.agg :: u53 :: u54 :: u55 :: u56 :: u57 :: u58 :: u59 :: u60 :: u61 :: u62 :: u63 :: u64 :: u65 :: u66 :: u67 :: u68 :: u69 :: v70 :: v71 :: v72 :: v73 :: .func (.func 34) #[] #[.pointer (some ⟨bx, 0, none⟩)] :: (.int .i64 (pre2.length : Int)) :: zx.agg :: (.int .i64 (pre2.length : Int)) :: (.int .i64 (pre2.length : Int)) :: (.bool false) :: (.bool false) :: (.int .i64 (pre2.length : Int)) :: (.slice (some ⟨b0, o0, none⟩) n c) :: (.int .i64 n) :: (.bool false) :: (.bool false) :: (.bool false) :: (.agg #[.int .u64 zx.u, .int .i64 zx.n, .int .i64 zx.r, .string zx.s]) :: (.slice (some ⟨b0, o0, none⟩) n c) :: (.int .i64 (pre2.length : Int)) :: (.pointer (some ⟨b0, o0 + pre2.length * 4, none⟩)) :: (.agg #[.int .u64 x2.u, .int .i64 x2.n, .int .i64 x2.r, .string x2.s]) :: (.bool true) :: (.bool false) :: (.bool false) :: u95 :: u96 :: u97 :: u98 :: u99 :: u100 :: u101 :: u102 :: u103 :: u104 :: u105 :: [] : List Value).toArray) (by kernel_rfl) (by kernel_rfl) (by kernel_rfl) (by kernel_rfl) ?_ ?_ ?_
                            · exact ⟨c1, c2, d, g, Below.drew (Below.refl _ _)⟩
                            · refine full_want_k (by kernel_rfl) (fun V hV K hK => ?_) ?_; focus (obtain ⟨c1, c2, ⟨d0, d1, d2, d3⟩, ⟨g0, g1, g2, g3⟩, hbV⟩ := hV; unfold Oper.wpIn; refine ⟨fun _ _ => trivial, ?_⟩; rw [Oper.semAt_eq _ _ _ (by intro c h; cases h)]; go_simp; exact hK.out _ _ (by first | with_reducible rfl | (simp; omega)) ⟨c1, c2, ⟨d0, d1, d2, d3⟩, ⟨g0, g1, g2, g3⟩, hbV⟩)
                              refine full_want_k (by kernel_rfl) (fun V hV K hK => ?_) ?_; focus (obtain ⟨c1, c2, ⟨d0, d1, d2, d3⟩, ⟨g0, g1, g2, g3⟩, hbV⟩ := hV; unfold Oper.wpIn; refine ⟨fun _ _ => trivial, ?_⟩; rw [Oper.semAt_eq _ _ _ (by intro c h; cases h)]; go_simp; exact hK.out _ _ (by first | with_reducible rfl | (simp; omega)) ⟨c1, c2, ⟨d0, d1, d2, d3⟩, ⟨g0, g1, g2, g3⟩, hbV⟩)
                              refine full_want_k (by kernel_rfl) (fun V hV K hK => ?_) ?_; focus (obtain ⟨c1, c2, ⟨d0, d1, d2, d3⟩, ⟨g0, g1, g2, g3⟩, hbV⟩ := hV; unfold Oper.wpIn; refine ⟨fun _ _ => trivial, ?_⟩; rw [Oper.semAt_eq _ _ _ (by intro c h; cases h)]; go_simp; exact hK.out _ _ (by first | with_reducible rfl | (simp; omega)) ⟨c1, c2, ⟨d0, d1, d2, d3⟩, ⟨g0, g1, g2, g3⟩, hbV⟩)
                              refine full_want_k (by kernel_rfl) (fun V hV K hK => ?_) ?_; focus (obtain ⟨c1, c2, ⟨d0, d1, d2, d3⟩, ⟨g0, g1, g2, g3⟩, hbV⟩ := hV; unfold Oper.wpIn; refine ⟨fun _ _ => trivial, ?_⟩; rw [Oper.semAt_eq _ _ _ (by intro c h; cases h)]; go_simp; exact hK.out _ _ (by first | with_reducible rfl | (simp; omega)) ⟨c1, c2, ⟨d0, d1, d2, d3⟩, ⟨g0, g1, g2, g3⟩, hbV⟩)
                              refine full_want_k (by kernel_rfl) (fun V hV K hK => ?_) ?_; focus (obtain ⟨c1, c2, ⟨d0, d1, d2, d3⟩, ⟨g0, g1, g2, g3⟩, hbV⟩ := hV; unfold Oper.wpIn; refine ⟨fun _ _ => trivial, ?_⟩; rw [Oper.semAt_eq _ _ _ (by intro c h; cases h)]; go_simp; exact hK.out _ _ (by first | with_reducible rfl | (simp; omega)) ⟨c1, c2, ⟨d0, d1, d2, d3⟩, ⟨g0, g1, g2, g3⟩, hbV⟩)
                              refine full_want_k (by kernel_rfl) (fun V hV K hK => ?_) ?_; focus (obtain ⟨c1, c2, ⟨d0, d1, d2, d3⟩, ⟨g0, g1, g2, g3⟩, hbV⟩ := hV; unfold Oper.wpIn; refine ⟨fun _ _ => trivial, ?_⟩; rw [Oper.semAt_eq _ _ _ (by intro c h; cases h)]; go_simp; exact hK.out _ _ (by first | with_reducible rfl | (simp; omega)) ⟨c1, c2, ⟨d0, d1, d2, d3⟩, ⟨g0, g1, g2, g3⟩, hbV⟩)
                              refine full_want_k (by kernel_rfl) (fun V hV K hK => ?_) ?_; focus (obtain ⟨c1, c2, ⟨d0, d1, d2, d3⟩, ⟨g0, g1, g2, g3⟩, hbV⟩ := hV; unfold Oper.wpIn; refine ⟨fun _ _ => trivial, ?_⟩; rw [Oper.semAt_eq _ _ _ (by intro c h; cases h)]; go_simp; exact hK.out _ _ (by first | with_reducible rfl | (simp; omega)) ⟨c1, c2, ⟨d0, d1, d2, d3⟩, ⟨g0, g1, g2, g3⟩, hbV⟩)
                              refine full_want_k (by kernel_rfl) (fun V hV K hK => ?_) ?_; focus (obtain ⟨c1, c2, ⟨d0, d1, d2, d3⟩, ⟨g0, g1, g2, g3⟩, hbV⟩ := hV; unfold Oper.wpIn; refine ⟨fun _ _ => trivial, ?_⟩; rw [Oper.semAt_eq _ _ _ (by intro c h; cases h)]; go_simp; exact hK.out _ _ (by first | with_reducible rfl | (simp; omega)) ⟨c1, c2, ⟨d0, d1, d2, d3⟩, ⟨g0, g1, g2, g3⟩, hbV⟩)
                              refine full_want_k (by kernel_rfl) (fun V hV K hK => ?_) ?_; focus (obtain ⟨c1, c2, ⟨d0, d1, d2, d3⟩, ⟨g0, g1, g2, g3⟩, hbV⟩ := hV; unfold Oper.wpIn; refine ⟨fun _ _ => trivial, ?_⟩; rw [Oper.semAt_eq _ _ _ (by intro c h; cases h)]; go_simp; exact hK.out _ _ (by first | with_reducible rfl | (simp; omega)) ⟨c1, c2, ⟨d0, d1, d2, d3⟩, ⟨g0, g1, g2, g3⟩, hbV⟩)
                              refine full_want_k (by kernel_rfl) (fun V hV K hK => ?_) ?_; focus (obtain ⟨c1, c2, ⟨d0, d1, d2, d3⟩, ⟨g0, g1, g2, g3⟩, hbV⟩ := hV; unfold Oper.wpIn; refine ⟨fun _ _ => trivial, ?_⟩; rw [Oper.semAt_eq _ _ _ (by intro c h; cases h)]; go_simp; exact hK.out _ _ (by first | with_reducible rfl | (simp; omega)) ⟨c1, c2, ⟨d0, d1, d2, d3⟩, ⟨g0, g1, g2, g3⟩, hbV⟩)
                              refine full_want_k (by kernel_rfl) (fun V hV K hK => ?_) ?_; focus (obtain ⟨c1, c2, ⟨d0, d1, d2, d3⟩, ⟨g0, g1, g2, g3⟩, hbV⟩ := hV; unfold Oper.wpIn; refine ⟨fun _ _ => trivial, ?_⟩; rw [Oper.semAt_eq _ _ _ (by intro c h; cases h)]; go_simp; exact hK.out _ _ (by first | with_reducible rfl | (simp; omega)) ⟨c1, c2, ⟨d0, d1, d2, d3⟩, ⟨g0, g1, g2, g3⟩, hbV⟩)
                              refine full_want_k (by kernel_rfl) (fun V hV K hK => ?_) ?_; focus (obtain ⟨c1, c2, ⟨d0, d1, d2, d3⟩, ⟨g0, g1, g2, g3⟩, hbV⟩ := hV; unfold Oper.wpIn; refine ⟨fun _ _ => trivial, ?_⟩; rw [Oper.semAt_eq _ _ _ (by intro c h; cases h)]; go_simp; exact hK.out _ _ (by first | with_reducible rfl | (simp; omega)) ⟨c1, c2, ⟨d0, d1, d2, d3⟩, ⟨g0, g1, g2, g3⟩, hbV⟩)
                              refine full_want_k (by kernel_rfl) (fun V hV K hK => ?_) ?_; focus (obtain ⟨c1, c2, ⟨d0, d1, d2, d3⟩, ⟨g0, g1, g2, g3⟩, hbV⟩ := hV; unfold Oper.wpIn; refine ⟨fun _ _ => trivial, ?_⟩; rw [Oper.semAt_eq _ _ _ (by intro c h; cases h)]; go_simp; exact hK.out _ _ (by first | with_reducible rfl | (simp; omega)) ⟨c1, c2, ⟨d0, d1, d2, d3⟩, ⟨g0, g1, g2, g3⟩, hbV⟩)
                              refine full_want_k (by kernel_rfl) (fun V hV K hK => ?_) ?_; focus (obtain ⟨c1, c2, ⟨d0, d1, d2, d3⟩, ⟨g0, g1, g2, g3⟩, hbV⟩ := hV; unfold Oper.wpIn; refine ⟨fun _ _ => trivial, ?_⟩; rw [Oper.semAt_eq _ _ _ (by intro c h; cases h)]; go_simp; exact hK.out _ _ (by first | with_reducible rfl | (simp; omega)) ⟨c1, c2, ⟨d0, d1, d2, d3⟩, ⟨g0, g1, g2, g3⟩, hbV⟩)
                              refine full_want_k (by kernel_rfl) (fun V hV K hK => ?_) ?_; focus (obtain ⟨c1, c2, ⟨d0, d1, d2, d3⟩, ⟨g0, g1, g2, g3⟩, hbV⟩ := hV; unfold Oper.wpIn; refine ⟨fun _ _ => trivial, ?_⟩; rw [Oper.semAt_eq _ _ _ (by intro c h; cases h)]; go_simp; exact hK.out _ _ (by first | with_reducible rfl | (simp; omega)) ⟨c1, c2, ⟨d0, d1, d2, d3⟩, ⟨g0, g1, g2, g3⟩, hbV⟩)
                              refine full_want_k (by kernel_rfl) (fun V hV K hK => ?_) ?_; focus (unfold Oper.wpIn; refine ⟨fun _ _ => trivial, ?_⟩; rw [Oper.semAt_eq _ _ _ (by intro c h; cases h)]; go_simp; refine (CallsIn.inRound l2 (callsIn_wide.2 (one_any zx x2 V))).mono ?_; rintro e V' ⟨rfl, hbV'⟩; dsimp only; rw [hone]; obtain ⟨c1, c2, d, g, hbV⟩ := hV; have hsV := hbV.out.size; exact hK.out _ _ (by first | with_reducible rfl | (simp; omega)) ⟨(hbV'.cell (p := ⟨WC.heap.size, 0, none⟩) (by show WC.heap.size < _; omega)).trans c1, (hbV'.cell (p := ⟨w.heap.size, 0, none⟩) (by show w.heap.size < _; omega)).trans c2, d.below hbV' (by omega), g.below hbV' (by omega), hbV.out.trans (hbV'.mono hsV)⟩)
                              refine full_want_k (by kernel_rfl) (fun V hV K hK => ?_) ?_; focus (obtain ⟨c1, c2, ⟨d0, d1, d2, d3⟩, ⟨g0, g1, g2, g3⟩, hbV⟩ := hV; unfold Oper.wpIn; refine ⟨fun _ _ => trivial, ?_⟩; rw [Oper.semAt_eq _ _ _ (by intro c h; cases h)]; go_simp; exact hK.out _ _ (by first | with_reducible rfl | (simp; omega)) ⟨c1, c2, ⟨d0, d1, d2, d3⟩, ⟨g0, g1, g2, g3⟩, hbV⟩)
                              refine full_want_k (by kernel_rfl) (fun V hV K hK => ?_) ?_; focus (obtain ⟨c1, c2, ⟨d0, d1, d2, d3⟩, ⟨g0, g1, g2, g3⟩, hbV⟩ := hV; unfold Oper.wpIn; refine ⟨fun _ _ => trivial, ?_⟩; rw [Oper.semAt_eq _ _ _ (by intro c h; cases h)]; go_simp; exact hK.out _ _ (by first | with_reducible rfl | (simp; omega)) ⟨c1, c2, ⟨d0, d1, d2, d3⟩, ⟨g0, g1, g2, g3⟩, hbV⟩)
                              exact trivial
                            · intro V hV
                              (try dsimp only [Exit.then])
                              gi_wp2
                              gi_meet
                              case rel => exact ⟨rfl, hV.2.2.2.2⟩
                          | false =>
                            obtain rfl : good = false := by rw [hgood, hone]; simp
                            clear hgood
                            refine region_full (fun V : World => V.cell? ⟨WC.heap.size, 0, none⟩ = some (.int .i64 (pre2.length : Int)) ∧ V.cell? ⟨w.heap.size, 0, none⟩ = some (.slice (some ⟨b0, o0, none⟩) n c) ∧ LiAt V By 0 zx ∧ LiAt V b0 (o0 + pre2.length * 4) x2 ∧ Hid (Below V0.heap.size V0 V)) (((.slice (some ⟨b0, o0, none⟩) n c) :: (.int .i64 (pre.length : Int)) :: (.pointer (some ⟨w.heap.size, 0, none⟩)) :: (.pointer (some ⟨w.heap.size + 1, 0, none⟩)) :: (.pointer (some ⟨w.heap.size + 1 + 1, 0, none⟩)) :: (.pointer (some ⟨a, 0, none⟩)) :: (.int .i64 0) :: (.pointer (some ⟨w2.heap.size, 0, none⟩)) :: (.int .i64 r) :: (.pointer (some ⟨wr.heap.size, 0, none⟩)) :: (.int .i64 yi) :: (.pointer (some ⟨Bx, 0, none⟩)) :: (.pointer (some ⟨WC.heap.size, 0, none⟩)) :: (.int .i64 (pre2.length : Int)) :: (.pointer (some ⟨By, 0, none⟩)) :: u15 :: u16 :: u17 :: u18 :: u19 :: u20 :: u21 :: u22 :: u23 :: u24 :: u25 :: u26 :: u27 :: u28 :: u29 :: u30 :: u31 :: u32 :: u33 :: u34 :: u35 :: u36 :: u37 :: u38 :: u39 :: u40 :: u41 :: u42 :: u43 :: u44 :: u45 :: u46 :: u47 :: u48 :: u49 :: .func (.func 34) #[] #[.pointer (some ⟨bx, 0, none⟩)] :: (.int .i64 yi) :: yx.agg :: u53 :: u54 :: u55 :: u56 :: u57 :: u58 :: u59 :: u60 :: u61 :: u62 :: u63 :: u64 :: u65 :: u66 :: u67 :: u68 :: u69 :: v70 :: v71 :: v72 :: v73 :: .func (.func 34) #[] #[.pointer (some ⟨bx, 0, none⟩)] :: (.int .i64 (pre2.length : Int)) :: zx.agg :: (.int .i64 (pre2.length : Int)) :: (.int .i64 (pre2.length : Int)) :: (.bool false) :: (.bool false) :: (.int .i64 (pre2.length : Int)) :: (.slice (some ⟨b0, o0, none⟩) n c) :: (.int .i64 n) :: (.bool false) :: (.bool false) :: (.bool false) :: (.agg #[.int .u64 zx.u, .int .i64 zx.n, .int .i64 zx.r, .string zx.s]) :: (.slice (some ⟨b0, o0, none⟩) n c) :: (.int .i64 (pre2.length : Int)) :: (.pointer (some ⟨b0, o0 + pre2.length * 4, none⟩)) :: (.agg #[.int .u64 x2.u, .int .i64 x2.n, .int .i64 x2.r, .string x2.s]) :: (.bool false) :: (.bool true) :: (.bool true) :: u95 :: u96 :: u97 :: u98 :: u99 :: u100 :: u101 :: u102 :: u103 :: u104 :: u105 :: [] : List Value).toArray) (by kernel_rfl) (by kernel_rfl) (by kernel_rfl) (by kernel_rfl) ?_ ?_ ?_
                            · exact ⟨c1, c2, d, g, Below.drew (Below.refl _ _)⟩
                            · refine full_want_k (by kernel_rfl) (fun V hV K hK => ?_) ?_; focus (obtain ⟨c1, c2, ⟨d0, d1, d2, d3⟩, ⟨g0, g1, g2, g3⟩, hbV⟩ := hV; unfold Oper.wpIn; refine ⟨fun _ _ => trivial, ?_⟩; rw [Oper.semAt_eq _ _ _ (by intro c h; cases h)]; go_simp; exact hK.out _ _ (by first | with_reducible rfl | (simp; omega)) ⟨c1, c2, ⟨d0, d1, d2, d3⟩, ⟨g0, g1, g2, g3⟩, hbV⟩)
                              refine full_want_k (by kernel_rfl) (fun V hV K hK => ?_) ?_; focus (obtain ⟨c1, c2, ⟨d0, d1, d2, d3⟩, ⟨g0, g1, g2, g3⟩, hbV⟩ := hV; unfold Oper.wpIn; refine ⟨fun _ _ => trivial, ?_⟩; rw [Oper.semAt_eq _ _ _ (by intro c h; cases h)]; go_simp; exact hK.out _ _ (by first | with_reducible rfl | (simp; omega)) ⟨c1, c2, ⟨d0, d1, d2, d3⟩, ⟨g0, g1, g2, g3⟩, hbV⟩)
                              refine full_want_k (by kernel_rfl) (fun V hV K hK => ?_) ?_; focus (obtain ⟨c1, c2, ⟨d0, d1, d2, d3⟩, ⟨g0, g1, g2, g3⟩, hbV⟩ := hV; unfold Oper.wpIn; refine ⟨fun _ _ => trivial, ?_⟩; rw [Oper.semAt_eq _ _ _ (by intro c h; cases h)]; go_simp; exact hK.out _ _ (by first | with_reducible rfl | (simp; omega)) ⟨c1, c2, ⟨d0, d1, d2, d3⟩, ⟨g0, g1, g2, g3⟩, hbV⟩)
                              refine full_want_k (by kernel_rfl) (fun V hV K hK => ?_) ?_; focus (obtain ⟨c1, c2, ⟨d0, d1, d2, d3⟩, ⟨g0, g1, g2, g3⟩, hbV⟩ := hV; unfold Oper.wpIn; refine ⟨fun _ _ => trivial, ?_⟩; rw [Oper.semAt_eq _ _ _ (by intro c h; cases h)]; go_simp; exact hK.out _ _ (by first | with_reducible rfl | (simp; omega)) ⟨c1, c2, ⟨d0, d1, d2, d3⟩, ⟨g0, g1, g2, g3⟩, hbV⟩)
                              refine full_want_k (by kernel_rfl) (fun V hV K hK => ?_) ?_; focus (obtain ⟨c1, c2, ⟨d0, d1, d2, d3⟩, ⟨g0, g1, g2, g3⟩, hbV⟩ := hV; unfold Oper.wpIn; refine ⟨fun _ _ => trivial, ?_⟩; rw [Oper.semAt_eq _ _ _ (by intro c h; cases h)]; go_simp; exact hK.out _ _ (by first | with_reducible rfl | (simp; omega)) ⟨c1, c2, ⟨d0, d1, d2, d3⟩, ⟨g0, g1, g2, g3⟩, hbV⟩)
                              refine full_want_k (by kernel_rfl) (fun V hV K hK => ?_) ?_; focus (obtain ⟨c1, c2, ⟨d0, d1, d2, d3⟩, ⟨g0, g1, g2, g3⟩, hbV⟩ := hV; unfold Oper.wpIn; refine ⟨fun _ _ => trivial, ?_⟩; rw [Oper.semAt_eq _ _ _ (by intro c h; cases h)]; go_simp; exact hK.out _ _ (by first | with_reducible rfl | (simp; omega)) ⟨c1, c2, ⟨d0, d1, d2, d3⟩, ⟨g0, g1, g2, g3⟩, hbV⟩)
                              refine full_want_k (by kernel_rfl) (fun V hV K hK => ?_) ?_; focus (obtain ⟨c1, c2, ⟨d0, d1, d2, d3⟩, ⟨g0, g1, g2, g3⟩, hbV⟩ := hV; unfold Oper.wpIn; refine ⟨fun _ _ => trivial, ?_⟩; rw [Oper.semAt_eq _ _ _ (by intro c h; cases h)]; go_simp; exact hK.out _ _ (by first | with_reducible rfl | (simp; omega)) ⟨c1, c2, ⟨d0, d1, d2, d3⟩, ⟨g0, g1, g2, g3⟩, hbV⟩)
                              refine full_want_k (by kernel_rfl) (fun V hV K hK => ?_) ?_; focus (obtain ⟨c1, c2, ⟨d0, d1, d2, d3⟩, ⟨g0, g1, g2, g3⟩, hbV⟩ := hV; unfold Oper.wpIn; refine ⟨fun _ _ => trivial, ?_⟩; rw [Oper.semAt_eq _ _ _ (by intro c h; cases h)]; go_simp; exact hK.out _ _ (by first | with_reducible rfl | (simp; omega)) ⟨c1, c2, ⟨d0, d1, d2, d3⟩, ⟨g0, g1, g2, g3⟩, hbV⟩)
                              refine full_want_k (by kernel_rfl) (fun V hV K hK => ?_) ?_; focus (obtain ⟨c1, c2, ⟨d0, d1, d2, d3⟩, ⟨g0, g1, g2, g3⟩, hbV⟩ := hV; unfold Oper.wpIn; refine ⟨fun _ _ => trivial, ?_⟩; rw [Oper.semAt_eq _ _ _ (by intro c h; cases h)]; go_simp; exact hK.out _ _ (by first | with_reducible rfl | (simp; omega)) ⟨c1, c2, ⟨d0, d1, d2, d3⟩, ⟨g0, g1, g2, g3⟩, hbV⟩)
                              refine full_want_k (by kernel_rfl) (fun V hV K hK => ?_) ?_; focus (obtain ⟨c1, c2, ⟨d0, d1, d2, d3⟩, ⟨g0, g1, g2, g3⟩, hbV⟩ := hV; unfold Oper.wpIn; refine ⟨fun _ _ => trivial, ?_⟩; rw [Oper.semAt_eq _ _ _ (by intro c h; cases h)]; go_simp; exact hK.out _ _ (by first | with_reducible rfl | (simp; omega)) ⟨c1, c2, ⟨d0, d1, d2, d3⟩, ⟨g0, g1, g2, g3⟩, hbV⟩)
                              refine full_want_k (by kernel_rfl) (fun V hV K hK => ?_) ?_; focus (obtain ⟨c1, c2, ⟨d0, d1, d2, d3⟩, ⟨g0, g1, g2, g3⟩, hbV⟩ := hV; unfold Oper.wpIn; refine ⟨fun _ _ => trivial, ?_⟩; rw [Oper.semAt_eq _ _ _ (by intro c h; cases h)]; go_simp; exact hK.out _ _ (by first | with_reducible rfl | (simp; omega)) ⟨c1, c2, ⟨d0, d1, d2, d3⟩, ⟨g0, g1, g2, g3⟩, hbV⟩)
                              refine full_want_k (by kernel_rfl) (fun V hV K hK => ?_) ?_; focus (obtain ⟨c1, c2, ⟨d0, d1, d2, d3⟩, ⟨g0, g1, g2, g3⟩, hbV⟩ := hV; unfold Oper.wpIn; refine ⟨fun _ _ => trivial, ?_⟩; rw [Oper.semAt_eq _ _ _ (by intro c h; cases h)]; go_simp; exact hK.out _ _ (by first | with_reducible rfl | (simp; omega)) ⟨c1, c2, ⟨d0, d1, d2, d3⟩, ⟨g0, g1, g2, g3⟩, hbV⟩)
                              refine full_want_k (by kernel_rfl) (fun V hV K hK => ?_) ?_; focus (obtain ⟨c1, c2, ⟨d0, d1, d2, d3⟩, ⟨g0, g1, g2, g3⟩, hbV⟩ := hV; unfold Oper.wpIn; refine ⟨fun _ _ => trivial, ?_⟩; rw [Oper.semAt_eq _ _ _ (by intro c h; cases h)]; go_simp; exact hK.out _ _ (by first | with_reducible rfl | (simp; omega)) ⟨c1, c2, ⟨d0, d1, d2, d3⟩, ⟨g0, g1, g2, g3⟩, hbV⟩)
                              refine full_want_k (by kernel_rfl) (fun V hV K hK => ?_) ?_; focus (obtain ⟨c1, c2, ⟨d0, d1, d2, d3⟩, ⟨g0, g1, g2, g3⟩, hbV⟩ := hV; unfold Oper.wpIn; refine ⟨fun _ _ => trivial, ?_⟩; rw [Oper.semAt_eq _ _ _ (by intro c h; cases h)]; go_simp; exact hK.out _ _ (by first | with_reducible rfl | (simp; omega)) ⟨c1, c2, ⟨d0, d1, d2, d3⟩, ⟨g0, g1, g2, g3⟩, hbV⟩)
                              refine full_want_k (by kernel_rfl) (fun V hV K hK => ?_) ?_; focus (obtain ⟨c1, c2, ⟨d0, d1, d2, d3⟩, ⟨g0, g1, g2, g3⟩, hbV⟩ := hV; unfold Oper.wpIn; refine ⟨fun _ _ => trivial, ?_⟩; rw [Oper.semAt_eq _ _ _ (by intro c h; cases h)]; go_simp; exact hK.out _ _ (by first | with_reducible rfl | (simp; omega)) ⟨c1, c2, ⟨d0, d1, d2, d3⟩, ⟨g0, g1, g2, g3⟩, hbV⟩)
                              refine full_want_k (by kernel_rfl) (fun V hV K hK => ?_) ?_; focus (unfold Oper.wpIn; refine ⟨fun _ _ => trivial, ?_⟩; rw [Oper.semAt_eq _ _ _ (by intro c h; cases h)]; go_simp; refine (CallsIn.inRound l2 (callsIn_wide.2 (one_any zx x2 V))).mono ?_; rintro e V' ⟨rfl, hbV'⟩; dsimp only; rw [hone]; obtain ⟨c1, c2, d, g, hbV⟩ := hV; have hsV := hbV.out.size; exact hK.out _ _ (by first | with_reducible rfl | (simp; omega)) ⟨(hbV'.cell (p := ⟨WC.heap.size, 0, none⟩) (by show WC.heap.size < _; omega)).trans c1, (hbV'.cell (p := ⟨w.heap.size, 0, none⟩) (by show w.heap.size < _; omega)).trans c2, d.below hbV' (by omega), g.below hbV' (by omega), hbV.out.trans (hbV'.mono hsV)⟩)
                              refine full_want_k (by kernel_rfl) (fun V hV K hK => ?_) ?_; focus (obtain ⟨c1, c2, ⟨d0, d1, d2, d3⟩, ⟨g0, g1, g2, g3⟩, hbV⟩ := hV; unfold Oper.wpIn; refine ⟨fun _ _ => trivial, ?_⟩; rw [Oper.semAt_eq _ _ _ (by intro c h; cases h)]; go_simp; exact hK.out _ _ (by first | with_reducible rfl | (simp; omega)) ⟨c1, c2, ⟨d0, d1, d2, d3⟩, ⟨g0, g1, g2, g3⟩, hbV⟩)
                              refine full_want_k (by kernel_rfl) (fun V hV K hK => ?_) ?_; focus (obtain ⟨c1, c2, ⟨d0, d1, d2, d3⟩, ⟨g0, g1, g2, g3⟩, hbV⟩ := hV; unfold Oper.wpIn; refine ⟨fun _ _ => trivial, ?_⟩; rw [Oper.semAt_eq _ _ _ (by intro c h; cases h)]; go_simp; exact hK.out _ _ (by first | with_reducible rfl | (simp; omega)) ⟨c1, c2, ⟨d0, d1, d2, d3⟩, ⟨g0, g1, g2, g3⟩, hbV⟩)
                              exact trivial
                            · intro V hV
                              (try dsimp only [Exit.then])
                              gi_wp2
                              gi_meet
                              case rel => exact ⟨rfl, hV.2.2.2.2⟩
                        · obtain rfl : good = false := by rw [hgood]; simp [hi]
                          clear hgood
                          refine region_full (fun V : World => V.cell? ⟨WC.heap.size, 0, none⟩ = some (.int .i64 (pre2.length : Int)) ∧ V.cell? ⟨w.heap.size, 0, none⟩ = some (.slice (some ⟨b0, o0, none⟩) n c) ∧ LiAt V By 0 zx ∧ LiAt V b0 (o0 + pre2.length * 4) x2 ∧ Hid (Below V0.heap.size V0 V)) (((.slice (some ⟨b0, o0, none⟩) n c) :: (.int .i64 (pre.length : Int)) :: (.pointer (some ⟨w.heap.size, 0, none⟩)) :: (.pointer (some ⟨w.heap.size + 1, 0, none⟩)) :: (.pointer (some ⟨w.heap.size + 1 + 1, 0, none⟩)) :: (.pointer (some ⟨a, 0, none⟩)) :: (.int .i64 0) :: (.pointer (some ⟨w2.heap.size, 0, none⟩)) :: (.int .i64 r) :: (.pointer (some ⟨wr.heap.size, 0, none⟩)) :: (.int .i64 yi) :: (.pointer (some ⟨Bx, 0, none⟩)) :: (.pointer (some ⟨WC.heap.size, 0, none⟩)) :: (.int .i64 zi) :: (.pointer (some ⟨By, 0, none⟩)) :: u15 :: u16 :: u17 :: u18 :: u19 :: u20 :: u21 :: u22 :: u23 :: u24 :: u25 :: u26 :: u27 :: u28 :: u29 :: u30 :: u31 :: u32 :: u33 :: u34 :: u35 :: u36 :: u37 :: u38 :: u39 :: u40 :: u41 :: u42 :: u43 :: u44 :: u45 :: u46 :: u47 :: u48 :: u49 :: .func (.func 34) #[] #[.pointer (some ⟨bx, 0, none⟩)] :: (.int .i64 yi) :: yx.agg :: u53 :: u54 :: u55 :: u56 :: u57 :: u58 :: u59 :: u60 :: u61 :: u62 :: u63 :: u64 :: u65 :: u66 :: u67 :: u68 :: u69 :: v70 :: v71 :: v72 :: v73 :: .func (.func 34) #[] #[.pointer (some ⟨bx, 0, none⟩)] :: (.int .i64 zi) :: zx.agg :: (.int .i64 zi) :: (.int .i64 (pre2.length : Int)) :: (.bool true) :: (.bool true) :: undef :: undef :: undef :: undef :: (.bool true) :: (.bool true) :: undef :: undef :: undef :: undef :: undef :: undef :: undef :: (.bool true) :: u95 :: u96 :: u97 :: u98 :: u99 :: u100 :: u101 :: u102 :: u103 :: u104 :: u105 :: [] : List Value).toArray) (by kernel_rfl) (by kernel_rfl) (by kernel_rfl) (by kernel_rfl) ?_ ?_ ?_
                          · exact ⟨c1, c2, d, g, Below.drew (Below.refl _ _)⟩
                          · refine full_want_k (by kernel_rfl) (fun V hV K hK => ?_) ?_; focus (obtain ⟨c1, c2, ⟨d0, d1, d2, d3⟩, ⟨g0, g1, g2, g3⟩, hbV⟩ := hV; unfold Oper.wpIn; refine ⟨fun _ _ => trivial, ?_⟩; rw [Oper.semAt_eq _ _ _ (by intro c h; cases h)]; go_simp; exact hK.out _ _ (by first | with_reducible rfl | (simp; omega)) ⟨c1, c2, ⟨d0, d1, d2, d3⟩, ⟨g0, g1, g2, g3⟩, hbV⟩)
                            refine full_want_k (by kernel_rfl) (fun V hV K hK => ?_) ?_; focus (obtain ⟨c1, c2, ⟨d0, d1, d2, d3⟩, ⟨g0, g1, g2, g3⟩, hbV⟩ := hV; unfold Oper.wpIn; refine ⟨fun _ _ => trivial, ?_⟩; rw [Oper.semAt_eq _ _ _ (by intro c h; cases h)]; go_simp; exact hK.out _ _ (by first | with_reducible rfl | (simp; omega)) ⟨c1, c2, ⟨d0, d1, d2, d3⟩, ⟨g0, g1, g2, g3⟩, hbV⟩)
                            refine full_want_k (by kernel_rfl) (fun V hV K hK => ?_) ?_; focus (obtain ⟨c1, c2, ⟨d0, d1, d2, d3⟩, ⟨g0, g1, g2, g3⟩, hbV⟩ := hV; unfold Oper.wpIn; refine ⟨fun _ _ => trivial, ?_⟩; rw [Oper.semAt_eq _ _ _ (by intro c h; cases h)]; go_simp; exact hK.out _ _ (by first | with_reducible rfl | (simp; omega)) ⟨c1, c2, ⟨d0, d1, d2, d3⟩, ⟨g0, g1, g2, g3⟩, hbV⟩)
                            refine full_want_k (by kernel_rfl) (fun V hV K hK => ?_) ?_; focus (obtain ⟨c1, c2, ⟨d0, d1, d2, d3⟩, ⟨g0, g1, g2, g3⟩, hbV⟩ := hV; unfold Oper.wpIn; refine ⟨fun _ _ => trivial, ?_⟩; rw [Oper.semAt_eq _ _ _ (by intro c h; cases h)]; go_simp; exact hK.out _ _ (by first | with_reducible rfl | (simp; omega)) ⟨c1, c2, ⟨d0, d1, d2, d3⟩, ⟨g0, g1, g2, g3⟩, hbV⟩)
                            refine full_skip (by kernel_rfl) (fun _ _ _ => trivial) (by kernel_rfl) ?_
                            refine full_skip (by kernel_rfl) (fun _ _ _ => trivial) (by kernel_rfl) ?_
                            refine full_skip (by kernel_rfl) (fun _ _ _ => trivial) (by kernel_rfl) ?_
                            refine full_skip (by kernel_rfl) (fun _ _ _ => trivial) (by kernel_rfl) ?_
                            refine full_want_k (by kernel_rfl) (fun V hV K hK => ?_) ?_; focus (obtain ⟨c1, c2, ⟨d0, d1, d2, d3⟩, ⟨g0, g1, g2, g3⟩, hbV⟩ := hV; unfold Oper.wpIn; refine ⟨fun _ _ => trivial, ?_⟩; rw [Oper.semAt_eq _ _ _ (by intro c h; cases h)]; go_simp; exact hK.out _ _ (by first | with_reducible rfl | (simp; omega)) ⟨c1, c2, ⟨d0, d1, d2, d3⟩, ⟨g0, g1, g2, g3⟩, hbV⟩)
                            refine full_want_k (by kernel_rfl) (fun V hV K hK => ?_) ?_; focus (obtain ⟨c1, c2, ⟨d0, d1, d2, d3⟩, ⟨g0, g1, g2, g3⟩, hbV⟩ := hV; unfold Oper.wpIn; refine ⟨fun _ _ => trivial, ?_⟩; rw [Oper.semAt_eq _ _ _ (by intro c h; cases h)]; go_simp; exact hK.out _ _ (by first | with_reducible rfl | (simp; omega)) ⟨c1, c2, ⟨d0, d1, d2, d3⟩, ⟨g0, g1, g2, g3⟩, hbV⟩)
                            refine full_skip (by kernel_rfl) (fun _ _ _ => trivial) (by kernel_rfl) ?_
                            refine full_skip (by kernel_rfl) (fun _ _ _ => trivial) (by kernel_rfl) ?_
                            refine full_skip (by kernel_rfl) (fun _ _ _ => trivial) (by kernel_rfl) ?_
                            refine full_skip (by kernel_rfl) (fun _ _ _ => trivial) (by kernel_rfl) ?_
                            refine full_skip (by kernel_rfl) (fun _ _ _ => trivial) (by kernel_rfl) ?_
                            refine full_skip (by kernel_rfl) (fun _ _ _ => trivial) (by kernel_rfl) ?_
                            refine full_skip (by kernel_rfl) (fun _ _ _ => trivial) (by kernel_rfl) ?_
                            refine full_want_k (by kernel_rfl) (fun V hV K hK => ?_) ?_; focus (obtain ⟨c1, c2, ⟨d0, d1, d2, d3⟩, ⟨g0, g1, g2, g3⟩, hbV⟩ := hV; unfold Oper.wpIn; refine ⟨fun _ _ => trivial, ?_⟩; rw [Oper.semAt_eq _ _ _ (by intro c h; cases h)]; go_simp; exact hK.out _ _ (by first | with_reducible rfl | (simp; omega)) ⟨c1, c2, ⟨d0, d1, d2, d3⟩, ⟨g0, g1, g2, g3⟩, hbV⟩)
                            exact trivial
                          · intro V hV
                            (try dsimp only [Exit.then])
                            gi_wp2
                            gi_meet
                            case rel => exact ⟨rfl, hV.2.2.2.2⟩
                      case rest =>
                        obtain ⟨rfl, hbc2⟩ := hcut
                        have hsc2 := hbc2.out.size
                        have HDY := Lib.hid (HDZ.out.later hbc2.out (by omega))
                        have HJY := Lib.hid (boxed_later HJ1.out hbc2.out)
                        clear c1 c2 d g
                        cases good with
                        | false =>
                          have hbad : ¬ (pre2 ++ [(⟨zi, zx⟩ : Ent)]) <+: entsOf xs := by
                            intro hpf
                            have h1 := List.IsPrefix.getElem hpf (i := pre2.length) (by simp)
                            rw [HEA2.out] at h1
                            simp only [List.getElem_append_right (Nat.le_refl _), Nat.sub_self, List.getElem_cons_zero, Ent.mk.injEq] at h1
                            rw [h1.1, h1.2, oneL_refl] at hgood
                            simp at hgood
                          have HBAD := Lib.hid hbad
                          clear hgood hbad
                          have f2 := HDY.out.b2.frozen
                          have k2 := HDY.out.b2.cell
                          gi_wp2
                          exact ⟨((keeps_below hbc2.out).trans (KeepsOthers.setCell _ _ _)).from _, .inl HBAD.out⟩
                        | true =>
                          clear hgood
                          have c1 := HJY.out.cell
                          have f1 := HJY.out.frozen
                          have hzq := HDY.out.l0
                          have hWq := HDV.out.sz
                          have k4 : (wc.setCell ⟨WC.heap.size, 0, none⟩ (.int .i64 ((pre2.length : Int) + 1))).cell? ⟨w.heap.size + 1, 0, none⟩ = some (.int .i64 (pre.length : Int)) := (HDY.out.b1.other (by omega) _).cell
                          have k5 : (wc.setCell ⟨WC.heap.size, 0, none⟩ (.int .i64 ((pre2.length : Int) + 1))).cell? ⟨WC.heap.size, 0, none⟩ = some (.int .i64 ((pre2.length : Int) + 1)) := (HJY.out.set _).cell
                          have HB2 : Hid (Below WC.heap.size V0 (wc.setCell ⟨WC.heap.size, 0, none⟩ (.int .i64 ((pre2.length : Int) + 1)))) := (hbc2.out.mono hsV0).setCell (p := ⟨WC.heap.size, 0, none⟩) (Nat.le_refl _) _
                          have HK2 : Hid (KeepsOthers V0 (wc.setCell ⟨WC.heap.size, 0, none⟩ (.int .i64 ((pre2.length : Int) + 1)))) := (keeps_below hbc2.out).trans (KeepsOthers.setCell _ _ _)
                          have HJ2 : Hid (Boxed (wc.setCell ⟨WC.heap.size, 0, none⟩ (.int .i64 ((pre2.length : Int) + 1))) WC.heap.size 3 (.int .i64 ((pre2 ++ [(⟨zi, zx⟩ : Ent)]).length : Int))) := by
                            have := HJY.out.set (.int .i64 ((pre2.length : Int) + 1))
                            show Boxed _ _ _ _
                            simpa using this
                          clear hzq hWq
                          by_cases hgt : (pre.length : Int) < (pre2.length : Int) + 1
                          · gi_wp2
                            exact ⟨HK2.out.from _, .inr ⟨rfl, HBV0.out.trans HB2.out, HKV0.out.trans (HK2.out.from _)⟩⟩
                          · gi_wp2
                            exact ⟨HK2.out.from _, HB2.out, HJ2.out, HBV0.out.trans HB2.out, HKV0.out.trans (HK2.out.from _)⟩
                  · gi_wp2
                    gi_meet
                    case rel => exact ⟨hbc, (keeps_below hbc.out).from _⟩
                case rest =>
                  obtain ⟨hbe, hke⟩ := hcut
                  have HKE := Lib.hid (boxed_later HK1.out hbe.out)
                  have k3 := HKE.out.cell
                  have f3 := HKE.out.frozen
                  have hse := hbe.out.size
                  clear k1 k2
                  gi_wp2
                  have hb2 : Below wr.heap.size W (wc.setCell ⟨wr.heap.size, 0, none⟩ (.int .i64 ((pre.length : Int) + 1))) := (hbe.out.mono hsW).setCell (p := ⟨wr.heap.size, 0, none⟩) (Nat.le_refl _) _
                  refine ⟨hke.out.trans ((KeepsOthers.setCell _ _ _).from _), hb2, ?_, HB1.out.trans hb2⟩
                  have := HKE.out.set (.int .i64 ((pre.length : Int) + 1))
                  simpa using this
theorem docAll_any (w : World) (p : Option Addr) (n c : Nat) (xs : List Li) (stop : Int) (hn : xs.length = n) (hnm : n ≤ 3518437208880) (hr : LiRow w p xs) (hnil : p = none → n = 0 ∧ c = 0) (hf : ∀ x ∈ xs, LiOk x) :
    Calls Try.prog 4 #[.slice p n c, .int .i64 stop] w fun e w' => e = .returned (.bool true) ∧ Below w.heap.size w w' := by
  cases h : takesB [] xs with
  | true => exact docAll_yes w p n c xs stop hn hnm hr hnil hf h
  | false => exact docAll_no w p n c xs stop hn hnm hr hnil hf h
end Go.Proofs.Ytfkkodcppaakjaa
