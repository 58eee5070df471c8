/- ViewEach, by a walk over the contracts. -/
import Derived.Test.YtdpikdkhemhmdaaViEach
import Derived.Test.YtdpikdkhemhmdaaViApp
import Derived.Test.YtdpikdkhemhmdaaViRefOf
import Derived.Test.YtdpikdkhemhmdaaViRefPl
import Derived.Test.YtdpikdkhemhmdaaRegFull
import Derived.Sort.CutIn
namespace Go.Proofs.Ytdpikdkhemhmdaa
open Go Go.RowKit Go.Shelf

attribute [local go_sem] Oper.semAt_some

theorem LiAt.same {w W : World} {b o : Nat} {x : Li} (h : LiAt w b o x) (he : W.heap[b]? = w.heap[b]?) : LiAt W b o x :=
  ⟨(World.cell?_of_block (a := ⟨b, o, none⟩) he).trans h.1, (World.cell?_of_block (a := ⟨b, o + 1, none⟩) he).trans h.2.1, (World.cell?_of_block (a := ⟨b, o + 2, none⟩) he).trans h.2.2.1, (World.cell?_of_block (a := ⟨b, o + 3, none⟩) he).trans h.2.2.2⟩
theorem keeps_below {A B : World} (h : Below A.heap.size A B) : KeepsOthers A B := ⟨h.size, fun k _ hk _ => (h.block k (Array.getElem?_eq_some_iff.1 hk).1).trans hk⟩
/-- The marks are taken one by one. -/
theorem leaves_marks {F : Fence} {k : Nat} {P : Program} {fn : Func} {tmps : Array Value} {R : Ending → World → Prop} (Good : World → Prop) (M : Nat) (hG : ∀ w D o, Good w → M ≤ D → w.heap[D]? = some (.deferred (some [])) → Good (w.putObj D o))
    (hend : ∀ w, Good w → LeavesIn F k P fn tmps R [] .returning w) : ∀ (ds : List Nat) (w : World), ds.Nodup → (∀ D ∈ ds, M ≤ D ∧ w.heap[D]? = some (.deferred (some []))) → Good w →
    LeavesInM F k P fn tmps R (ds.map fun D => { target := .collected D, args := #[] }) .returning w
  | [], w, _, _, hg => hend w hg
  | D :: ds, w, hnd, hds, hg => by
    have hD := hds D (by simp)
    have hnd' := List.nodup_cons.1 hnd
    refine ⟨by simp, .inl ⟨D, _, rfl, run_takeDeferred hD.2, ?_⟩⟩
    refine leaves_marks Good M hG hend ds _ hnd'.2 (fun E hE => ⟨(hds E (by simp [hE])).1, ?_⟩) (hG _ _ _ hg hD.1 hD.2)
    have hne : D ≠ E := fun e => hnd'.1 (e ▸ hE)
    exact (World.putObj_heap_other hne.symm).trans (hds E (by simp [hE])).2
theorem fn_in (d f : Nat) (lb : Array Value) (w : World) : (Op.equalIn (d + 1) 39 (.func (.func f) #[] lb) .nilFunc).run Try.prog w = .ok false w := by
  simp [Op.equalIn, run_underlying Try.underlying39]
theorem fn_nil (f : Nat) (lb : Array Value) (w : World) : (binOp .eql 39 (.func (.func f) #[] lb) .nilFunc).run Try.prog w = .ok (.bool false) w := by
  simp only [binOp]
  simp [Op.equal, Op.maxDepth, fn_in 9999]
theorem ownFrom_keepX {β : Type} {B n m : Nat} {w0 : World} (hn : n ≤ w0.heap.size) (hm : n ≤ m) : OwnFrom m (fun (_ : β) W => KeepX B n w0 W) := fun s X Y row hs hg hr =>
  hs.trans ⟨hg.os, hg.tape, hg.output, hg.size, fun k hk _ => hg.block k (by have := hs.size; omega) (fun e => by have := (hr k e.symm).1; omega)⟩
theorem KeepX.set {B n : Nat} {w0 w : World} (h : KeepX B n w0 w) (j : Nat) (u : Value) : KeepX B n w0 (w.setCell ⟨B, j, none⟩ u) :=
  h.trans ⟨rfl, rfl, rfl, by simp, fun k _ hB => heap_setCell_other w ⟨B, j, none⟩ k u (fun e => hB (by rw [e]))⟩
theorem KeepX.boxed {B n : Nat} {w w' : World} (h : KeepX B n w w') {b : Nat} {t : TypeId} {v : Value} (hb : Boxed w b t v) (hl : b < n) (hB : b ≠ B) : Boxed w' b t v := (h.block b hl hB).trans hb
set_option maxRecDepth 100000 in
set_option maxHeartbeats 8000000 in
theorem viewEach_any (w : World) (p : Option Addr) (n c : Nat) (xs : List Li) (a : Nat) (stop : Int) (hn : xs.length = n) (hnm : n ≤ 3518437208780) (hr : LiRow w p xs) (hnil : p = none → n = 0 ∧ c = 0) (hf : ∀ x ∈ xs, LiOk x) (ha : a < 18446744073709551616) :
    Calls Try.prog 5 #[.slice p n c, .int .u64 a, .int .i64 stop] w fun e w' => e = .returned (.bool true) ∧ Below w.heap.size w w' := by
  have hu : ∀ x ∈ xs, x.u < 18446744073709551616 := fun x hx => (hf x hx).u
  obtain ⟨i0, hi, hz0, hz1, hz2⟩ := li_parts
  have hB0 : Below w.heap.size w ((w.alloc (.cells #[.int .i64 stop] 3)).alloc (.cells #[.bool false] 4)) := ((Below.refl _ w).alloc (Nat.le_refl _) _).alloc (by simp) _
  have b0 := (Boxed.new w 3 (.int .i64 stop)).alloc (.cells #[.bool false] 4)
  have b1 := Boxed.new (w.alloc (.cells #[.int .i64 stop] 3)) 4 (.bool false)
  rw [World.size_alloc] at b1
  have hs0 : ((w.alloc (.cells #[.int .i64 stop] 3)).alloc (.cells #[.bool false] 4)).heap.size = w.heap.size + 2 := by simp
  have CRO := Lib.hid (fun (W : World) (hW : Below w.heap.size w W) => refOf_any W p n c xs hn (by omega) (hr.later hW) hu a ha)
  have CRP := Lib.hid (fun (W : World) (hW : Below w.heap.size w W) => refPlaces_any W p n c xs hn (by omega) (hr.later hW) hu a ha)
  have CEa := Lib.hid (fun (W : World) (q : Option Addr) (d : Nat) (hq : LiRow W q xs) => each_any W q n d xs hn (by omega) hq hu a ha)
  have hnl := hnil
  have HN := Lib.hid hn
  have HR := Lib.hid (hr.later hB0)
  have HB0 := Lib.hid hB0
  have HF := Lib.hid hf
  have HG0 := Lib.hid b0
  have HG1 := Lib.hid b1
  have HS0 := Lib.hid hs0
  clear hn hr hu hB0 b0 b1 hs0 hf
  refine (callsIn_wide (n := 9)).1 ?_
  refine callsIn_of_wp_marks Try.func5 rfl trivial ?_ rfl
  simp only [Try.ntmps5, List.size_toArray, List.length_cons, List.length_nil, Nat.reduceAdd, Nat.reduceSub, Array.replicate_succ, Array.replicate_zero, List.push_toArray, List.append_toArray, List.nil_append, List.cons_append]
  refine wpIn_wide.2 ?_
  go_upto_region 2 with fail
  generalize (w.alloc (.cells #[.int .i64 stop] 3)).alloc (.cells #[.bool false] 4) = w0 at *
  have hown0 := World.ownsRow_made (e := 26) (size := 4) (base := w0.heap.size) w0 #[] 0 (Nat.le_refl _) (by unfold maxLen; omega) rfl
  have hbb0 : Below w0.heap.size w0 (w0.alloc (.cells #[] 26)) := (Below.refl _ w0).alloc (Nat.le_refl _) _
  go_wp2_with (first
    | (at_builtin; refine app_liS rfl _ _ 22 rfl w0.heap.size 26 i0 (.agg #[.int .u64 0, .int .i64 0, .int .i64 0, .string ⟨#[]⟩]) Try.underlying22 hi hz0 hz1 hz2 rfl (.slice (some ⟨w0.heap.size, 0, none⟩) 0 0) 0 [] rfl hown0 p n c xs rfl HN.out (HR.out.later hbb0) hnl (by omega) (by simp) ?_; intro v1 w1 own1 hgr1 hpt1; obtain ⟨g1, k1, rfl, hc1, hB1, hl1⟩ := own_ptr own1 (hpt1 (fun e => by cases e)); have hbb1 : Below w0.heap.size w0 w1 := hbb0.grown hgr1 (by simp) (fun g hg => (hown0.lt g hg).1); rw [Nat.zero_add, List.nil_append] at own1; have HO1 := Lib.hid own1; clear hown0 own1 hgr1 hpt1))
  obtain ⟨p1', k1', e1, hr1⟩ := li_owned HN.out HO1.out
  injection e1 with e11 e12 e13
  subst e11 e13
  have CE1 := CEa.out w1 (some ⟨g1, 0, none⟩) k1 hr1
  have hfn := fun b5 b6 W => fn_nil 52 #[.pointer (some ⟨b5, 0, none⟩), .pointer (some ⟨b6, 0, none⟩)] W
  have HR1 := Lib.hid hr1
  have HBB1 := Lib.hid hbb1
  have hw1 := hbb1.size
  clear hr1 hbb1 CEa hbb0
  go_wp2_with fail
  refine CE1.mono ?_
  rintro e w2 ⟨hb2, b5, b6, p5, k5, p6, k6, rfl, h5, h6, bx5, bx6, ho5, ho6⟩
  have HB2 := Lib.hid hb2
  have hs2 := hb2.size
  have HX5 := Lib.hid bx5
  have HX6 := Lib.hid bx6
  have HO5 := Lib.hid ho5
  have HO6 := Lib.hid ho6
  have l5 := bx5.lt
  have l6 := bx6.lt
  have HO12 := Lib.hid (row_later HO1.out hb2)
  have hfn1 := hfn b5 b6
  have hpn := places_len (seenB a) xs
  have hle := filter_le xs (seenB a) (n := n) (by rw [HN.out]; exact Nat.le_refl _)
  have HPL := Lib.hid (fun k (hk : k < (places (seenB a) xs).length) => places_rank (f := seenB a) (xs := xs) hk)
  have HFV := Lib.hid (filter_ok (f := seenB a) HF.out)
  obtain ⟨vs, hvs⟩ : ∃ vs, xs.filter (seenB a) = vs := ⟨_, rfl⟩
  obtain ⟨ps, hps⟩ : ∃ ps, places (seenB a) xs = ps := ⟨_, rfl⟩
  have HVS := Lib.hid hvs
  have HPS := Lib.hid hps
  obtain ⟨m, hm⟩ : ∃ m, vs.length = m := ⟨_, rfl⟩
  rw [hvs] at hle hpn HX6 HO6 HFV
  rw [hps] at hpn HX5 HO5 HPL
  rw [hm] at hle hpn HX6 HO6
  rw [hpn] at HX5 HO5
  have HPN := Lib.hid hpn
  have HM := Lib.hid hm
  clear hb2 bx5 bx6 ho5 ho6 CE1 hfn hvs hps hm hpn HO1
  go_wp2_with fail
  go_loopg [10] n (fun g vi wr => ∃ k : Nat, k + g = n ∧ vi = .int .i64 k ∧ Hid (KeepX g1 w2.heap.size w2 wr) ∧ Hid (∃ cs, wr.ownsRow w0.heap.size 26 4 (.slice (some ⟨g1, 0, none⟩) n k1) n cs))
  case atStart => exact ⟨0, by omega, rfl, KeepX.refl _ _ _, _, HO12.out⟩
  case round =>
    obtain ⟨k, hk, rfl, HKX, HO⟩ := hrel
    by_cases hlt : k < n
    · obtain ⟨cs, ho⟩ := HO.out
      have hln := ho.1
      have hck := fun j (hj : j < 4) => ho.cellAt (k * 4 + j) (by omega)
      obtain ⟨u0, d0⟩ : ∃ u, wr.cell? ⟨g1, k * 4, none⟩ = some u := ⟨_, (hck 0 (by omega)).trans (List.getElem?_eq_getElem (by omega))⟩
      obtain ⟨u1, d1⟩ : ∃ u, wr.cell? ⟨g1, k * 4 + 1, none⟩ = some u := ⟨_, (hck 1 (by omega)).trans (List.getElem?_eq_getElem (by omega))⟩
      obtain ⟨u2, d2⟩ : ∃ u, wr.cell? ⟨g1, k * 4 + 2, none⟩ = some u := ⟨_, (hck 2 (by omega)).trans (List.getElem?_eq_getElem (by omega))⟩
      obtain ⟨u3, d3⟩ : ∃ u, wr.cell? ⟨g1, k * 4 + 3, none⟩ = some u := ⟨_, (hck 3 (by omega)).trans (List.getElem?_eq_getElem (by omega))⟩
      have f0 := ho.frozenAt (k * 4)
      have f1 := ho.frozenAt (k * 4 + 1)
      have f2 := ho.frozenAt (k * 4 + 2)
      have f3 := ho.frozenAt (k * 4 + 3)
      have hkI : (k : Int) < (n : Int) := by omega
      have hk0 : (0 : Int) ≤ (k : Int) := by omega
      have HO' := Lib.hid ho
      clear ho hck hln HO
      go_wp2_with fail
      have st := ((((HO'.out.stored (k * 4) (.int .u64 0)).1.stored (k * 4 + 1) (.int .i64 0)).1.stored (k * 4 + 2) (.int .i64 0)).1.stored (k * 4 + 3) (.string ⟨#[97, 110, 111, 116, 104, 101, 114]⟩)).1
      have HST := Lib.hid st
      have HKX2 := Lib.hid ((((HKX.out.set (k * 4) (.int .u64 0)).set (k * 4 + 1) (.int .i64 0)).set (k * 4 + 2) (.int .i64 0)).set (k * 4 + 3) (.string ⟨#[97, 110, 111, 116, 104, 101, 114]⟩))
      clear st d0 d1 d2 d3 f0 f1 f2 f3
      go_roundg (gk - 1)
      case rel => exact ⟨k + 1, by omega, by go_num, HKX2.out, _, HST.out⟩
      case measure => omega
    · obtain rfl : n = k := by omega
      clear HO HO12
      have HSW0 : Hid ((wr.alloc (.cells #[.int .i64 0] 3)).heap.size = wr.heap.size + 1) := by show _ = _; simp
      have hbl : Below wr.heap.size wr (wr.alloc (.cells #[.int .i64 0] 3)) := (Below.refl _ _).alloc (Nat.le_refl _) _
      have HNW0 := Lib.hid (Boxed.new wr 3 (.int .i64 0))
      have hszr := HKX.out.size
      have hsz0 := HB0.out.size
      have h0 := HS0.out
      -- what lay in w2 lies on in W0
      have HSM : Hid (∀ b, b < w2.heap.size → b ≠ g1 → (wr.alloc (.cells #[.int .i64 0] 3)).heap[b]? = w2.heap[b]?) := fun b hb hne => (hbl.block b (by omega)).trans (HKX.out.block b hb hne)
      have HBW0 : Hid (Below w.heap.size w (wr.alloc (.cells #[.int .i64 0] 3))) := (((HB0.out.trans (HBB1.out.mono hsz0)).trans (HB2.out.mono (by omega))).trans ((HKX.out.below (show g1 ≤ w2.heap.size by omega)).mono (by omega))).trans (hbl.mono (by omega))
      clear hbl HKX
      go_wp2_with fail
      generalize hWn : wr.alloc (.cells #[.int .i64 0] 3) = W0 at *
      obtain ⟨Bn, hBn⟩ : ∃ Bn, wr.heap.size = Bn := ⟨_, rfl⟩
      rw [hBn] at HSW0 HNW0 hszr ⊢
      clear hWn hBn
      have hsW0 := HSW0.out
      have HSZW : Hid (w0.heap.size ≤ Bn) := by show _ ≤ _; omega
      have HY5 : Hid (Boxed W0 b5 28 (.slice p5 m k5)) := (HSM.out b5 l5 (by omega)).trans HX5.out
      have HY6 : Hid (Boxed W0 b6 22 (.slice p6 m k6)) := (HSM.out b6 l6 (by omega)).trans HX6.out
      have HYS : Hid (Boxed W0 w.heap.size 3 (.int .i64 stop)) := (HSM.out _ (by omega) (by omega)).trans ((HB2.out.block _ (by omega)).trans ((HBB1.out.block _ (by omega)).trans HG0.out))
      have HYR : Hid (Boxed W0 (w.heap.size + 1) 4 (.bool false)) := (HSM.out _ (by omega) (by omega)).trans ((HB2.out.block _ (by omega)).trans ((HBB1.out.block _ (by omega)).trans HG1.out))
      have HA5 : Hid (∀ i (h : i < ps.length), ∃ b off, p5 = some ⟨b, off, none⟩ ∧ b < w2.heap.size ∧ w1.heap.size ≤ b ∧ W0.cell? ⟨b, off + i, none⟩ = some (.int .i64 ps[i])) := fun i hi => by
        obtain ⟨b, off, e, hb, hcl⟩ := nums_row' HO5.out i hi
        have hlo := (HO5.out.lt b (by rw [e]; rfl)).1
        exact ⟨b, off, e, hb, hlo, (World.cell?_of_block (a := ⟨b, off + i, none⟩) (HSM.out b hb (by omega))).trans hcl⟩
      have HA6 : Hid (∀ i (h : i < vs.length), ∃ b off, p6 = some ⟨b, off, none⟩ ∧ b < w2.heap.size ∧ w1.heap.size ≤ b ∧ LiAt W0 b (off + i * 4) vs[i]) := fun i hi => by
        obtain ⟨p6', k6', e6, hr6⟩ := li_owned HM.out HO6.out
        injection e6 with e61 _ _
        obtain ⟨b, off, e, hb, hcl⟩ := hr6 i hi
        rw [← e61] at e
        have hlo := (HO6.out.lt b (by rw [e]; rfl)).1
        exact ⟨b, off, e, hb, hlo, hcl.same (HSM.out b hb (by omega))⟩
      clear hsW0 h0 HSM HX5 HX6 HO5 HO6 HG0 HG1 HB0 HBB1 HB2 HR1
      refine wpIn_wide (n := 9) |>.1 ?_
      refine wpIn_rangeFunc_ownG (N := m) rfl (by decide) (gf := 52) (lb := #[.pointer (some ⟨b5, 0, none⟩), .pointer (some ⟨b6, 0, none⟩)]) rfl trivial (enters_of Try.func52 (by kernel_rfl) rfl)
        (each_stops 8 (by decide) b5 b6 p5 p6 m k5 k6 ps vs HPN.out HM.out (by omega) Bn W0 HY5.out.cell (by have := HSW0.out; omega) HY6.out.cell (by have := HSW0.out; omega) (fun i hi => by obtain ⟨b, off, e, h1, h2, h3⟩ := HA5.out i hi; exact ⟨b, off, e, by have := HSW0.out; omega, by omega, h3⟩) (fun i hi => by obtain ⟨b, off, e, h1, h2, h3⟩ := HA6.out i hi; exact ⟨b, off, e, by have := HSW0.out; omega, by omega, h3⟩)) keepX_t (keepX_b (Nat.le_refl _)) (Below.refl _ _) (fun _ => rfl)
        (fun pre W => Boxed W Bn 3 (.int .i64 (pre.length : Int)) ∧ KeepX Bn W0.heap.size W0 W)
        (fun cd _ W => cd = .exit 2 ∧ (∃ z, Boxed W Bn 3 (.int .i64 z)) ∧ KeepX Bn W0.heap.size W0 W)
        (OwnFrom.and (Own.from (boxed_own Bn 3 (fun pre : List (Fin m) => .int .i64 (pre.length : Int))) _) (ownFrom_keepX (Nat.le_refl _) (Nat.le_refl _)))
        (fun cd s X Y row hs hg hr => ⟨hs.1, by obtain ⟨z, hz⟩ := hs.2.1; exact ⟨z, boxed_own (β := Unit) Bn 3 (fun _ => .int .i64 z) () X Y row hz hg (fun r e => (hr r e).2)⟩, ownFrom_keepX (β := Unit) (Nat.le_refl _) (Nat.le_refl _) () X Y row hs.2.2 hg hr⟩)
        ⟨HNW0.out, KeepX.refl _ _ _⟩
        (fun y => { tmps := #[.slice p n c, .int .u64 a, .int .i64 stop, undef, undef, .pointer (some ⟨w.heap.size, 0, none⟩), .pointer (some ⟨w.heap.size + 1, 0, none⟩), .int .u64 a, .slice (some ⟨g1, 0, none⟩) n k1, .func (.func 52) #[] #[.pointer (some ⟨b5, 0, none⟩), .pointer (some ⟨b6, 0, none⟩)], .int .i64 n, .pointer (some ⟨Bn, 0, none⟩), undef, undef, undef, undef, .int .u64 a, .slice (some ⟨w0.heap.size, 0, none⟩) 0 0, .slice p n c, .slice (some ⟨g1, 0, none⟩) n k1, .slice (some ⟨g1, 0, none⟩) n k1, .int .u64 a, .func (.func 52) #[] #[.pointer (some ⟨b5, 0, none⟩), .pointer (some ⟨b6, 0, none⟩)], .func (.func 52) #[] #[.pointer (some ⟨b5, 0, none⟩), .pointer (some ⟨b6, 0, none⟩)], .bool false, .int .i64 n, .slice (some ⟨g1, 0, none⟩) n k1, .int .i64 n, .bool false, u29, u30, u31, u32, u33, u34, .func (.func 52) #[] #[.pointer (some ⟨b5, 0, none⟩), .pointer (some ⟨b6, 0, none⟩)], .int .i64 (ps[y.1]?.getD 0), (vs[y.1]?.getD default).agg, undef, undef, undef, undef, undef, undef, undef, undef, undef, undef, undef, undef, undef, undef, undef, undef, undef, undef, undef, undef, undef, undef, undef, undef, undef, undef, undef, undef, undef, undef, undef, undef, undef, undef, undef, undef, undef, undef, undef, undef], defers := [] })
        ?assign ?body ?done ?stop
      case assign =>
        intro l y W K hK
        unfold encK
        gi_wp2
        exact hK
      case body =>
        rintro l pre y W ⟨hbn, hKb⟩ hlt
        have q1 := hbn.cell
        have q2 := hbn.frozen
        have q3 := (hKb.boxed HYS.out (by have := HSW0.out; have := HS0.out; omega) (by have := HS0.out; omega)).cell
        have hkI : (pre.length : Int) + 1 ≤ 9223372036854775807 := by omega
        have hk0 : (0 : Int) ≤ (pre.length : Int) := by omega
        have HN3 := Lib.hid (hbn.set (.int .i64 ((pre.length : Int) + 1)))
        have HK3 := Lib.hid (hKb.set 0 (.int .i64 ((pre.length : Int) + 1)))
        have HKF := Lib.hid ((KeepsOthers.setCell W ⟨Bn, 0, none⟩ (.int .i64 ((pre.length : Int) + 1))).from W0.heap.size)
        have HKX3 := Lib.hid ((KeepX.refl Bn W0.heap.size W).set 0 (.int .i64 ((pre.length : Int) + 1)))
        clear hbn hKb
        by_cases hst : stop < (pre.length : Int) + 1
        · gi_wp2
          exact ⟨HKF.out, rfl, ⟨_, HN3.out⟩, HK3.out⟩
        · gi_wp2
          refine ⟨HKF.out, HKX3.out, ?_, HK3.out⟩
          rw [List.length_append]
          exact HN3.out
      case done =>
        rintro D ys W hD rfl ⟨hbn, hKb⟩ hK
        have hbn := (⟨_, hbn⟩ : ∃ z, Boxed W Bn 3 (.int .i64 z))
        obtain ⟨zz, hbn⟩ := hbn
        have HKB := Lib.hid hKb
        have hsW := hKb.size
        have HDW := Lib.hid (show Bn + 1 ≤ D by have := HSW0.out; omega)
        have HBW := Lib.hid (HBW0.out.trans ((hKb.below (show Bn ≤ W0.heap.size by have := HSW0.out; omega)).mono (by have := HSZW.out; have := HS0.out; omega)))
        have CO := CRO.out W HBW.out
        have HD1 := Lib.hid hK
        have HN1 := Lib.hid hbn
        have HLN := Lib.hid hbn.lt
        clear hK hbn hKb CRO hD
        gi_wp2
        go_wp2_with fail
        refine CO.mono ?_
        rintro e w5 ⟨hb5', pw, kw, rfl, hrw, how⟩
        have HB5 := Lib.hid hb5'
        have HRW := Lib.hid hrw
        have HOW := Lib.hid how
        have CP := CRP.out w5 (HBW.out.trans (hb5'.mono HBW.out.size))
        clear hb5' hrw how CO CRP
        go_wp2_with fail
        refine CP.mono ?_
        rintro e w6 ⟨hb6', pa, ka, rfl, hra, hoa⟩
        have HB6 := Lib.hid (HB5.out.trans (hb6'.mono HB5.out.size))
        have HRW6 := Lib.hid (HRW.out.later hb6')
        have HRA := Lib.hid hra
        have HOA := Lib.hid (base_le hoa HB5.out.size)
        have HOW6 := Lib.hid (row_later HOW.out hb6')
        clear hb6' hra hoa CP HB5 HRW HOW
        rw [HVS.out] at HRW6 HOW6
        rw [HPS.out] at HRA HOA
        rw [HVS.out, HPS.out, HM.out, HPN.out]
        rw [HM.out] at HOW6
        rw [HPN.out] at HOA
        have hs6 := HB6.out.size
        have hb6A : Below w6.heap.size w6 ((w6.alloc (.cells #[.slice pw m kw] 22)).alloc (.cells #[.slice pa m ka] 28)) := ((Below.refl _ _).alloc (Nat.le_refl _) _).alloc (by simp) _
        have hbA := HB6.out.trans (hb6A.mono hs6)
        have x12 := (Boxed.new w6 22 (.slice pw m kw)).alloc (.cells #[.slice pa m ka] 28)
        have x13 := Boxed.new (w6.alloc (.cells #[.slice pw m kw] 22)) 28 (.slice pa m ka)
        rw [World.size_alloc] at x13
        have bnA := (hbA.block Bn HLN.out).trans HN1.out
        have HX12 := Lib.hid x12
        have HX13 := Lib.hid x13
        have HBA := Lib.hid hbA
        have HB6A := Lib.hid hb6A
        have HNA := Lib.hid bnA
        have fnA := Boxed.frozen bnA
        have cnA := Boxed.cell bnA
        have hsA : Hid (((w6.alloc (.cells #[.slice pw m kw] 22)).alloc (.cells #[.slice pa m ka] 28)).heap.size = w6.heap.size + 2) := by show _ = _; simp
        clear hbA x12 x13 bnA hb6A
        go_wp2_with fail
        have HN2 : Hid (Boxed (((w6.alloc (.cells #[.slice pw m kw] 22)).alloc (.cells #[.slice pa m ka] 28)).setCell ⟨Bn, 0, none⟩ (.int .i64 0)) Bn 3 (.int .i64 0)) := Boxed.set _ HNA.out
        have HK2 : Hid (KeepX Bn W.heap.size W (((w6.alloc (.cells #[.slice pw m kw] 22)).alloc (.cells #[.slice pa m ka] 28)).setCell ⟨Bn, 0, none⟩ (.int .i64 0))) := (KeepX.of_below HBA.out (Nat.le_refl _)).set 0 _
        have HK6 : Hid (KeepX Bn w6.heap.size w6 (((w6.alloc (.cells #[.slice pw m kw] 22)).alloc (.cells #[.slice pa m ka] 28)).setCell ⟨Bn, 0, none⟩ (.int .i64 0))) := (KeepX.of_below HB6A.out (Nat.le_refl _)).set 0 _
        have HY12 : Hid (Boxed (((w6.alloc (.cells #[.slice pw m kw] 22)).alloc (.cells #[.slice pa m ka] 28)).setCell ⟨Bn, 0, none⟩ (.int .i64 0)) w6.heap.size 22 (.slice pw m kw)) := (heap_setCell_other _ ⟨Bn, 0, none⟩ w6.heap.size _ (by show w6.heap.size ≠ Bn; have := HLN.out; omega)).trans HX12.out
        have HY13 : Hid (Boxed (((w6.alloc (.cells #[.slice pw m kw] 22)).alloc (.cells #[.slice pa m ka] 28)).setCell ⟨Bn, 0, none⟩ (.int .i64 0)) (w6.heap.size + 1) 28 (.slice pa m ka)) := (heap_setCell_other _ ⟨Bn, 0, none⟩ (w6.heap.size + 1) _ (by show w6.heap.size + 1 ≠ Bn; have := HLN.out; omega)).trans HX13.out
        have HS1 : Hid ((((w6.alloc (.cells #[.slice pw m kw] 22)).alloc (.cells #[.slice pa m ka] 28)).setCell ⟨Bn, 0, none⟩ (.int .i64 0)).heap.size = w6.heap.size + 2) := by show _ = _; simp
        clear fnA cnA HX12 HX13 HBA HB6A HNA hsA
        generalize (((w6.alloc (.cells #[.slice pw m kw] 22)).alloc (.cells #[.slice pa m ka] 28)).setCell ⟨Bn, 0, none⟩ (.int .i64 0)) = W1 at *
        have HZ5 : Hid (Boxed W1 b5 28 (.slice p5 m k5)) := HK2.out.boxed (HKB.out.boxed HY5.out (by have := HSW0.out; omega) (by omega)) (by have := HSW0.out; omega) (by omega)
        have HZ6 : Hid (Boxed W1 b6 22 (.slice p6 m k6)) := HK2.out.boxed (HKB.out.boxed HY6.out (by have := HSW0.out; omega) (by omega)) (by have := HSW0.out; omega) (by omega)
        have HZR : Hid (Boxed W1 (w.heap.size + 1) 4 (.bool false)) := HK2.out.boxed (HKB.out.boxed HYR.out (by have := HSW0.out; have := HS0.out; omega) (by have := HS0.out; omega)) (by have := HSW0.out; have := HS0.out; omega) (by have := HS0.out; omega)
        have HZD : Hid (W1.heap[D]? = some (.deferred (some []))) := (HK2.out.block D (Array.getElem?_eq_some_iff.1 HD1.out).1 (by have := HDW.out; omega)).trans HD1.out
        have HZA5 : Hid (∀ i (h : i < ps.length), ∃ b off, p5 = some ⟨b, off, none⟩ ∧ b < w2.heap.size ∧ w1.heap.size ≤ b ∧ W1.cell? ⟨b, off + i, none⟩ = some (.int .i64 ps[i])) := fun i hi => by
          obtain ⟨b, off, e, h1, h2, h3⟩ := HA5.out i hi
          exact ⟨b, off, e, h1, h2, (HK2.out.cell (p := ⟨b, off + i, none⟩) (by show b < _; have := HSW0.out; omega) (by show b ≠ _; omega)).trans ((HKB.out.cell (p := ⟨b, off + i, none⟩) (by show b < _; have := HSW0.out; omega) (by show b ≠ _; omega)).trans h3)⟩
        have HZA6 : Hid (∀ i (h : i < vs.length), ∃ b off, p6 = some ⟨b, off, none⟩ ∧ b < w2.heap.size ∧ w1.heap.size ≤ b ∧ LiAt W1 b (off + i * 4) vs[i]) := fun i hi => by
          obtain ⟨b, off, e, h1, h2, h3⟩ := HA6.out i hi
          exact ⟨b, off, e, h1, h2, LiAt.keepX (h3.keepX HKB.out (by have := HSW0.out; omega) (by omega)) HK2.out (by have := HSW0.out; omega) (by omega)⟩
        have HZW : Hid (∀ i (h : i < vs.length), ∃ b off, pw = some ⟨b, off, none⟩ ∧ b < w6.heap.size ∧ b ≠ Bn ∧ LiAt W1 b (off + i * 4) vs[i]) := fun i hi => by
          obtain ⟨b, off, e, hb, hcl⟩ := HRW6.out i hi
          have hlo := (HOW6.out.lt b (by rw [e]; rfl)).1
          have hne : b ≠ Bn := by have := HLN.out; omega
          exact ⟨b, off, e, hb, hne, hcl.keepX HK6.out hb hne⟩
        have HZP : Hid (∀ i (h : i < ps.length), ∃ b off, pa = some ⟨b, off, none⟩ ∧ b < w6.heap.size ∧ b ≠ Bn ∧ W1.cell? ⟨b, off + i, none⟩ = some (.int .i64 ps[i])) := fun i hi => by
          obtain ⟨b, off, e, hb, hcl⟩ := HRA.out i hi
          have hlo := (HOA.out.lt b (by rw [e]; rfl)).1
          have hne : b ≠ Bn := by have := HLN.out; omega
          exact ⟨b, off, e, hb, hne, (HK6.out.cell (p := ⟨b, off + i, none⟩) hb hne).trans hcl⟩
        have HBW1 : Hid (Below w.heap.size w W1) := HBW.out.trans ((HK2.out.below (Nat.le_of_lt HLN.out)).mono (by have := HSZW.out; have := HS0.out; omega))
        have HDL : Hid (D < W1.heap.size) := (Array.getElem?_eq_some_iff.1 HZD.out).1
        clear HRW6 HRA HOA HOW6 HKB HY5 HY6 HYS HYR HA5 HA6 HBW0 HBW HB6 HD1 HN1 HK6 HK2 HNW0
        refine wpIn_wide (n := 9) |>.1 ?_
        refine wpIn_rangeFunc_ownH (N := m) rfl (by decide) (gf := 52) (lb := #[.pointer (some ⟨b5, 0, none⟩), .pointer (some ⟨b6, 0, none⟩)]) rfl trivial (enters_of Try.func52 (by kernel_rfl) rfl)
          (each_stops 8 (by decide) b5 b6 p5 p6 m k5 k6 ps vs HPN.out HM.out (by omega) Bn W1 HZ5.out.cell ⟨HZ5.out.lt, by omega⟩ HZ6.out.cell ⟨HZ6.out.lt, by omega⟩ (fun i hi => by obtain ⟨b, off, e, h1, h2, h3⟩ := HZA5.out i hi; exact ⟨b, off, e, World.block_lt_of_cell? _ _ h3, by omega, h3⟩) (fun i hi => by obtain ⟨b, off, e, h1, h2, h3⟩ := HZA6.out i hi; exact ⟨b, off, e, World.block_lt_of_cell? _ _ h3.1, by omega, h3⟩)) keepX_t (keepX_b (Nat.le_refl _)) (Below.refl _ _) (fun _ => rfl)
          (fun pre V => Boxed V Bn 3 (.int .i64 (pre.length : Int)) ∧ KeepX Bn W1.heap.size W1 V)
          (fun _ pre _ => ¬ pre <+: List.finRange m)
          (OwnFrom.and (Own.from (boxed_own Bn 3 (fun pre : List (Fin m) => .int .i64 (pre.length : Int))) _) (ownFrom_keepX (Nat.le_refl _) (Nat.le_refl _)))
          (fun _ _ _ _ _ hs _ _ => hs)
          ⟨HN2.out, KeepX.refl _ _ _⟩
          (fun y a' V => ∃ Bx, Bn < Bx ∧ V.heap[Bx]? = some (.cells #[.int .u64 (vs[y.1]?.getD default).u, .int .i64 (vs[y.1]?.getD default).n, .int .i64 (vs[y.1]?.getD default).r, .string (vs[y.1]?.getD default).s] 26 (0, 0)) ∧ a' = { tmps := #[.slice p n c, .int .u64 a, .int .i64 stop, undef, undef, .pointer (some ⟨w.heap.size, 0, none⟩), .pointer (some ⟨w.heap.size + 1, 0, none⟩), .int .u64 a, .slice (some ⟨g1, 0, none⟩) n k1, .func (.func 52) #[] #[.pointer (some ⟨b5, 0, none⟩), .pointer (some ⟨b6, 0, none⟩)], .int .i64 n, .pointer (some ⟨Bn, 0, none⟩), .pointer (some ⟨w6.heap.size, 0, none⟩), .pointer (some ⟨(w6.heap.size + 1), 0, none⟩), .int .i64 (ps[y.1]?.getD 0), .pointer (some ⟨Bx, 0, none⟩), .int .u64 a, .slice (some ⟨w0.heap.size, 0, none⟩) 0 0, .slice p n c, .slice (some ⟨g1, 0, none⟩) n k1, .slice (some ⟨g1, 0, none⟩) n k1, .int .u64 a, .func (.func 52) #[] #[.pointer (some ⟨b5, 0, none⟩), .pointer (some ⟨b6, 0, none⟩)], .func (.func 52) #[] #[.pointer (some ⟨b5, 0, none⟩), .pointer (some ⟨b6, 0, none⟩)], .bool false, .int .i64 n, .slice (some ⟨g1, 0, none⟩) n k1, .int .i64 n, .bool false, u29, u30, u31, u32, u33, u34, .func (.func 52) #[] #[.pointer (some ⟨b5, 0, none⟩), .pointer (some ⟨b6, 0, none⟩)], undef, undef, undef, undef, undef, undef, undef, .slice p n c, .int .u64 a, .slice pw m kw, .slice p n c, .int .u64 a, .slice pa m ka, .func (.func 52) #[] #[.pointer (some ⟨b5, 0, none⟩), .pointer (some ⟨b6, 0, none⟩)], .int .i64 (ps[y.1]?.getD 0), (vs[y.1]?.getD default).agg, undef, undef, undef, undef, undef, undef, undef, undef, undef, undef, undef, undef, undef, undef, undef, undef, undef, undef, undef, undef, undef, undef, undef, undef, undef, undef], defers := [] })
          (fun y a' => fun s A C row ⟨Bx, h1, h2, h3⟩ hg hrow => ⟨Bx, h1, cells_own Bx _ _ () A C row h2 hg (fun r e => (hrow r e).2), h3⟩)
          ?assign2 ?body2 ?done2 ?stop2
        case assign2 =>
          rintro l pre y V K ⟨hbn, hkx⟩ hK
          have HBN := Lib.hid hbn
          have HKX := Lib.hid hkx
          have HKK := Lib.hid hK
          clear hbn hkx hK
          unfold encK Li.agg
          gi_wp2
          exact HKK.out _ _ ((KeepsOthers.alloc _ _).from _) ((KeepX.refl _ _ _).alloc HKX.out.size _) ⟨HBN.out.alloc _, HKX.out.alloc HKX.out.size _⟩ ⟨V.heap.size, HBN.out.lt, World.alloc_heap_new V _, rfl⟩
        case stop2 =>
          rintro D2 cd pre V _ hp hx _
          exact absurd hp hx
        case done2 =>
          rintro D2 ys V hD2 rfl ⟨hbn, hkx⟩ hK2
          rw [List.length_finRange] at hbn
          have q1 := hbn.cell
          have q2 := (hkx.boxed HY12.out (by have := HS1.out; omega) (by have := HLN.out; omega)).cell
          have r1 := hkx.boxed HZR.out (by have := HS1.out; have := HDL.out; have := HDW.out; have := HSZW.out; have := HS0.out; omega) (by have := HSZW.out; have := HS0.out; omega)
          have r2 := r1.cell
          have r3 := r1.frozen
          have HR1 := Lib.hid r1
          have HKX := Lib.hid hkx
          have HK2' := Lib.hid hK2
          have HDD := Lib.hid hD2
          clear hbn hkx r1 hK2 hD2
          gi_wp2
          go_wp2_with fail
          have hlR := HR1.out.lt
          refine leaves_marks (fun V => V.cell? ⟨w.heap.size + 1, 0, none⟩ = some (.bool true) ∧ Below w.heap.size w V) (Bn + 1) ?_ ?_ [D2, D] _ ?_ ?_ ⟨World.cell?_setCell_same' V ⟨w.heap.size + 1, 0, none⟩ (.bool true) (by rw [r2]; rfl), (HBW1.out.trans ((HKX.out.below (show Bn ≤ W1.heap.size by have := HDL.out; have := HDW.out; omega)).mono (by have := HSZW.out; have := HS0.out; omega))).setCell (p := ⟨w.heap.size + 1, 0, none⟩) (by show w.heap.size ≤ w.heap.size + 1; omega) _⟩
          · rintro V' E o ⟨hc, hb⟩ hE _
            exact ⟨(World.cell?_of_block (a := ⟨w.heap.size + 1, 0, none⟩) (World.putObj_heap_other (by show w.heap.size + 1 ≠ E; have := HSZW.out; have := HS0.out; omega))).trans hc, hb.trans ⟨rfl, rfl, rfl, by simp, fun k hk => World.putObj_heap_other (by have := HSZW.out; have := HS0.out; omega)⟩⟩
          · rintro V' ⟨hc, hb⟩
            refine ⟨.bool true, ?_, rfl, hb⟩
            simp [results, Try.f5, go_sem, hc]
          · have h1 := HDL.out
            have h2 := HDD.out
            simp only [List.nodup_cons, List.mem_cons, List.not_mem_nil, or_false, not_false_eq_true, List.nodup_nil, and_true]
            omega
          · intro E hE
            simp only [List.mem_cons, List.not_mem_nil, or_false] at hE
            have h1 := HDL.out
            have h2 := HDD.out
            have h3 := HDW.out
            have h4 := HSZW.out
            have h5 := HS0.out
            rcases hE with rfl | rfl
            · exact ⟨by omega, (heap_setCell_other V ⟨w.heap.size + 1, 0, none⟩ E (.bool true) (by show E ≠ w.heap.size + 1; omega)).trans HK2'.out⟩
            · exact ⟨by omega, (heap_setCell_other V ⟨w.heap.size + 1, 0, none⟩ E (.bool true) (by show E ≠ w.heap.size + 1; omega)).trans ((HKX.out.block E h1 (by omega)).trans HZD.out)⟩
        case body2 =>
          rintro l pre y a' V hl _ ⟨hbn, hkx⟩ ⟨Bx, hBx, hcx, rfl⟩ hlt
          have hlv : pre.length < vs.length := by rw [HM.out]; exact hlt
          have hlp : pre.length < ps.length := by rw [HPN.out]; exact hlt
          obtain ⟨bw, ow, rfl, hbw1, hbw2, hcw⟩ := HZW.out pre.length hlv
          obtain ⟨ba, oa, rfl, hba1, hba2, hca⟩ := HZP.out pre.length hlp
          have hyv : y.1 < vs.length := by rw [HM.out]; exact y.2
          have hyp : y.1 < ps.length := by rw [HPN.out]; exact y.2
          rw [List.getElem?_eq_getElem hyv] at hcx
          rw [List.getElem?_eq_getElem hyv, List.getElem?_eq_getElem hyp]
          simp only [Option.getD_some] at hcx ⊢
          have s1 := HS1.out
          have v1 := hbn.cell
          have v2 := (hkx.boxed HY12.out (by omega) (by have := HLN.out; omega)).cell
          have v3 := (hkx.boxed HY13.out (by omega) (by have := HLN.out; omega)).cell
          have v4 := (hkx.cell (p := ⟨ba, oa + pre.length, none⟩) (by show ba < _; omega) hba2).trans hca
          have v5 := hcw.keepX hkx (by omega) hbw2
          have v6 := four_cells hcx
          have fr := hkx.boxed HZR.out (by have := HDL.out; have := HDW.out; have := HSZW.out; have := HS0.out; omega) (by have := HSZW.out; have := HS0.out; omega)
          have HFR := Lib.hid fr
          have hxl : Bx < V.heap.size := (Array.getElem?_eq_some_iff.1 hcx).1
          have hoz := HFV.out _ (List.getElem_mem hlv)
          have HBN := Lib.hid hbn
          have HKX := Lib.hid hkx
          have hkI : (pre.length : Int) < (m : Int) := by omega
          have hk0 : (0 : Int) ≤ (pre.length : Int) := by omega
          have hkM : (pre.length : Int) + 1 ≤ 9223372036854775807 := by omega
          have hge : ¬ ((m : Int) ≤ (pre.length : Int)) := by omega
          clear hbn hkx hcx hcw hca fr s1
          by_cases hy : y.1 = pre.length
          · have e1 : vs[y.1] = vs[pre.length] := by simp only [hy]
            have e2 : ps[y.1] = ps[pre.length] := by simp only [hy]
            rw [e1] at v6
            rw [e1, e2]
            obtain ⟨x, hx⟩ : ∃ x, vs[pre.length] = x := ⟨_, rfl⟩
            obtain ⟨zn, hzn⟩ : ∃ zn, ps[pre.length] = zn := ⟨_, rfl⟩
            rw [hx] at v5 v6 hoz ⊢
            rw [hzn] at v4 ⊢
            have hne := fun W => neqLine hoz W
            have hgu := lineGuard
            unfold Li.agg at hne ⊢
            clear hx hzn e1 e2
            gi_upto_region 19 with fail
            refine region_full (fun U : World => U.cell? ⟨Bn, 0, none⟩ = some (.int .i64 (pre.length : Int)) ∧ U.cell? ⟨w6.heap.size, 0, none⟩ = some (.slice (some ⟨bw, ow, none⟩) m kw) ∧ U.cell? ⟨w6.heap.size + 1, 0, none⟩ = some (.slice (some ⟨ba, oa, none⟩) m ka) ∧ U.cell? ⟨ba, oa + pre.length, none⟩ = some (.int .i64 zn) ∧ LiAt U bw (ow + pre.length * 4) x ∧ LiAt U Bx 0 x ∧ Hid (Below V.heap.size V U)) (((.slice p n c) :: (.int .u64 a) :: (.int .i64 stop) :: undef :: undef :: (.pointer (some ⟨w.heap.size, 0, none⟩)) :: (.pointer (some ⟨w.heap.size + 1, 0, none⟩)) :: (.int .u64 a) :: (.slice (some ⟨g1, 0, none⟩) n k1) :: (.func (.func 52) #[] #[.pointer (some ⟨b5, 0, none⟩), .pointer (some ⟨b6, 0, none⟩)]) :: (.int .i64 n) :: (.pointer (some ⟨Bn, 0, none⟩)) :: (.pointer (some ⟨w6.heap.size, 0, none⟩)) :: (.pointer (some ⟨(w6.heap.size + 1), 0, none⟩)) :: (.int .i64 zn) :: (.pointer (some ⟨Bx, 0, none⟩)) :: (.int .u64 a) :: (.slice (some ⟨w0.heap.size, 0, none⟩) 0 0) :: (.slice p n c) :: (.slice (some ⟨g1, 0, none⟩) n k1) :: (.slice (some ⟨g1, 0, none⟩) n k1) :: (.int .u64 a) :: (.func (.func 52) #[] #[.pointer (some ⟨b5, 0, none⟩), .pointer (some ⟨b6, 0, none⟩)]) :: (.func (.func 52) #[] #[.pointer (some ⟨b5, 0, none⟩), .pointer (some ⟨b6, 0, none⟩)]) :: (.bool false) :: (.int .i64 n) :: (.slice (some ⟨g1, 0, none⟩) n k1) :: (.int .i64 n) :: (.bool false) :: u29 :: u30 :: u31 :: u32 :: u33 :: u34 :: (.func (.func 52) #[] #[.pointer (some ⟨b5, 0, none⟩), .pointer (some ⟨b6, 0, none⟩)]) :: undef :: undef :: undef :: undef :: undef :: undef :: undef :: (.slice p n c) :: (.int .u64 a) :: (.slice (some ⟨bw, ow, none⟩) m kw) :: (.slice p n c) :: (.int .u64 a) :: (.slice (some ⟨ba, oa, none⟩) m ka) :: (.func (.func 52) #[] #[.pointer (some ⟨b5, 0, none⟩), .pointer (some ⟨b6, 0, none⟩)]) :: (.int .i64 zn) :: (.agg #[.int .u64 x.u, .int .i64 x.n, .int .i64 x.r, .string x.s]) :: (.int .i64 (pre.length : Int)) :: (.slice (some ⟨bw, ow, none⟩) m kw) :: (.int .i64 m) :: (.bool false) :: (.bool false) :: (.int .i64 zn) :: (.slice (some ⟨ba, oa, none⟩) m ka) :: (.int .i64 (pre.length : Int)) :: (.pointer (some ⟨ba, oa + pre.length, none⟩)) :: (.int .i64 zn) :: (.bool false) :: (.bool false) :: (.bool false) :: (.agg #[.int .u64 x.u, .int .i64 x.n, .int .i64 x.r, .string x.s]) :: (.slice (some ⟨bw, ow, none⟩) m kw) :: (.int .i64 (pre.length : Int)) :: (.pointer (some ⟨bw, ow + pre.length * 4, none⟩)) :: (.agg #[.int .u64 x.u, .int .i64 x.n, .int .i64 x.r, .string x.s]) :: (.bool false) :: (.bool false) :: undef :: undef :: undef :: undef :: undef :: undef :: [] : List Value).toArray) (by kernel_rfl) (by kernel_rfl) (by kernel_rfl) (by kernel_rfl) ?_ ?_ ?_
            · exact ⟨v1, v2, v3, v4, v5, v6, Below.drew (Below.refl _ _)⟩
            · refine full_want_k (by kernel_rfl) (fun V hV K hK => ?_) ?_; focus (obtain ⟨v1, v2, v3, v4, ⟨d0, d1, d2, d3⟩, ⟨e0, e1, e2, e3⟩, hbV⟩ := hV; unfold Oper.wpIn; refine ⟨fun _ _ => trivial, ?_⟩; rw [Oper.semAt_eq _ _ _ (by intro c h; cases h)]; go_simp; exact hK.out _ _ (by first | with_reducible rfl | (simp; done) | (simp; omega)) ⟨v1, v2, v3, v4, ⟨d0, d1, d2, d3⟩, ⟨e0, e1, e2, e3⟩, hbV⟩)
              refine full_want_k (by kernel_rfl) (fun V hV K hK => ?_) ?_; focus (obtain ⟨v1, v2, v3, v4, ⟨d0, d1, d2, d3⟩, ⟨e0, e1, e2, e3⟩, hbV⟩ := hV; unfold Oper.wpIn; refine ⟨fun _ _ => trivial, ?_⟩; rw [Oper.semAt_eq _ _ _ (by intro c h; cases h)]; go_simp; exact hK.out _ _ (by first | with_reducible rfl | (simp; done) | (simp; omega)) ⟨v1, v2, v3, v4, ⟨d0, d1, d2, d3⟩, ⟨e0, e1, e2, e3⟩, hbV⟩)
              refine full_want_k (by kernel_rfl) (fun V hV K hK => ?_) ?_; focus (obtain ⟨v1, v2, v3, v4, ⟨d0, d1, d2, d3⟩, ⟨e0, e1, e2, e3⟩, hbV⟩ := hV; unfold Oper.wpIn; refine ⟨fun _ _ => trivial, ?_⟩; rw [Oper.semAt_eq _ _ _ (by intro c h; cases h)]; go_simp; exact hK.out _ _ (by first | with_reducible rfl | (simp; done) | (simp; omega)) ⟨v1, v2, v3, v4, ⟨d0, d1, d2, d3⟩, ⟨e0, e1, e2, e3⟩, hbV⟩)
              refine full_want_k (by kernel_rfl) (fun V hV K hK => ?_) ?_; focus (obtain ⟨v1, v2, v3, v4, ⟨d0, d1, d2, d3⟩, ⟨e0, e1, e2, e3⟩, hbV⟩ := hV; unfold Oper.wpIn; refine ⟨fun _ _ => trivial, ?_⟩; rw [Oper.semAt_eq _ _ _ (by intro c h; cases h)]; go_simp; exact hK.out _ _ (by first | with_reducible rfl | (simp; done) | (simp; omega)) ⟨v1, v2, v3, v4, ⟨d0, d1, d2, d3⟩, ⟨e0, e1, e2, e3⟩, hbV⟩)
              refine full_want_k (by kernel_rfl) (fun V hV K hK => ?_) ?_; focus (obtain ⟨v1, v2, v3, v4, ⟨d0, d1, d2, d3⟩, ⟨e0, e1, e2, e3⟩, hbV⟩ := hV; unfold Oper.wpIn; refine ⟨fun _ _ => trivial, ?_⟩; rw [Oper.semAt_eq _ _ _ (by intro c h; cases h)]; go_simp; exact hK.out _ _ (by first | with_reducible rfl | (simp; done) | (simp; omega)) ⟨v1, v2, v3, v4, ⟨d0, d1, d2, d3⟩, ⟨e0, e1, e2, e3⟩, hbV⟩)
              refine full_want_k (by kernel_rfl) (fun V hV K hK => ?_) ?_; focus (obtain ⟨v1, v2, v3, v4, ⟨d0, d1, d2, d3⟩, ⟨e0, e1, e2, e3⟩, hbV⟩ := hV; unfold Oper.wpIn; refine ⟨fun _ _ => trivial, ?_⟩; rw [Oper.semAt_eq _ _ _ (by intro c h; cases h)]; go_simp; exact hK.out _ _ (by first | with_reducible rfl | (simp; done) | (simp; omega)) ⟨v1, v2, v3, v4, ⟨d0, d1, d2, d3⟩, ⟨e0, e1, e2, e3⟩, hbV⟩)
              refine full_want_k (by kernel_rfl) (fun V hV K hK => ?_) ?_; focus (obtain ⟨v1, v2, v3, v4, ⟨d0, d1, d2, d3⟩, ⟨e0, e1, e2, e3⟩, hbV⟩ := hV; unfold Oper.wpIn; refine ⟨fun _ _ => trivial, ?_⟩; rw [Oper.semAt_eq _ _ _ (by intro c h; cases h)]; go_simp; exact hK.out _ _ (by first | with_reducible rfl | (simp; done) | (simp; omega)) ⟨v1, v2, v3, v4, ⟨d0, d1, d2, d3⟩, ⟨e0, e1, e2, e3⟩, hbV⟩)
              refine full_want_k (by kernel_rfl) (fun V hV K hK => ?_) ?_; focus (obtain ⟨v1, v2, v3, v4, ⟨d0, d1, d2, d3⟩, ⟨e0, e1, e2, e3⟩, hbV⟩ := hV; unfold Oper.wpIn; refine ⟨fun _ _ => trivial, ?_⟩; rw [Oper.semAt_eq _ _ _ (by intro c h; cases h)]; go_simp; exact hK.out _ _ (by first | with_reducible rfl | (simp; done) | (simp; omega)) ⟨v1, v2, v3, v4, ⟨d0, d1, d2, d3⟩, ⟨e0, e1, e2, e3⟩, hbV⟩)
              refine full_want_k (by kernel_rfl) (fun V hV K hK => ?_) ?_; focus (obtain ⟨v1, v2, v3, v4, ⟨d0, d1, d2, d3⟩, ⟨e0, e1, e2, e3⟩, hbV⟩ := hV; unfold Oper.wpIn; refine ⟨fun _ _ => trivial, ?_⟩; rw [Oper.semAt_eq _ _ _ (by intro c h; cases h)]; go_simp; exact hK.out _ _ (by first | with_reducible rfl | (simp; done) | (simp; omega)) ⟨v1, v2, v3, v4, ⟨d0, d1, d2, d3⟩, ⟨e0, e1, e2, e3⟩, hbV⟩)
              refine full_want_k (by kernel_rfl) (fun V hV K hK => ?_) ?_; focus (obtain ⟨v1, v2, v3, v4, ⟨d0, d1, d2, d3⟩, ⟨e0, e1, e2, e3⟩, hbV⟩ := hV; unfold Oper.wpIn; refine ⟨fun _ _ => trivial, ?_⟩; rw [Oper.semAt_eq _ _ _ (by intro c h; cases h)]; go_simp; exact hK.out _ _ (by first | with_reducible rfl | (simp; done) | (simp; omega)) ⟨v1, v2, v3, v4, ⟨d0, d1, d2, d3⟩, ⟨e0, e1, e2, e3⟩, hbV⟩)
              refine full_want_k (by kernel_rfl) (fun V hV K hK => ?_) ?_; focus (obtain ⟨v1, v2, v3, v4, ⟨d0, d1, d2, d3⟩, ⟨e0, e1, e2, e3⟩, hbV⟩ := hV; unfold Oper.wpIn; refine ⟨fun _ _ => trivial, ?_⟩; rw [Oper.semAt_eq _ _ _ (by intro c h; cases h)]; go_simp; exact hK.out _ _ (by first | with_reducible rfl | (simp; done) | (simp; omega)) ⟨v1, v2, v3, v4, ⟨d0, d1, d2, d3⟩, ⟨e0, e1, e2, e3⟩, hbV⟩)
              refine full_want_k (by kernel_rfl) (fun V hV K hK => ?_) ?_; focus (obtain ⟨v1, v2, v3, v4, ⟨d0, d1, d2, d3⟩, ⟨e0, e1, e2, e3⟩, hbV⟩ := hV; unfold Oper.wpIn; refine ⟨fun _ _ => trivial, ?_⟩; rw [Oper.semAt_eq _ _ _ (by intro c h; cases h)]; go_simp; exact hK.out _ _ (by first | with_reducible rfl | (simp; done) | (simp; omega)) ⟨v1, v2, v3, v4, ⟨d0, d1, d2, d3⟩, ⟨e0, e1, e2, e3⟩, hbV⟩)
              refine full_want_k (by kernel_rfl) (fun V hV K hK => ?_) ?_; focus (obtain ⟨v1, v2, v3, v4, ⟨d0, d1, d2, d3⟩, ⟨e0, e1, e2, e3⟩, hbV⟩ := hV; unfold Oper.wpIn; refine ⟨fun _ _ => trivial, ?_⟩; rw [Oper.semAt_eq _ _ _ (by intro c h; cases h)]; go_simp; exact hK.out _ _ (by first | with_reducible rfl | (simp; done) | (simp; omega)) ⟨v1, v2, v3, v4, ⟨d0, d1, d2, d3⟩, ⟨e0, e1, e2, e3⟩, hbV⟩)
              refine full_want_k (by kernel_rfl) (fun V hV K hK => ?_) ?_; focus (obtain ⟨v1, v2, v3, v4, ⟨d0, d1, d2, d3⟩, ⟨e0, e1, e2, e3⟩, hbV⟩ := hV; unfold Oper.wpIn; refine ⟨fun _ _ => trivial, ?_⟩; rw [Oper.semAt_eq _ _ _ (by intro c h; cases h)]; go_simp; exact hK.out _ _ (by first | with_reducible rfl | (simp; done) | (simp; omega)) ⟨v1, v2, v3, v4, ⟨d0, d1, d2, d3⟩, ⟨e0, e1, e2, e3⟩, hbV⟩)
              refine full_want_k (by kernel_rfl) (fun V hV K hK => ?_) ?_; focus (obtain ⟨v1, v2, v3, v4, ⟨d0, d1, d2, d3⟩, ⟨e0, e1, e2, e3⟩, hbV⟩ := hV; unfold Oper.wpIn; refine ⟨fun _ _ => trivial, ?_⟩; rw [Oper.semAt_eq _ _ _ (by intro c h; cases h)]; go_simp; exact hK.out _ _ (by first | with_reducible rfl | (simp; done) | (simp; omega)) ⟨v1, v2, v3, v4, ⟨d0, d1, d2, d3⟩, ⟨e0, e1, e2, e3⟩, hbV⟩)
              refine full_want_k (by kernel_rfl) (fun V hV K hK => ?_) ?_; focus (obtain ⟨v1, v2, v3, v4, ⟨d0, d1, d2, d3⟩, ⟨e0, e1, e2, e3⟩, hbV⟩ := hV; unfold Oper.wpIn; refine ⟨fun _ _ => trivial, ?_⟩; rw [Oper.semAt_eq _ _ _ (by intro c h; cases h)]; go_simp; exact hK.out _ _ (by first | with_reducible rfl | (simp; done) | (simp; omega)) ⟨v1, v2, v3, v4, ⟨d0, d1, d2, d3⟩, ⟨e0, e1, e2, e3⟩, hbV⟩)
              refine full_want_k (by kernel_rfl) (fun V hV K hK => ?_) ?_; focus (obtain ⟨v1, v2, v3, v4, ⟨d0, d1, d2, d3⟩, ⟨e0, e1, e2, e3⟩, hbV⟩ := hV; unfold Oper.wpIn; refine ⟨fun _ _ => trivial, ?_⟩; rw [Oper.semAt_eq _ _ _ (by intro c h; cases h)]; go_simp; exact hK.out _ _ (by first | with_reducible rfl | (simp; done) | (simp; omega)) ⟨v1, v2, v3, v4, ⟨d0, d1, d2, d3⟩, ⟨e0, e1, e2, e3⟩, hbV⟩)
              refine full_want_k (by kernel_rfl) (fun V hV K hK => ?_) ?_; focus (obtain ⟨v1, v2, v3, v4, ⟨d0, d1, d2, d3⟩, ⟨e0, e1, e2, e3⟩, hbV⟩ := hV; unfold Oper.wpIn; refine ⟨fun _ _ => trivial, ?_⟩; rw [Oper.semAt_eq _ _ _ (by intro c h; cases h)]; go_simp; exact hK.out _ _ (by first | with_reducible rfl | (simp; done) | (simp; omega)) ⟨v1, v2, v3, v4, ⟨d0, d1, d2, d3⟩, ⟨e0, e1, e2, e3⟩, hbV⟩)
              refine full_want_k (by kernel_rfl) (fun V hV K hK => ?_) ?_; focus (obtain ⟨v1, v2, v3, v4, ⟨d0, d1, d2, d3⟩, ⟨e0, e1, e2, e3⟩, hbV⟩ := hV; unfold Oper.wpIn; refine ⟨fun _ _ => trivial, ?_⟩; rw [Oper.semAt_eq _ _ _ (by intro c h; cases h)]; go_simp; exact hK.out _ _ (by first | with_reducible rfl | (simp; done) | (simp; omega)) ⟨v1, v2, v3, v4, ⟨d0, d1, d2, d3⟩, ⟨e0, e1, e2, e3⟩, hbV⟩)
              refine full_want_k (by kernel_rfl) (fun V hV K hK => ?_) ?_; focus (obtain ⟨v1, v2, v3, v4, ⟨d0, d1, d2, d3⟩, ⟨e0, e1, e2, e3⟩, hbV⟩ := hV; unfold Oper.wpIn; refine ⟨fun _ _ => trivial, ?_⟩; rw [Oper.semAt_eq _ _ _ (by intro c h; cases h)]; go_simp; exact hK.out _ _ (by first | with_reducible rfl | (simp; done) | (simp; omega)) ⟨v1, v2, v3, v4, ⟨d0, d1, d2, d3⟩, ⟨e0, e1, e2, e3⟩, hbV⟩)
              exact trivial
            · rintro V' ⟨z1, _, _, _, _, _, hbV⟩
              (try dsimp only [Exit.then])
              have hbx : Boxed V' Bn 3 (.int .i64 (pre.length : Int)) := (hbV.out.block Bn HBN.out.lt).trans HBN.out
              have zf := hbx.frozen
              have HBX := Lib.hid (hbx.set (.int .i64 ((pre.length : Int) + 1)))
              have HKX2 := Lib.hid (((KeepX.of_below (B := Bn) hbV.out HKX.out.size).set 0 (.int .i64 ((pre.length : Int) + 1))))
              have HKF := Lib.hid (((keeps_below hbV.out).trans (KeepsOthers.setCell V' ⟨Bn, 0, none⟩ (.int .i64 ((pre.length : Int) + 1)))).from W1.heap.size)
              clear hbx hbV v1 v2 v3 v4 v5 v6
              gi_wp2
              refine ⟨HKF.out, HKX2.out, ?_, HKX.out.trans HKX2.out⟩
              rw [List.length_append]
              exact HBX.out
          · have hzne : ps[y.1] ≠ ps[pre.length] := fun e => by
              obtain ⟨q1, hq1, eq1, _, er1⟩ := HPL.out y.1 hyp
              obtain ⟨q2, hq2, eq2, _, er2⟩ := HPL.out pre.length hlp
              rw [eq1, eq2] at e
              have e' : q1 = q2 := by omega
              subst e'
              exact hy (er1.symm.trans er2)
            have hbad : ¬ (pre ++ [y]) <+: List.finRange m := fun hpf => by
              have h1 := List.IsPrefix.getElem hpf (i := pre.length) (by simp)
              rw [List.getElem_append_right (Nat.le_refl _)] at h1
              simp only [Nat.sub_self, List.getElem_cons_zero, List.getElem_finRange] at h1
              exact hy (by rw [h1]; rfl)
            have HBAD := Lib.hid hbad
            clear hbad
            obtain ⟨x, hx⟩ : ∃ x, vs[pre.length] = x := ⟨_, rfl⟩
            obtain ⟨zn, hzn⟩ : ∃ zn, ps[pre.length] = zn := ⟨_, rfl⟩
            obtain ⟨yx, hyx⟩ : ∃ yx, vs[y.1] = yx := ⟨_, rfl⟩
            obtain ⟨zi, hzi⟩ : ∃ zi, ps[y.1] = zi := ⟨_, rfl⟩
            rw [hx] at v5
            rw [hzn] at v4 hzne
            rw [hzi] at hzne ⊢
            rw [hyx] at v6 ⊢
            have hzb : (zi == zn) = false := beq_false_of_ne hzne
            unfold Li.agg
            clear hx hzn hyx hzi
            gi_upto_region 19 with fail
            refine region_full (fun U : World => U.cell? ⟨Bn, 0, none⟩ = some (.int .i64 (pre.length : Int)) ∧ U.cell? ⟨w6.heap.size, 0, none⟩ = some (.slice (some ⟨bw, ow, none⟩) m kw) ∧ U.cell? ⟨w6.heap.size + 1, 0, none⟩ = some (.slice (some ⟨ba, oa, none⟩) m ka) ∧ U.cell? ⟨ba, oa + pre.length, none⟩ = some (.int .i64 zn) ∧ LiAt U bw (ow + pre.length * 4) x ∧ LiAt U Bx 0 yx ∧ Hid (Below V.heap.size V U)) (((.slice p n c) :: (.int .u64 a) :: (.int .i64 stop) :: undef :: undef :: (.pointer (some ⟨w.heap.size, 0, none⟩)) :: (.pointer (some ⟨w.heap.size + 1, 0, none⟩)) :: (.int .u64 a) :: (.slice (some ⟨g1, 0, none⟩) n k1) :: (.func (.func 52) #[] #[.pointer (some ⟨b5, 0, none⟩), .pointer (some ⟨b6, 0, none⟩)]) :: (.int .i64 n) :: (.pointer (some ⟨Bn, 0, none⟩)) :: (.pointer (some ⟨w6.heap.size, 0, none⟩)) :: (.pointer (some ⟨(w6.heap.size + 1), 0, none⟩)) :: (.int .i64 zi) :: (.pointer (some ⟨Bx, 0, none⟩)) :: (.int .u64 a) :: (.slice (some ⟨w0.heap.size, 0, none⟩) 0 0) :: (.slice p n c) :: (.slice (some ⟨g1, 0, none⟩) n k1) :: (.slice (some ⟨g1, 0, none⟩) n k1) :: (.int .u64 a) :: (.func (.func 52) #[] #[.pointer (some ⟨b5, 0, none⟩), .pointer (some ⟨b6, 0, none⟩)]) :: (.func (.func 52) #[] #[.pointer (some ⟨b5, 0, none⟩), .pointer (some ⟨b6, 0, none⟩)]) :: (.bool false) :: (.int .i64 n) :: (.slice (some ⟨g1, 0, none⟩) n k1) :: (.int .i64 n) :: (.bool false) :: u29 :: u30 :: u31 :: u32 :: u33 :: u34 :: (.func (.func 52) #[] #[.pointer (some ⟨b5, 0, none⟩), .pointer (some ⟨b6, 0, none⟩)]) :: undef :: undef :: undef :: undef :: undef :: undef :: undef :: (.slice p n c) :: (.int .u64 a) :: (.slice (some ⟨bw, ow, none⟩) m kw) :: (.slice p n c) :: (.int .u64 a) :: (.slice (some ⟨ba, oa, none⟩) m ka) :: (.func (.func 52) #[] #[.pointer (some ⟨b5, 0, none⟩), .pointer (some ⟨b6, 0, none⟩)]) :: (.int .i64 zi) :: (.agg #[.int .u64 yx.u, .int .i64 yx.n, .int .i64 yx.r, .string yx.s]) :: (.int .i64 (pre.length : Int)) :: (.slice (some ⟨bw, ow, none⟩) m kw) :: (.int .i64 m) :: (.bool false) :: (.bool false) :: (.int .i64 zi) :: (.slice (some ⟨ba, oa, none⟩) m ka) :: (.int .i64 (pre.length : Int)) :: (.pointer (some ⟨ba, oa + pre.length, none⟩)) :: (.int .i64 zn) :: (.bool true) :: (.bool true) :: (.bool true) :: undef :: undef :: undef :: undef :: undef :: undef :: (.bool true) :: undef :: undef :: undef :: undef :: undef :: undef :: [] : List Value).toArray) (by kernel_rfl) (by kernel_rfl) (by kernel_rfl) (by kernel_rfl) ?_ ?_ ?_
            · exact ⟨v1, v2, v3, v4, v5, v6, Below.drew (Below.refl _ _)⟩
            · refine full_want_k (by kernel_rfl) (fun V hV K hK => ?_) ?_; focus (obtain ⟨v1, v2, v3, v4, ⟨d0, d1, d2, d3⟩, ⟨e0, e1, e2, e3⟩, hbV⟩ := hV; unfold Oper.wpIn; refine ⟨fun _ _ => trivial, ?_⟩; rw [Oper.semAt_eq _ _ _ (by intro c h; cases h)]; go_simp; exact hK.out _ _ (by first | with_reducible rfl | (simp; done) | (simp; omega)) ⟨v1, v2, v3, v4, ⟨d0, d1, d2, d3⟩, ⟨e0, e1, e2, e3⟩, hbV⟩)
              refine full_want_k (by kernel_rfl) (fun V hV K hK => ?_) ?_; focus (obtain ⟨v1, v2, v3, v4, ⟨d0, d1, d2, d3⟩, ⟨e0, e1, e2, e3⟩, hbV⟩ := hV; unfold Oper.wpIn; refine ⟨fun _ _ => trivial, ?_⟩; rw [Oper.semAt_eq _ _ _ (by intro c h; cases h)]; go_simp; exact hK.out _ _ (by first | with_reducible rfl | (simp; done) | (simp; omega)) ⟨v1, v2, v3, v4, ⟨d0, d1, d2, d3⟩, ⟨e0, e1, e2, e3⟩, hbV⟩)
              refine full_want_k (by kernel_rfl) (fun V hV K hK => ?_) ?_; focus (obtain ⟨v1, v2, v3, v4, ⟨d0, d1, d2, d3⟩, ⟨e0, e1, e2, e3⟩, hbV⟩ := hV; unfold Oper.wpIn; refine ⟨fun _ _ => trivial, ?_⟩; rw [Oper.semAt_eq _ _ _ (by intro c h; cases h)]; go_simp; exact hK.out _ _ (by first | with_reducible rfl | (simp; done) | (simp; omega)) ⟨v1, v2, v3, v4, ⟨d0, d1, d2, d3⟩, ⟨e0, e1, e2, e3⟩, hbV⟩)
              refine full_want_k (by kernel_rfl) (fun V hV K hK => ?_) ?_; focus (obtain ⟨v1, v2, v3, v4, ⟨d0, d1, d2, d3⟩, ⟨e0, e1, e2, e3⟩, hbV⟩ := hV; unfold Oper.wpIn; refine ⟨fun _ _ => trivial, ?_⟩; rw [Oper.semAt_eq _ _ _ (by intro c h; cases h)]; go_simp; exact hK.out _ _ (by first | with_reducible rfl | (simp; done) | (simp; omega)) ⟨v1, v2, v3, v4, ⟨d0, d1, d2, d3⟩, ⟨e0, e1, e2, e3⟩, hbV⟩)
              refine full_want_k (by kernel_rfl) (fun V hV K hK => ?_) ?_; focus (obtain ⟨v1, v2, v3, v4, ⟨d0, d1, d2, d3⟩, ⟨e0, e1, e2, e3⟩, hbV⟩ := hV; unfold Oper.wpIn; refine ⟨fun _ _ => trivial, ?_⟩; rw [Oper.semAt_eq _ _ _ (by intro c h; cases h)]; go_simp; exact hK.out _ _ (by first | with_reducible rfl | (simp; done) | (simp; omega)) ⟨v1, v2, v3, v4, ⟨d0, d1, d2, d3⟩, ⟨e0, e1, e2, e3⟩, hbV⟩)
              refine full_want_k (by kernel_rfl) (fun V hV K hK => ?_) ?_; focus (obtain ⟨v1, v2, v3, v4, ⟨d0, d1, d2, d3⟩, ⟨e0, e1, e2, e3⟩, hbV⟩ := hV; unfold Oper.wpIn; refine ⟨fun _ _ => trivial, ?_⟩; rw [Oper.semAt_eq _ _ _ (by intro c h; cases h)]; go_simp; exact hK.out _ _ (by first | with_reducible rfl | (simp; done) | (simp; omega)) ⟨v1, v2, v3, v4, ⟨d0, d1, d2, d3⟩, ⟨e0, e1, e2, e3⟩, hbV⟩)
              refine full_want_k (by kernel_rfl) (fun V hV K hK => ?_) ?_; focus (obtain ⟨v1, v2, v3, v4, ⟨d0, d1, d2, d3⟩, ⟨e0, e1, e2, e3⟩, hbV⟩ := hV; unfold Oper.wpIn; refine ⟨fun _ _ => trivial, ?_⟩; rw [Oper.semAt_eq _ _ _ (by intro c h; cases h)]; go_simp; exact hK.out _ _ (by first | with_reducible rfl | (simp; done) | (simp; omega)) ⟨v1, v2, v3, v4, ⟨d0, d1, d2, d3⟩, ⟨e0, e1, e2, e3⟩, hbV⟩)
              refine full_want_k (by kernel_rfl) (fun V hV K hK => ?_) ?_; focus (obtain ⟨v1, v2, v3, v4, ⟨d0, d1, d2, d3⟩, ⟨e0, e1, e2, e3⟩, hbV⟩ := hV; unfold Oper.wpIn; refine ⟨fun _ _ => trivial, ?_⟩; rw [Oper.semAt_eq _ _ _ (by intro c h; cases h)]; go_simp; exact hK.out _ _ (by first | with_reducible rfl | (simp; done) | (simp; omega)) ⟨v1, v2, v3, v4, ⟨d0, d1, d2, d3⟩, ⟨e0, e1, e2, e3⟩, hbV⟩)
              refine full_want_k (by kernel_rfl) (fun V hV K hK => ?_) ?_; focus (obtain ⟨v1, v2, v3, v4, ⟨d0, d1, d2, d3⟩, ⟨e0, e1, e2, e3⟩, hbV⟩ := hV; unfold Oper.wpIn; refine ⟨fun _ _ => trivial, ?_⟩; rw [Oper.semAt_eq _ _ _ (by intro c h; cases h)]; go_simp; exact hK.out _ _ (by first | with_reducible rfl | (simp; done) | (simp; omega)) ⟨v1, v2, v3, v4, ⟨d0, d1, d2, d3⟩, ⟨e0, e1, e2, e3⟩, hbV⟩)
              refine full_want_k (by kernel_rfl) (fun V hV K hK => ?_) ?_; focus (obtain ⟨v1, v2, v3, v4, ⟨d0, d1, d2, d3⟩, ⟨e0, e1, e2, e3⟩, hbV⟩ := hV; unfold Oper.wpIn; refine ⟨fun _ _ => trivial, ?_⟩; rw [Oper.semAt_eq _ _ _ (by intro c h; cases h)]; go_simp; exact hK.out _ _ (by first | with_reducible rfl | (simp; done) | (simp; omega)) ⟨v1, v2, v3, v4, ⟨d0, d1, d2, d3⟩, ⟨e0, e1, e2, e3⟩, hbV⟩)
              refine full_want_k (by kernel_rfl) (fun V hV K hK => ?_) ?_; focus (obtain ⟨v1, v2, v3, v4, ⟨d0, d1, d2, d3⟩, ⟨e0, e1, e2, e3⟩, hbV⟩ := hV; unfold Oper.wpIn; refine ⟨fun _ _ => trivial, ?_⟩; rw [Oper.semAt_eq _ _ _ (by intro c h; cases h)]; go_simp; exact hK.out _ _ (by first | with_reducible rfl | (simp; done) | (simp; omega)) ⟨v1, v2, v3, v4, ⟨d0, d1, d2, d3⟩, ⟨e0, e1, e2, e3⟩, hbV⟩)
              refine full_want_k (by kernel_rfl) (fun V hV K hK => ?_) ?_; focus (obtain ⟨v1, v2, v3, v4, ⟨d0, d1, d2, d3⟩, ⟨e0, e1, e2, e3⟩, hbV⟩ := hV; unfold Oper.wpIn; refine ⟨fun _ _ => trivial, ?_⟩; rw [Oper.semAt_eq _ _ _ (by intro c h; cases h)]; go_simp; exact hK.out _ _ (by first | with_reducible rfl | (simp; done) | (simp; omega)) ⟨v1, v2, v3, v4, ⟨d0, d1, d2, d3⟩, ⟨e0, e1, e2, e3⟩, hbV⟩)
              refine full_want_k (by kernel_rfl) (fun V hV K hK => ?_) ?_; focus (obtain ⟨v1, v2, v3, v4, ⟨d0, d1, d2, d3⟩, ⟨e0, e1, e2, e3⟩, hbV⟩ := hV; unfold Oper.wpIn; refine ⟨fun _ _ => trivial, ?_⟩; rw [Oper.semAt_eq _ _ _ (by intro c h; cases h)]; go_simp; exact hK.out _ _ (by first | with_reducible rfl | (simp; done) | (simp; omega)) ⟨v1, v2, v3, v4, ⟨d0, d1, d2, d3⟩, ⟨e0, e1, e2, e3⟩, hbV⟩)
              refine full_skip (by kernel_rfl) (fun _ _ _ => trivial) (by kernel_rfl) ?_
              refine full_skip (by kernel_rfl) (fun _ _ _ => trivial) (by kernel_rfl) ?_
              refine full_skip (by kernel_rfl) (fun _ _ _ => trivial) (by kernel_rfl) ?_
              refine full_skip (by kernel_rfl) (fun _ _ _ => trivial) (by kernel_rfl) ?_
              refine full_skip (by kernel_rfl) (fun _ _ _ => trivial) (by kernel_rfl) ?_
              refine full_skip (by kernel_rfl) (fun _ _ _ => trivial) (by kernel_rfl) ?_
              refine full_want_k (by kernel_rfl) (fun V hV K hK => ?_) ?_; focus (obtain ⟨v1, v2, v3, v4, ⟨d0, d1, d2, d3⟩, ⟨e0, e1, e2, e3⟩, hbV⟩ := hV; unfold Oper.wpIn; refine ⟨fun _ _ => trivial, ?_⟩; rw [Oper.semAt_eq _ _ _ (by intro c h; cases h)]; go_simp; exact hK.out _ _ (by first | with_reducible rfl | (simp; done) | (simp; omega)) ⟨v1, v2, v3, v4, ⟨d0, d1, d2, d3⟩, ⟨e0, e1, e2, e3⟩, hbV⟩)
              exact trivial
            · rintro V' ⟨_, _, _, _, _, _, hbV⟩
              (try dsimp only [Exit.then])
              have hbx : Boxed V' (w.heap.size + 1) 4 (.bool false) := (hbV.out.block _ HFR.out.lt).trans HFR.out
              have zf := hbx.frozen
              have zc := hbx.cell
              have HKF := Lib.hid (((keeps_below hbV.out).trans (KeepsOthers.setCell V' ⟨w.heap.size + 1, 0, none⟩ (.bool false))).from W1.heap.size)
              clear hbx hbV v1 v2 v3 v4 v5 v6
              gi_wp2
              exact ⟨HKF.out, HBAD.out⟩
      case stop =>
        rintro D cd pre W hD _ ⟨rfl, ⟨zz, hbn⟩, hKb⟩ hK
        have HKB := Lib.hid hKb
        have hsW := hKb.size
        have HDW := Lib.hid (show Bn + 1 ≤ D by have := HSW0.out; omega)
        have HBW := Lib.hid (HBW0.out.trans ((hKb.below (show Bn ≤ W0.heap.size by have := HSW0.out; omega)).mono (by have := HSZW.out; have := HS0.out; omega)))
        have CO := CRO.out W HBW.out
        have HD1 := Lib.hid hK
        have HN1 := Lib.hid hbn
        have HLN := Lib.hid hbn.lt
        clear hK hbn hKb CRO hD
        gi_wp2
        go_wp2_with fail
        refine CO.mono ?_
        rintro e w5 ⟨hb5', pw, kw, rfl, hrw, how⟩
        have HB5 := Lib.hid hb5'
        have HRW := Lib.hid hrw
        have HOW := Lib.hid how
        have CP := CRP.out w5 (HBW.out.trans (hb5'.mono HBW.out.size))
        clear hb5' hrw how CO CRP
        go_wp2_with fail
        refine CP.mono ?_
        rintro e w6 ⟨hb6', pa, ka, rfl, hra, hoa⟩
        have HB6 := Lib.hid (HB5.out.trans (hb6'.mono HB5.out.size))
        have HRW6 := Lib.hid (HRW.out.later hb6')
        have HRA := Lib.hid hra
        have HOA := Lib.hid (base_le hoa HB5.out.size)
        have HOW6 := Lib.hid (row_later HOW.out hb6')
        clear hb6' hra hoa CP HB5 HRW HOW
        rw [HVS.out] at HRW6 HOW6
        rw [HPS.out] at HRA HOA
        rw [HVS.out, HPS.out, HM.out, HPN.out]
        rw [HM.out] at HOW6
        rw [HPN.out] at HOA
        have hs6 := HB6.out.size
        have hb6A : Below w6.heap.size w6 ((w6.alloc (.cells #[.slice pw m kw] 22)).alloc (.cells #[.slice pa m ka] 28)) := ((Below.refl _ _).alloc (Nat.le_refl _) _).alloc (by simp) _
        have hbA := HB6.out.trans (hb6A.mono hs6)
        have x12 := (Boxed.new w6 22 (.slice pw m kw)).alloc (.cells #[.slice pa m ka] 28)
        have x13 := Boxed.new (w6.alloc (.cells #[.slice pw m kw] 22)) 28 (.slice pa m ka)
        rw [World.size_alloc] at x13
        have bnA := (hbA.block Bn HLN.out).trans HN1.out
        have HX12 := Lib.hid x12
        have HX13 := Lib.hid x13
        have HBA := Lib.hid hbA
        have HB6A := Lib.hid hb6A
        have HNA := Lib.hid bnA
        have fnA := Boxed.frozen bnA
        have cnA := Boxed.cell bnA
        have hsA : Hid (((w6.alloc (.cells #[.slice pw m kw] 22)).alloc (.cells #[.slice pa m ka] 28)).heap.size = w6.heap.size + 2) := by show _ = _; simp
        clear hbA x12 x13 bnA hb6A
        go_wp2_with fail
        have HN2 : Hid (Boxed (((w6.alloc (.cells #[.slice pw m kw] 22)).alloc (.cells #[.slice pa m ka] 28)).setCell ⟨Bn, 0, none⟩ (.int .i64 0)) Bn 3 (.int .i64 0)) := Boxed.set _ HNA.out
        have HK2 : Hid (KeepX Bn W.heap.size W (((w6.alloc (.cells #[.slice pw m kw] 22)).alloc (.cells #[.slice pa m ka] 28)).setCell ⟨Bn, 0, none⟩ (.int .i64 0))) := (KeepX.of_below HBA.out (Nat.le_refl _)).set 0 _
        have HK6 : Hid (KeepX Bn w6.heap.size w6 (((w6.alloc (.cells #[.slice pw m kw] 22)).alloc (.cells #[.slice pa m ka] 28)).setCell ⟨Bn, 0, none⟩ (.int .i64 0))) := (KeepX.of_below HB6A.out (Nat.le_refl _)).set 0 _
        have HY12 : Hid (Boxed (((w6.alloc (.cells #[.slice pw m kw] 22)).alloc (.cells #[.slice pa m ka] 28)).setCell ⟨Bn, 0, none⟩ (.int .i64 0)) w6.heap.size 22 (.slice pw m kw)) := (heap_setCell_other _ ⟨Bn, 0, none⟩ w6.heap.size _ (by show w6.heap.size ≠ Bn; have := HLN.out; omega)).trans HX12.out
        have HY13 : Hid (Boxed (((w6.alloc (.cells #[.slice pw m kw] 22)).alloc (.cells #[.slice pa m ka] 28)).setCell ⟨Bn, 0, none⟩ (.int .i64 0)) (w6.heap.size + 1) 28 (.slice pa m ka)) := (heap_setCell_other _ ⟨Bn, 0, none⟩ (w6.heap.size + 1) _ (by show w6.heap.size + 1 ≠ Bn; have := HLN.out; omega)).trans HX13.out
        have HS1 : Hid ((((w6.alloc (.cells #[.slice pw m kw] 22)).alloc (.cells #[.slice pa m ka] 28)).setCell ⟨Bn, 0, none⟩ (.int .i64 0)).heap.size = w6.heap.size + 2) := by show _ = _; simp
        clear fnA cnA HX12 HX13 HBA HB6A HNA hsA
        generalize (((w6.alloc (.cells #[.slice pw m kw] 22)).alloc (.cells #[.slice pa m ka] 28)).setCell ⟨Bn, 0, none⟩ (.int .i64 0)) = W1 at *
        have HZ5 : Hid (Boxed W1 b5 28 (.slice p5 m k5)) := HK2.out.boxed (HKB.out.boxed HY5.out (by have := HSW0.out; omega) (by omega)) (by have := HSW0.out; omega) (by omega)
        have HZ6 : Hid (Boxed W1 b6 22 (.slice p6 m k6)) := HK2.out.boxed (HKB.out.boxed HY6.out (by have := HSW0.out; omega) (by omega)) (by have := HSW0.out; omega) (by omega)
        have HZR : Hid (Boxed W1 (w.heap.size + 1) 4 (.bool false)) := HK2.out.boxed (HKB.out.boxed HYR.out (by have := HSW0.out; have := HS0.out; omega) (by have := HS0.out; omega)) (by have := HSW0.out; have := HS0.out; omega) (by have := HS0.out; omega)
        have HZD : Hid (W1.heap[D]? = some (.deferred (some []))) := (HK2.out.block D (Array.getElem?_eq_some_iff.1 HD1.out).1 (by have := HDW.out; omega)).trans HD1.out
        have HZA5 : Hid (∀ i (h : i < ps.length), ∃ b off, p5 = some ⟨b, off, none⟩ ∧ b < w2.heap.size ∧ w1.heap.size ≤ b ∧ W1.cell? ⟨b, off + i, none⟩ = some (.int .i64 ps[i])) := fun i hi => by
          obtain ⟨b, off, e, h1, h2, h3⟩ := HA5.out i hi
          exact ⟨b, off, e, h1, h2, (HK2.out.cell (p := ⟨b, off + i, none⟩) (by show b < _; have := HSW0.out; omega) (by show b ≠ _; omega)).trans ((HKB.out.cell (p := ⟨b, off + i, none⟩) (by show b < _; have := HSW0.out; omega) (by show b ≠ _; omega)).trans h3)⟩
        have HZA6 : Hid (∀ i (h : i < vs.length), ∃ b off, p6 = some ⟨b, off, none⟩ ∧ b < w2.heap.size ∧ w1.heap.size ≤ b ∧ LiAt W1 b (off + i * 4) vs[i]) := fun i hi => by
          obtain ⟨b, off, e, h1, h2, h3⟩ := HA6.out i hi
          exact ⟨b, off, e, h1, h2, LiAt.keepX (h3.keepX HKB.out (by have := HSW0.out; omega) (by omega)) HK2.out (by have := HSW0.out; omega) (by omega)⟩
        have HZW : Hid (∀ i (h : i < vs.length), ∃ b off, pw = some ⟨b, off, none⟩ ∧ b < w6.heap.size ∧ b ≠ Bn ∧ LiAt W1 b (off + i * 4) vs[i]) := fun i hi => by
          obtain ⟨b, off, e, hb, hcl⟩ := HRW6.out i hi
          have hlo := (HOW6.out.lt b (by rw [e]; rfl)).1
          have hne : b ≠ Bn := by have := HLN.out; omega
          exact ⟨b, off, e, hb, hne, hcl.keepX HK6.out hb hne⟩
        have HZP : Hid (∀ i (h : i < ps.length), ∃ b off, pa = some ⟨b, off, none⟩ ∧ b < w6.heap.size ∧ b ≠ Bn ∧ W1.cell? ⟨b, off + i, none⟩ = some (.int .i64 ps[i])) := fun i hi => by
          obtain ⟨b, off, e, hb, hcl⟩ := HRA.out i hi
          have hlo := (HOA.out.lt b (by rw [e]; rfl)).1
          have hne : b ≠ Bn := by have := HLN.out; omega
          exact ⟨b, off, e, hb, hne, (HK6.out.cell (p := ⟨b, off + i, none⟩) hb hne).trans hcl⟩
        have HBW1 : Hid (Below w.heap.size w W1) := HBW.out.trans ((HK2.out.below (Nat.le_of_lt HLN.out)).mono (by have := HSZW.out; have := HS0.out; omega))
        have HDL : Hid (D < W1.heap.size) := (Array.getElem?_eq_some_iff.1 HZD.out).1
        clear HRW6 HRA HOA HOW6 HKB HY5 HY6 HYS HYR HA5 HA6 HBW0 HBW HB6 HD1 HN1 HK6 HK2 HNW0
        refine wpIn_wide (n := 9) |>.1 ?_
        refine wpIn_rangeFunc_ownH (N := m) rfl (by decide) (gf := 52) (lb := #[.pointer (some ⟨b5, 0, none⟩), .pointer (some ⟨b6, 0, none⟩)]) rfl trivial (enters_of Try.func52 (by kernel_rfl) rfl)
          (each_stops 8 (by decide) b5 b6 p5 p6 m k5 k6 ps vs HPN.out HM.out (by omega) Bn W1 HZ5.out.cell ⟨HZ5.out.lt, by omega⟩ HZ6.out.cell ⟨HZ6.out.lt, by omega⟩ (fun i hi => by obtain ⟨b, off, e, h1, h2, h3⟩ := HZA5.out i hi; exact ⟨b, off, e, World.block_lt_of_cell? _ _ h3, by omega, h3⟩) (fun i hi => by obtain ⟨b, off, e, h1, h2, h3⟩ := HZA6.out i hi; exact ⟨b, off, e, World.block_lt_of_cell? _ _ h3.1, by omega, h3⟩)) keepX_t (keepX_b (Nat.le_refl _)) (Below.refl _ _) (fun _ => rfl)
          (fun pre V => Boxed V Bn 3 (.int .i64 (pre.length : Int)) ∧ KeepX Bn W1.heap.size W1 V)
          (fun _ pre _ => ¬ pre <+: List.finRange m)
          (OwnFrom.and (Own.from (boxed_own Bn 3 (fun pre : List (Fin m) => .int .i64 (pre.length : Int))) _) (ownFrom_keepX (Nat.le_refl _) (Nat.le_refl _)))
          (fun _ _ _ _ _ hs _ _ => hs)
          ⟨HN2.out, KeepX.refl _ _ _⟩
          (fun y a' V => ∃ Bx, Bn < Bx ∧ V.heap[Bx]? = some (.cells #[.int .u64 (vs[y.1]?.getD default).u, .int .i64 (vs[y.1]?.getD default).n, .int .i64 (vs[y.1]?.getD default).r, .string (vs[y.1]?.getD default).s] 26 (0, 0)) ∧ a' = { tmps := #[.slice p n c, .int .u64 a, .int .i64 stop, undef, undef, .pointer (some ⟨w.heap.size, 0, none⟩), .pointer (some ⟨w.heap.size + 1, 0, none⟩), .int .u64 a, .slice (some ⟨g1, 0, none⟩) n k1, .func (.func 52) #[] #[.pointer (some ⟨b5, 0, none⟩), .pointer (some ⟨b6, 0, none⟩)], .int .i64 n, .pointer (some ⟨Bn, 0, none⟩), .pointer (some ⟨w6.heap.size, 0, none⟩), .pointer (some ⟨(w6.heap.size + 1), 0, none⟩), .int .i64 (ps[y.1]?.getD 0), .pointer (some ⟨Bx, 0, none⟩), .int .u64 a, .slice (some ⟨w0.heap.size, 0, none⟩) 0 0, .slice p n c, .slice (some ⟨g1, 0, none⟩) n k1, .slice (some ⟨g1, 0, none⟩) n k1, .int .u64 a, .func (.func 52) #[] #[.pointer (some ⟨b5, 0, none⟩), .pointer (some ⟨b6, 0, none⟩)], .func (.func 52) #[] #[.pointer (some ⟨b5, 0, none⟩), .pointer (some ⟨b6, 0, none⟩)], .bool false, .int .i64 n, .slice (some ⟨g1, 0, none⟩) n k1, .int .i64 n, .bool false, u29, u30, u31, u32, u33, u34, .func (.func 52) #[] #[.pointer (some ⟨b5, 0, none⟩), .pointer (some ⟨b6, 0, none⟩)], undef, undef, undef, undef, undef, undef, undef, .slice p n c, .int .u64 a, .slice pw m kw, .slice p n c, .int .u64 a, .slice pa m ka, .func (.func 52) #[] #[.pointer (some ⟨b5, 0, none⟩), .pointer (some ⟨b6, 0, none⟩)], .int .i64 (ps[y.1]?.getD 0), (vs[y.1]?.getD default).agg, undef, undef, undef, undef, undef, undef, undef, undef, undef, undef, undef, undef, undef, undef, undef, undef, undef, undef, undef, undef, undef, undef, undef, undef, undef, undef], defers := [] })
          (fun y a' => fun s A C row ⟨Bx, h1, h2, h3⟩ hg hrow => ⟨Bx, h1, cells_own Bx _ _ () A C row h2 hg (fun r e => (hrow r e).2), h3⟩)
          ?assign2 ?body2 ?done2 ?stop2
        case assign2 =>
          rintro l pre y V K ⟨hbn, hkx⟩ hK
          have HBN := Lib.hid hbn
          have HKX := Lib.hid hkx
          have HKK := Lib.hid hK
          clear hbn hkx hK
          unfold encK Li.agg
          gi_wp2
          exact HKK.out _ _ ((KeepsOthers.alloc _ _).from _) ((KeepX.refl _ _ _).alloc HKX.out.size _) ⟨HBN.out.alloc _, HKX.out.alloc HKX.out.size _⟩ ⟨V.heap.size, HBN.out.lt, World.alloc_heap_new V _, rfl⟩
        case stop2 =>
          rintro D2 cd pre V _ hp hx _
          exact absurd hp hx
        case done2 =>
          rintro D2 ys V hD2 rfl ⟨hbn, hkx⟩ hK2
          rw [List.length_finRange] at hbn
          have q1 := hbn.cell
          have q2 := (hkx.boxed HY12.out (by have := HS1.out; omega) (by have := HLN.out; omega)).cell
          have r1 := hkx.boxed HZR.out (by have := HS1.out; have := HDL.out; have := HDW.out; have := HSZW.out; have := HS0.out; omega) (by have := HSZW.out; have := HS0.out; omega)
          have r2 := r1.cell
          have r3 := r1.frozen
          have HR1 := Lib.hid r1
          have HKX := Lib.hid hkx
          have HK2' := Lib.hid hK2
          have HDD := Lib.hid hD2
          clear hbn hkx r1 hK2 hD2
          gi_wp2
          go_wp2_with fail
          have hlR := HR1.out.lt
          refine leaves_marks (fun V => V.cell? ⟨w.heap.size + 1, 0, none⟩ = some (.bool true) ∧ Below w.heap.size w V) (Bn + 1) ?_ ?_ [D2, D] _ ?_ ?_ ⟨World.cell?_setCell_same' V ⟨w.heap.size + 1, 0, none⟩ (.bool true) (by rw [r2]; rfl), (HBW1.out.trans ((HKX.out.below (show Bn ≤ W1.heap.size by have := HDL.out; have := HDW.out; omega)).mono (by have := HSZW.out; have := HS0.out; omega))).setCell (p := ⟨w.heap.size + 1, 0, none⟩) (by show w.heap.size ≤ w.heap.size + 1; omega) _⟩
          · rintro V' E o ⟨hc, hb⟩ hE _
            exact ⟨(World.cell?_of_block (a := ⟨w.heap.size + 1, 0, none⟩) (World.putObj_heap_other (by show w.heap.size + 1 ≠ E; have := HSZW.out; have := HS0.out; omega))).trans hc, hb.trans ⟨rfl, rfl, rfl, by simp, fun k hk => World.putObj_heap_other (by have := HSZW.out; have := HS0.out; omega)⟩⟩
          · rintro V' ⟨hc, hb⟩
            refine ⟨.bool true, ?_, rfl, hb⟩
            simp [results, Try.f5, go_sem, hc]
          · have h1 := HDL.out
            have h2 := HDD.out
            simp only [List.nodup_cons, List.mem_cons, List.not_mem_nil, or_false, not_false_eq_true, List.nodup_nil, and_true]
            omega
          · intro E hE
            simp only [List.mem_cons, List.not_mem_nil, or_false] at hE
            have h1 := HDL.out
            have h2 := HDD.out
            have h3 := HDW.out
            have h4 := HSZW.out
            have h5 := HS0.out
            rcases hE with rfl | rfl
            · exact ⟨by omega, (heap_setCell_other V ⟨w.heap.size + 1, 0, none⟩ E (.bool true) (by show E ≠ w.heap.size + 1; omega)).trans HK2'.out⟩
            · exact ⟨by omega, (heap_setCell_other V ⟨w.heap.size + 1, 0, none⟩ E (.bool true) (by show E ≠ w.heap.size + 1; omega)).trans ((HKX.out.block E h1 (by omega)).trans HZD.out)⟩
        case body2 =>
          rintro l pre y a' V hl _ ⟨hbn, hkx⟩ ⟨Bx, hBx, hcx, rfl⟩ hlt
          have hlv : pre.length < vs.length := by rw [HM.out]; exact hlt
          have hlp : pre.length < ps.length := by rw [HPN.out]; exact hlt
          obtain ⟨bw, ow, rfl, hbw1, hbw2, hcw⟩ := HZW.out pre.length hlv
          obtain ⟨ba, oa, rfl, hba1, hba2, hca⟩ := HZP.out pre.length hlp
          have hyv : y.1 < vs.length := by rw [HM.out]; exact y.2
          have hyp : y.1 < ps.length := by rw [HPN.out]; exact y.2
          rw [List.getElem?_eq_getElem hyv] at hcx
          rw [List.getElem?_eq_getElem hyv, List.getElem?_eq_getElem hyp]
          simp only [Option.getD_some] at hcx ⊢
          have s1 := HS1.out
          have v1 := hbn.cell
          have v2 := (hkx.boxed HY12.out (by omega) (by have := HLN.out; omega)).cell
          have v3 := (hkx.boxed HY13.out (by omega) (by have := HLN.out; omega)).cell
          have v4 := (hkx.cell (p := ⟨ba, oa + pre.length, none⟩) (by show ba < _; omega) hba2).trans hca
          have v5 := hcw.keepX hkx (by omega) hbw2
          have v6 := four_cells hcx
          have fr := hkx.boxed HZR.out (by have := HDL.out; have := HDW.out; have := HSZW.out; have := HS0.out; omega) (by have := HSZW.out; have := HS0.out; omega)
          have HFR := Lib.hid fr
          have hxl : Bx < V.heap.size := (Array.getElem?_eq_some_iff.1 hcx).1
          have hoz := HFV.out _ (List.getElem_mem hlv)
          have HBN := Lib.hid hbn
          have HKX := Lib.hid hkx
          have hkI : (pre.length : Int) < (m : Int) := by omega
          have hk0 : (0 : Int) ≤ (pre.length : Int) := by omega
          have hkM : (pre.length : Int) + 1 ≤ 9223372036854775807 := by omega
          have hge : ¬ ((m : Int) ≤ (pre.length : Int)) := by omega
          clear hbn hkx hcx hcw hca fr s1
          by_cases hy : y.1 = pre.length
          · have e1 : vs[y.1] = vs[pre.length] := by simp only [hy]
            have e2 : ps[y.1] = ps[pre.length] := by simp only [hy]
            rw [e1] at v6
            rw [e1, e2]
            obtain ⟨x, hx⟩ : ∃ x, vs[pre.length] = x := ⟨_, rfl⟩
            obtain ⟨zn, hzn⟩ : ∃ zn, ps[pre.length] = zn := ⟨_, rfl⟩
            rw [hx] at v5 v6 hoz ⊢
            rw [hzn] at v4 ⊢
            have hne := fun W => neqLine hoz W
            have hgu := lineGuard
            unfold Li.agg at hne ⊢
            clear hx hzn e1 e2
            gi_upto_region 19 with fail
            refine region_full (fun U : World => U.cell? ⟨Bn, 0, none⟩ = some (.int .i64 (pre.length : Int)) ∧ U.cell? ⟨w6.heap.size, 0, none⟩ = some (.slice (some ⟨bw, ow, none⟩) m kw) ∧ U.cell? ⟨w6.heap.size + 1, 0, none⟩ = some (.slice (some ⟨ba, oa, none⟩) m ka) ∧ U.cell? ⟨ba, oa + pre.length, none⟩ = some (.int .i64 zn) ∧ LiAt U bw (ow + pre.length * 4) x ∧ LiAt U Bx 0 x ∧ Hid (Below V.heap.size V U)) (((.slice p n c) :: (.int .u64 a) :: (.int .i64 stop) :: undef :: undef :: (.pointer (some ⟨w.heap.size, 0, none⟩)) :: (.pointer (some ⟨w.heap.size + 1, 0, none⟩)) :: (.int .u64 a) :: (.slice (some ⟨g1, 0, none⟩) n k1) :: (.func (.func 52) #[] #[.pointer (some ⟨b5, 0, none⟩), .pointer (some ⟨b6, 0, none⟩)]) :: (.int .i64 n) :: (.pointer (some ⟨Bn, 0, none⟩)) :: (.pointer (some ⟨w6.heap.size, 0, none⟩)) :: (.pointer (some ⟨(w6.heap.size + 1), 0, none⟩)) :: (.int .i64 zn) :: (.pointer (some ⟨Bx, 0, none⟩)) :: (.int .u64 a) :: (.slice (some ⟨w0.heap.size, 0, none⟩) 0 0) :: (.slice p n c) :: (.slice (some ⟨g1, 0, none⟩) n k1) :: (.slice (some ⟨g1, 0, none⟩) n k1) :: (.int .u64 a) :: (.func (.func 52) #[] #[.pointer (some ⟨b5, 0, none⟩), .pointer (some ⟨b6, 0, none⟩)]) :: (.func (.func 52) #[] #[.pointer (some ⟨b5, 0, none⟩), .pointer (some ⟨b6, 0, none⟩)]) :: (.bool false) :: (.int .i64 n) :: (.slice (some ⟨g1, 0, none⟩) n k1) :: (.int .i64 n) :: (.bool false) :: u29 :: u30 :: u31 :: u32 :: u33 :: u34 :: (.func (.func 52) #[] #[.pointer (some ⟨b5, 0, none⟩), .pointer (some ⟨b6, 0, none⟩)]) :: undef :: undef :: undef :: undef :: undef :: undef :: undef :: (.slice p n c) :: (.int .u64 a) :: (.slice (some ⟨bw, ow, none⟩) m kw) :: (.slice p n c) :: (.int .u64 a) :: (.slice (some ⟨ba, oa, none⟩) m ka) :: (.func (.func 52) #[] #[.pointer (some ⟨b5, 0, none⟩), .pointer (some ⟨b6, 0, none⟩)]) :: (.int .i64 zn) :: (.agg #[.int .u64 x.u, .int .i64 x.n, .int .i64 x.r, .string x.s]) :: (.int .i64 (pre.length : Int)) :: (.slice (some ⟨bw, ow, none⟩) m kw) :: (.int .i64 m) :: (.bool false) :: (.bool false) :: (.int .i64 zn) :: (.slice (some ⟨ba, oa, none⟩) m ka) :: (.int .i64 (pre.length : Int)) :: (.pointer (some ⟨ba, oa + pre.length, none⟩)) :: (.int .i64 zn) :: (.bool false) :: (.bool false) :: (.bool false) :: (.agg #[.int .u64 x.u, .int .i64 x.n, .int .i64 x.r, .string x.s]) :: (.slice (some ⟨bw, ow, none⟩) m kw) :: (.int .i64 (pre.length : Int)) :: (.pointer (some ⟨bw, ow + pre.length * 4, none⟩)) :: (.agg #[.int .u64 x.u, .int .i64 x.n, .int .i64 x.r, .string x.s]) :: (.bool false) :: (.bool false) :: undef :: undef :: undef :: undef :: undef :: undef :: [] : List Value).toArray) (by kernel_rfl) (by kernel_rfl) (by kernel_rfl) (by kernel_rfl) ?_ ?_ ?_
            · exact ⟨v1, v2, v3, v4, v5, v6, Below.drew (Below.refl _ _)⟩
            · refine full_want_k (by kernel_rfl) (fun V hV K hK => ?_) ?_; focus (obtain ⟨v1, v2, v3, v4, ⟨d0, d1, d2, d3⟩, ⟨e0, e1, e2, e3⟩, hbV⟩ := hV; unfold Oper.wpIn; refine ⟨fun _ _ => trivial, ?_⟩; rw [Oper.semAt_eq _ _ _ (by intro c h; cases h)]; go_simp; exact hK.out _ _ (by first | with_reducible rfl | (simp; done) | (simp; omega)) ⟨v1, v2, v3, v4, ⟨d0, d1, d2, d3⟩, ⟨e0, e1, e2, e3⟩, hbV⟩)
              refine full_want_k (by kernel_rfl) (fun V hV K hK => ?_) ?_; focus (obtain ⟨v1, v2, v3, v4, ⟨d0, d1, d2, d3⟩, ⟨e0, e1, e2, e3⟩, hbV⟩ := hV; unfold Oper.wpIn; refine ⟨fun _ _ => trivial, ?_⟩; rw [Oper.semAt_eq _ _ _ (by intro c h; cases h)]; go_simp; exact hK.out _ _ (by first | with_reducible rfl | (simp; done) | (simp; omega)) ⟨v1, v2, v3, v4, ⟨d0, d1, d2, d3⟩, ⟨e0, e1, e2, e3⟩, hbV⟩)
              refine full_want_k (by kernel_rfl) (fun V hV K hK => ?_) ?_; focus (obtain ⟨v1, v2, v3, v4, ⟨d0, d1, d2, d3⟩, ⟨e0, e1, e2, e3⟩, hbV⟩ := hV; unfold Oper.wpIn; refine ⟨fun _ _ => trivial, ?_⟩; rw [Oper.semAt_eq _ _ _ (by intro c h; cases h)]; go_simp; exact hK.out _ _ (by first | with_reducible rfl | (simp; done) | (simp; omega)) ⟨v1, v2, v3, v4, ⟨d0, d1, d2, d3⟩, ⟨e0, e1, e2, e3⟩, hbV⟩)
              refine full_want_k (by kernel_rfl) (fun V hV K hK => ?_) ?_; focus (obtain ⟨v1, v2, v3, v4, ⟨d0, d1, d2, d3⟩, ⟨e0, e1, e2, e3⟩, hbV⟩ := hV; unfold Oper.wpIn; refine ⟨fun _ _ => trivial, ?_⟩; rw [Oper.semAt_eq _ _ _ (by intro c h; cases h)]; go_simp; exact hK.out _ _ (by first | with_reducible rfl | (simp; done) | (simp; omega)) ⟨v1, v2, v3, v4, ⟨d0, d1, d2, d3⟩, ⟨e0, e1, e2, e3⟩, hbV⟩)
              refine full_want_k (by kernel_rfl) (fun V hV K hK => ?_) ?_; focus (obtain ⟨v1, v2, v3, v4, ⟨d0, d1, d2, d3⟩, ⟨e0, e1, e2, e3⟩, hbV⟩ := hV; unfold Oper.wpIn; refine ⟨fun _ _ => trivial, ?_⟩; rw [Oper.semAt_eq _ _ _ (by intro c h; cases h)]; go_simp; exact hK.out _ _ (by first | with_reducible rfl | (simp; done) | (simp; omega)) ⟨v1, v2, v3, v4, ⟨d0, d1, d2, d3⟩, ⟨e0, e1, e2, e3⟩, hbV⟩)
              refine full_want_k (by kernel_rfl) (fun V hV K hK => ?_) ?_; focus (obtain ⟨v1, v2, v3, v4, ⟨d0, d1, d2, d3⟩, ⟨e0, e1, e2, e3⟩, hbV⟩ := hV; unfold Oper.wpIn; refine ⟨fun _ _ => trivial, ?_⟩; rw [Oper.semAt_eq _ _ _ (by intro c h; cases h)]; go_simp; exact hK.out _ _ (by first | with_reducible rfl | (simp; done) | (simp; omega)) ⟨v1, v2, v3, v4, ⟨d0, d1, d2, d3⟩, ⟨e0, e1, e2, e3⟩, hbV⟩)
              refine full_want_k (by kernel_rfl) (fun V hV K hK => ?_) ?_; focus (obtain ⟨v1, v2, v3, v4, ⟨d0, d1, d2, d3⟩, ⟨e0, e1, e2, e3⟩, hbV⟩ := hV; unfold Oper.wpIn; refine ⟨fun _ _ => trivial, ?_⟩; rw [Oper.semAt_eq _ _ _ (by intro c h; cases h)]; go_simp; exact hK.out _ _ (by first | with_reducible rfl | (simp; done) | (simp; omega)) ⟨v1, v2, v3, v4, ⟨d0, d1, d2, d3⟩, ⟨e0, e1, e2, e3⟩, hbV⟩)
              refine full_want_k (by kernel_rfl) (fun V hV K hK => ?_) ?_; focus (obtain ⟨v1, v2, v3, v4, ⟨d0, d1, d2, d3⟩, ⟨e0, e1, e2, e3⟩, hbV⟩ := hV; unfold Oper.wpIn; refine ⟨fun _ _ => trivial, ?_⟩; rw [Oper.semAt_eq _ _ _ (by intro c h; cases h)]; go_simp; exact hK.out _ _ (by first | with_reducible rfl | (simp; done) | (simp; omega)) ⟨v1, v2, v3, v4, ⟨d0, d1, d2, d3⟩, ⟨e0, e1, e2, e3⟩, hbV⟩)
              refine full_want_k (by kernel_rfl) (fun V hV K hK => ?_) ?_; focus (obtain ⟨v1, v2, v3, v4, ⟨d0, d1, d2, d3⟩, ⟨e0, e1, e2, e3⟩, hbV⟩ := hV; unfold Oper.wpIn; refine ⟨fun _ _ => trivial, ?_⟩; rw [Oper.semAt_eq _ _ _ (by intro c h; cases h)]; go_simp; exact hK.out _ _ (by first | with_reducible rfl | (simp; done) | (simp; omega)) ⟨v1, v2, v3, v4, ⟨d0, d1, d2, d3⟩, ⟨e0, e1, e2, e3⟩, hbV⟩)
              refine full_want_k (by kernel_rfl) (fun V hV K hK => ?_) ?_; focus (obtain ⟨v1, v2, v3, v4, ⟨d0, d1, d2, d3⟩, ⟨e0, e1, e2, e3⟩, hbV⟩ := hV; unfold Oper.wpIn; refine ⟨fun _ _ => trivial, ?_⟩; rw [Oper.semAt_eq _ _ _ (by intro c h; cases h)]; go_simp; exact hK.out _ _ (by first | with_reducible rfl | (simp; done) | (simp; omega)) ⟨v1, v2, v3, v4, ⟨d0, d1, d2, d3⟩, ⟨e0, e1, e2, e3⟩, hbV⟩)
              refine full_want_k (by kernel_rfl) (fun V hV K hK => ?_) ?_; focus (obtain ⟨v1, v2, v3, v4, ⟨d0, d1, d2, d3⟩, ⟨e0, e1, e2, e3⟩, hbV⟩ := hV; unfold Oper.wpIn; refine ⟨fun _ _ => trivial, ?_⟩; rw [Oper.semAt_eq _ _ _ (by intro c h; cases h)]; go_simp; exact hK.out _ _ (by first | with_reducible rfl | (simp; done) | (simp; omega)) ⟨v1, v2, v3, v4, ⟨d0, d1, d2, d3⟩, ⟨e0, e1, e2, e3⟩, hbV⟩)
              refine full_want_k (by kernel_rfl) (fun V hV K hK => ?_) ?_; focus (obtain ⟨v1, v2, v3, v4, ⟨d0, d1, d2, d3⟩, ⟨e0, e1, e2, e3⟩, hbV⟩ := hV; unfold Oper.wpIn; refine ⟨fun _ _ => trivial, ?_⟩; rw [Oper.semAt_eq _ _ _ (by intro c h; cases h)]; go_simp; exact hK.out _ _ (by first | with_reducible rfl | (simp; done) | (simp; omega)) ⟨v1, v2, v3, v4, ⟨d0, d1, d2, d3⟩, ⟨e0, e1, e2, e3⟩, hbV⟩)
              refine full_want_k (by kernel_rfl) (fun V hV K hK => ?_) ?_; focus (obtain ⟨v1, v2, v3, v4, ⟨d0, d1, d2, d3⟩, ⟨e0, e1, e2, e3⟩, hbV⟩ := hV; unfold Oper.wpIn; refine ⟨fun _ _ => trivial, ?_⟩; rw [Oper.semAt_eq _ _ _ (by intro c h; cases h)]; go_simp; exact hK.out _ _ (by first | with_reducible rfl | (simp; done) | (simp; omega)) ⟨v1, v2, v3, v4, ⟨d0, d1, d2, d3⟩, ⟨e0, e1, e2, e3⟩, hbV⟩)
              refine full_want_k (by kernel_rfl) (fun V hV K hK => ?_) ?_; focus (obtain ⟨v1, v2, v3, v4, ⟨d0, d1, d2, d3⟩, ⟨e0, e1, e2, e3⟩, hbV⟩ := hV; unfold Oper.wpIn; refine ⟨fun _ _ => trivial, ?_⟩; rw [Oper.semAt_eq _ _ _ (by intro c h; cases h)]; go_simp; exact hK.out _ _ (by first | with_reducible rfl | (simp; done) | (simp; omega)) ⟨v1, v2, v3, v4, ⟨d0, d1, d2, d3⟩, ⟨e0, e1, e2, e3⟩, hbV⟩)
              refine full_want_k (by kernel_rfl) (fun V hV K hK => ?_) ?_; focus (obtain ⟨v1, v2, v3, v4, ⟨d0, d1, d2, d3⟩, ⟨e0, e1, e2, e3⟩, hbV⟩ := hV; unfold Oper.wpIn; refine ⟨fun _ _ => trivial, ?_⟩; rw [Oper.semAt_eq _ _ _ (by intro c h; cases h)]; go_simp; exact hK.out _ _ (by first | with_reducible rfl | (simp; done) | (simp; omega)) ⟨v1, v2, v3, v4, ⟨d0, d1, d2, d3⟩, ⟨e0, e1, e2, e3⟩, hbV⟩)
              refine full_want_k (by kernel_rfl) (fun V hV K hK => ?_) ?_; focus (obtain ⟨v1, v2, v3, v4, ⟨d0, d1, d2, d3⟩, ⟨e0, e1, e2, e3⟩, hbV⟩ := hV; unfold Oper.wpIn; refine ⟨fun _ _ => trivial, ?_⟩; rw [Oper.semAt_eq _ _ _ (by intro c h; cases h)]; go_simp; exact hK.out _ _ (by first | with_reducible rfl | (simp; done) | (simp; omega)) ⟨v1, v2, v3, v4, ⟨d0, d1, d2, d3⟩, ⟨e0, e1, e2, e3⟩, hbV⟩)
              refine full_want_k (by kernel_rfl) (fun V hV K hK => ?_) ?_; focus (obtain ⟨v1, v2, v3, v4, ⟨d0, d1, d2, d3⟩, ⟨e0, e1, e2, e3⟩, hbV⟩ := hV; unfold Oper.wpIn; refine ⟨fun _ _ => trivial, ?_⟩; rw [Oper.semAt_eq _ _ _ (by intro c h; cases h)]; go_simp; exact hK.out _ _ (by first | with_reducible rfl | (simp; done) | (simp; omega)) ⟨v1, v2, v3, v4, ⟨d0, d1, d2, d3⟩, ⟨e0, e1, e2, e3⟩, hbV⟩)
              refine full_want_k (by kernel_rfl) (fun V hV K hK => ?_) ?_; focus (obtain ⟨v1, v2, v3, v4, ⟨d0, d1, d2, d3⟩, ⟨e0, e1, e2, e3⟩, hbV⟩ := hV; unfold Oper.wpIn; refine ⟨fun _ _ => trivial, ?_⟩; rw [Oper.semAt_eq _ _ _ (by intro c h; cases h)]; go_simp; exact hK.out _ _ (by first | with_reducible rfl | (simp; done) | (simp; omega)) ⟨v1, v2, v3, v4, ⟨d0, d1, d2, d3⟩, ⟨e0, e1, e2, e3⟩, hbV⟩)
              refine full_want_k (by kernel_rfl) (fun V hV K hK => ?_) ?_; focus (obtain ⟨v1, v2, v3, v4, ⟨d0, d1, d2, d3⟩, ⟨e0, e1, e2, e3⟩, hbV⟩ := hV; unfold Oper.wpIn; refine ⟨fun _ _ => trivial, ?_⟩; rw [Oper.semAt_eq _ _ _ (by intro c h; cases h)]; go_simp; exact hK.out _ _ (by first | with_reducible rfl | (simp; done) | (simp; omega)) ⟨v1, v2, v3, v4, ⟨d0, d1, d2, d3⟩, ⟨e0, e1, e2, e3⟩, hbV⟩)
              refine full_want_k (by kernel_rfl) (fun V hV K hK => ?_) ?_; focus (obtain ⟨v1, v2, v3, v4, ⟨d0, d1, d2, d3⟩, ⟨e0, e1, e2, e3⟩, hbV⟩ := hV; unfold Oper.wpIn; refine ⟨fun _ _ => trivial, ?_⟩; rw [Oper.semAt_eq _ _ _ (by intro c h; cases h)]; go_simp; exact hK.out _ _ (by first | with_reducible rfl | (simp; done) | (simp; omega)) ⟨v1, v2, v3, v4, ⟨d0, d1, d2, d3⟩, ⟨e0, e1, e2, e3⟩, hbV⟩)
              exact trivial
            · rintro V' ⟨z1, _, _, _, _, _, hbV⟩
              (try dsimp only [Exit.then])
              have hbx : Boxed V' Bn 3 (.int .i64 (pre.length : Int)) := (hbV.out.block Bn HBN.out.lt).trans HBN.out
              have zf := hbx.frozen
              have HBX := Lib.hid (hbx.set (.int .i64 ((pre.length : Int) + 1)))
              have HKX2 := Lib.hid (((KeepX.of_below (B := Bn) hbV.out HKX.out.size).set 0 (.int .i64 ((pre.length : Int) + 1))))
              have HKF := Lib.hid (((keeps_below hbV.out).trans (KeepsOthers.setCell V' ⟨Bn, 0, none⟩ (.int .i64 ((pre.length : Int) + 1)))).from W1.heap.size)
              clear hbx hbV v1 v2 v3 v4 v5 v6
              gi_wp2
              refine ⟨HKF.out, HKX2.out, ?_, HKX.out.trans HKX2.out⟩
              rw [List.length_append]
              exact HBX.out
          · have hzne : ps[y.1] ≠ ps[pre.length] := fun e => by
              obtain ⟨q1, hq1, eq1, _, er1⟩ := HPL.out y.1 hyp
              obtain ⟨q2, hq2, eq2, _, er2⟩ := HPL.out pre.length hlp
              rw [eq1, eq2] at e
              have e' : q1 = q2 := by omega
              subst e'
              exact hy (er1.symm.trans er2)
            have hbad : ¬ (pre ++ [y]) <+: List.finRange m := fun hpf => by
              have h1 := List.IsPrefix.getElem hpf (i := pre.length) (by simp)
              rw [List.getElem_append_right (Nat.le_refl _)] at h1
              simp only [Nat.sub_self, List.getElem_cons_zero, List.getElem_finRange] at h1
              exact hy (by rw [h1]; rfl)
            have HBAD := Lib.hid hbad
            clear hbad
            obtain ⟨x, hx⟩ : ∃ x, vs[pre.length] = x := ⟨_, rfl⟩
            obtain ⟨zn, hzn⟩ : ∃ zn, ps[pre.length] = zn := ⟨_, rfl⟩
            obtain ⟨yx, hyx⟩ : ∃ yx, vs[y.1] = yx := ⟨_, rfl⟩
            obtain ⟨zi, hzi⟩ : ∃ zi, ps[y.1] = zi := ⟨_, rfl⟩
            rw [hx] at v5
            rw [hzn] at v4 hzne
            rw [hzi] at hzne ⊢
            rw [hyx] at v6 ⊢
            have hzb : (zi == zn) = false := beq_false_of_ne hzne
            unfold Li.agg
            clear hx hzn hyx hzi
            gi_upto_region 19 with fail
            refine region_full (fun U : World => U.cell? ⟨Bn, 0, none⟩ = some (.int .i64 (pre.length : Int)) ∧ U.cell? ⟨w6.heap.size, 0, none⟩ = some (.slice (some ⟨bw, ow, none⟩) m kw) ∧ U.cell? ⟨w6.heap.size + 1, 0, none⟩ = some (.slice (some ⟨ba, oa, none⟩) m ka) ∧ U.cell? ⟨ba, oa + pre.length, none⟩ = some (.int .i64 zn) ∧ LiAt U bw (ow + pre.length * 4) x ∧ LiAt U Bx 0 yx ∧ Hid (Below V.heap.size V U)) (((.slice p n c) :: (.int .u64 a) :: (.int .i64 stop) :: undef :: undef :: (.pointer (some ⟨w.heap.size, 0, none⟩)) :: (.pointer (some ⟨w.heap.size + 1, 0, none⟩)) :: (.int .u64 a) :: (.slice (some ⟨g1, 0, none⟩) n k1) :: (.func (.func 52) #[] #[.pointer (some ⟨b5, 0, none⟩), .pointer (some ⟨b6, 0, none⟩)]) :: (.int .i64 n) :: (.pointer (some ⟨Bn, 0, none⟩)) :: (.pointer (some ⟨w6.heap.size, 0, none⟩)) :: (.pointer (some ⟨(w6.heap.size + 1), 0, none⟩)) :: (.int .i64 zi) :: (.pointer (some ⟨Bx, 0, none⟩)) :: (.int .u64 a) :: (.slice (some ⟨w0.heap.size, 0, none⟩) 0 0) :: (.slice p n c) :: (.slice (some ⟨g1, 0, none⟩) n k1) :: (.slice (some ⟨g1, 0, none⟩) n k1) :: (.int .u64 a) :: (.func (.func 52) #[] #[.pointer (some ⟨b5, 0, none⟩), .pointer (some ⟨b6, 0, none⟩)]) :: (.func (.func 52) #[] #[.pointer (some ⟨b5, 0, none⟩), .pointer (some ⟨b6, 0, none⟩)]) :: (.bool false) :: (.int .i64 n) :: (.slice (some ⟨g1, 0, none⟩) n k1) :: (.int .i64 n) :: (.bool false) :: u29 :: u30 :: u31 :: u32 :: u33 :: u34 :: (.func (.func 52) #[] #[.pointer (some ⟨b5, 0, none⟩), .pointer (some ⟨b6, 0, none⟩)]) :: undef :: undef :: undef :: undef :: undef :: undef :: undef :: (.slice p n c) :: (.int .u64 a) :: (.slice (some ⟨bw, ow, none⟩) m kw) :: (.slice p n c) :: (.int .u64 a) :: (.slice (some ⟨ba, oa, none⟩) m ka) :: (.func (.func 52) #[] #[.pointer (some ⟨b5, 0, none⟩), .pointer (some ⟨b6, 0, none⟩)]) :: (.int .i64 zi) :: (.agg #[.int .u64 yx.u, .int .i64 yx.n, .int .i64 yx.r, .string yx.s]) :: (.int .i64 (pre.length : Int)) :: (.slice (some ⟨bw, ow, none⟩) m kw) :: (.int .i64 m) :: (.bool false) :: (.bool false) :: (.int .i64 zi) :: (.slice (some ⟨ba, oa, none⟩) m ka) :: (.int .i64 (pre.length : Int)) :: (.pointer (some ⟨ba, oa + pre.length, none⟩)) :: (.int .i64 zn) :: (.bool true) :: (.bool true) :: (.bool true) :: undef :: undef :: undef :: undef :: undef :: undef :: (.bool true) :: undef :: undef :: undef :: undef :: undef :: undef :: [] : List Value).toArray) (by kernel_rfl) (by kernel_rfl) (by kernel_rfl) (by kernel_rfl) ?_ ?_ ?_
            · exact ⟨v1, v2, v3, v4, v5, v6, Below.drew (Below.refl _ _)⟩
            · refine full_want_k (by kernel_rfl) (fun V hV K hK => ?_) ?_; focus (obtain ⟨v1, v2, v3, v4, ⟨d0, d1, d2, d3⟩, ⟨e0, e1, e2, e3⟩, hbV⟩ := hV; unfold Oper.wpIn; refine ⟨fun _ _ => trivial, ?_⟩; rw [Oper.semAt_eq _ _ _ (by intro c h; cases h)]; go_simp; exact hK.out _ _ (by first | with_reducible rfl | (simp; done) | (simp; omega)) ⟨v1, v2, v3, v4, ⟨d0, d1, d2, d3⟩, ⟨e0, e1, e2, e3⟩, hbV⟩)
              refine full_want_k (by kernel_rfl) (fun V hV K hK => ?_) ?_; focus (obtain ⟨v1, v2, v3, v4, ⟨d0, d1, d2, d3⟩, ⟨e0, e1, e2, e3⟩, hbV⟩ := hV; unfold Oper.wpIn; refine ⟨fun _ _ => trivial, ?_⟩; rw [Oper.semAt_eq _ _ _ (by intro c h; cases h)]; go_simp; exact hK.out _ _ (by first | with_reducible rfl | (simp; done) | (simp; omega)) ⟨v1, v2, v3, v4, ⟨d0, d1, d2, d3⟩, ⟨e0, e1, e2, e3⟩, hbV⟩)
              refine full_want_k (by kernel_rfl) (fun V hV K hK => ?_) ?_; focus (obtain ⟨v1, v2, v3, v4, ⟨d0, d1, d2, d3⟩, ⟨e0, e1, e2, e3⟩, hbV⟩ := hV; unfold Oper.wpIn; refine ⟨fun _ _ => trivial, ?_⟩; rw [Oper.semAt_eq _ _ _ (by intro c h; cases h)]; go_simp; exact hK.out _ _ (by first | with_reducible rfl | (simp; done) | (simp; omega)) ⟨v1, v2, v3, v4, ⟨d0, d1, d2, d3⟩, ⟨e0, e1, e2, e3⟩, hbV⟩)
              refine full_want_k (by kernel_rfl) (fun V hV K hK => ?_) ?_; focus (obtain ⟨v1, v2, v3, v4, ⟨d0, d1, d2, d3⟩, ⟨e0, e1, e2, e3⟩, hbV⟩ := hV; unfold Oper.wpIn; refine ⟨fun _ _ => trivial, ?_⟩; rw [Oper.semAt_eq _ _ _ (by intro c h; cases h)]; go_simp; exact hK.out _ _ (by first | with_reducible rfl | (simp; done) | (simp; omega)) ⟨v1, v2, v3, v4, ⟨d0, d1, d2, d3⟩, ⟨e0, e1, e2, e3⟩, hbV⟩)
              refine full_want_k (by kernel_rfl) (fun V hV K hK => ?_) ?_; focus (obtain ⟨v1, v2, v3, v4, ⟨d0, d1, d2, d3⟩, ⟨e0, e1, e2, e3⟩, hbV⟩ := hV; unfold Oper.wpIn; refine ⟨fun _ _ => trivial, ?_⟩; rw [Oper.semAt_eq _ _ _ (by intro c h; cases h)]; go_simp; exact hK.out _ _ (by first | with_reducible rfl | (simp; done) | (simp; omega)) ⟨v1, v2, v3, v4, ⟨d0, d1, d2, d3⟩, ⟨e0, e1, e2, e3⟩, hbV⟩)
              refine full_want_k (by kernel_rfl) (fun V hV K hK => ?_) ?_; focus (obtain ⟨v1, v2, v3, v4, ⟨d0, d1, d2, d3⟩, ⟨e0, e1, e2, e3⟩, hbV⟩ := hV; unfold Oper.wpIn; refine ⟨fun _ _ => trivial, ?_⟩; rw [Oper.semAt_eq _ _ _ (by intro c h; cases h)]; go_simp; exact hK.out _ _ (by first | with_reducible rfl | (simp; done) | (simp; omega)) ⟨v1, v2, v3, v4, ⟨d0, d1, d2, d3⟩, ⟨e0, e1, e2, e3⟩, hbV⟩)
              refine full_want_k (by kernel_rfl) (fun V hV K hK => ?_) ?_; focus (obtain ⟨v1, v2, v3, v4, ⟨d0, d1, d2, d3⟩, ⟨e0, e1, e2, e3⟩, hbV⟩ := hV; unfold Oper.wpIn; refine ⟨fun _ _ => trivial, ?_⟩; rw [Oper.semAt_eq _ _ _ (by intro c h; cases h)]; go_simp; exact hK.out _ _ (by first | with_reducible rfl | (simp; done) | (simp; omega)) ⟨v1, v2, v3, v4, ⟨d0, d1, d2, d3⟩, ⟨e0, e1, e2, e3⟩, hbV⟩)
              refine full_want_k (by kernel_rfl) (fun V hV K hK => ?_) ?_; focus (obtain ⟨v1, v2, v3, v4, ⟨d0, d1, d2, d3⟩, ⟨e0, e1, e2, e3⟩, hbV⟩ := hV; unfold Oper.wpIn; refine ⟨fun _ _ => trivial, ?_⟩; rw [Oper.semAt_eq _ _ _ (by intro c h; cases h)]; go_simp; exact hK.out _ _ (by first | with_reducible rfl | (simp; done) | (simp; omega)) ⟨v1, v2, v3, v4, ⟨d0, d1, d2, d3⟩, ⟨e0, e1, e2, e3⟩, hbV⟩)
              refine full_want_k (by kernel_rfl) (fun V hV K hK => ?_) ?_; focus (obtain ⟨v1, v2, v3, v4, ⟨d0, d1, d2, d3⟩, ⟨e0, e1, e2, e3⟩, hbV⟩ := hV; unfold Oper.wpIn; refine ⟨fun _ _ => trivial, ?_⟩; rw [Oper.semAt_eq _ _ _ (by intro c h; cases h)]; go_simp; exact hK.out _ _ (by first | with_reducible rfl | (simp; done) | (simp; omega)) ⟨v1, v2, v3, v4, ⟨d0, d1, d2, d3⟩, ⟨e0, e1, e2, e3⟩, hbV⟩)
              refine full_want_k (by kernel_rfl) (fun V hV K hK => ?_) ?_; focus (obtain ⟨v1, v2, v3, v4, ⟨d0, d1, d2, d3⟩, ⟨e0, e1, e2, e3⟩, hbV⟩ := hV; unfold Oper.wpIn; refine ⟨fun _ _ => trivial, ?_⟩; rw [Oper.semAt_eq _ _ _ (by intro c h; cases h)]; go_simp; exact hK.out _ _ (by first | with_reducible rfl | (simp; done) | (simp; omega)) ⟨v1, v2, v3, v4, ⟨d0, d1, d2, d3⟩, ⟨e0, e1, e2, e3⟩, hbV⟩)
              refine full_want_k (by kernel_rfl) (fun V hV K hK => ?_) ?_; focus (obtain ⟨v1, v2, v3, v4, ⟨d0, d1, d2, d3⟩, ⟨e0, e1, e2, e3⟩, hbV⟩ := hV; unfold Oper.wpIn; refine ⟨fun _ _ => trivial, ?_⟩; rw [Oper.semAt_eq _ _ _ (by intro c h; cases h)]; go_simp; exact hK.out _ _ (by first | with_reducible rfl | (simp; done) | (simp; omega)) ⟨v1, v2, v3, v4, ⟨d0, d1, d2, d3⟩, ⟨e0, e1, e2, e3⟩, hbV⟩)
              refine full_want_k (by kernel_rfl) (fun V hV K hK => ?_) ?_; focus (obtain ⟨v1, v2, v3, v4, ⟨d0, d1, d2, d3⟩, ⟨e0, e1, e2, e3⟩, hbV⟩ := hV; unfold Oper.wpIn; refine ⟨fun _ _ => trivial, ?_⟩; rw [Oper.semAt_eq _ _ _ (by intro c h; cases h)]; go_simp; exact hK.out _ _ (by first | with_reducible rfl | (simp; done) | (simp; omega)) ⟨v1, v2, v3, v4, ⟨d0, d1, d2, d3⟩, ⟨e0, e1, e2, e3⟩, hbV⟩)
              refine full_want_k (by kernel_rfl) (fun V hV K hK => ?_) ?_; focus (obtain ⟨v1, v2, v3, v4, ⟨d0, d1, d2, d3⟩, ⟨e0, e1, e2, e3⟩, hbV⟩ := hV; unfold Oper.wpIn; refine ⟨fun _ _ => trivial, ?_⟩; rw [Oper.semAt_eq _ _ _ (by intro c h; cases h)]; go_simp; exact hK.out _ _ (by first | with_reducible rfl | (simp; done) | (simp; omega)) ⟨v1, v2, v3, v4, ⟨d0, d1, d2, d3⟩, ⟨e0, e1, e2, e3⟩, hbV⟩)
              refine full_skip (by kernel_rfl) (fun _ _ _ => trivial) (by kernel_rfl) ?_
              refine full_skip (by kernel_rfl) (fun _ _ _ => trivial) (by kernel_rfl) ?_
              refine full_skip (by kernel_rfl) (fun _ _ _ => trivial) (by kernel_rfl) ?_
              refine full_skip (by kernel_rfl) (fun _ _ _ => trivial) (by kernel_rfl) ?_
              refine full_skip (by kernel_rfl) (fun _ _ _ => trivial) (by kernel_rfl) ?_
              refine full_skip (by kernel_rfl) (fun _ _ _ => trivial) (by kernel_rfl) ?_
              refine full_want_k (by kernel_rfl) (fun V hV K hK => ?_) ?_; focus (obtain ⟨v1, v2, v3, v4, ⟨d0, d1, d2, d3⟩, ⟨e0, e1, e2, e3⟩, hbV⟩ := hV; unfold Oper.wpIn; refine ⟨fun _ _ => trivial, ?_⟩; rw [Oper.semAt_eq _ _ _ (by intro c h; cases h)]; go_simp; exact hK.out _ _ (by first | with_reducible rfl | (simp; done) | (simp; omega)) ⟨v1, v2, v3, v4, ⟨d0, d1, d2, d3⟩, ⟨e0, e1, e2, e3⟩, hbV⟩)
              exact trivial
            · rintro V' ⟨_, _, _, _, _, _, hbV⟩
              (try dsimp only [Exit.then])
              have hbx : Boxed V' (w.heap.size + 1) 4 (.bool false) := (hbV.out.block _ HFR.out.lt).trans HFR.out
              have zf := hbx.frozen
              have zc := hbx.cell
              have HKF := Lib.hid (((keeps_below hbV.out).trans (KeepsOthers.setCell V' ⟨w.heap.size + 1, 0, none⟩ (.bool false))).from W1.heap.size)
              clear hbx hbV v1 v2 v3 v4 v5 v6
              gi_wp2
              exact ⟨HKF.out, HBAD.out⟩
end Go.Proofs.Ytdpikdkhemhmdaa
