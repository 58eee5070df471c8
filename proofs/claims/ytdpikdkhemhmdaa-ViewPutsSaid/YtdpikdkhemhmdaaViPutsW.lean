/- ViewPuts, by a walk over the contracts. -/
import Derived.Test.YtdpikdkhemhmdaaViSpoil
import Derived.Test.YtdpikdkhemhmdaaViPutsC
import Derived.Test.YtdpikdkhemhmdaaViLabels
import Derived.Test.YtdpikdkhemhmdaaViRefLab
import Derived.Test.YtdpikdkhemhmdaaViRefOf
import Derived.Test.YtdpikdkhemhmdaaLbLists
namespace Go.Proofs.Ytdpikdkhemhmdaa
open Go Go.RowKit

theorem LabRow.but {S : Nat → Prop} {w W : World} {p : Option Addr} {xs : List Nat} (h : LabRow w p xs) (hk : KeptBut S w W) (hS : ∀ b off, p = some ⟨b, off, none⟩ → ¬ S b) : LabRow W p xs := fun i hi => by
  obtain ⟨b, off, e, hb, h0⟩ := h i hi
  exact ⟨b, off, e, Nat.lt_of_lt_of_le hb hk.size, (World.cell?_of_block (a := ⟨b, off + i, none⟩) (hk.block b hb (hS b off e))).trans h0⟩
theorem lab_num {w : World} {p : Option Addr} {cs : List Nat} (h : LabRow w p cs) : NumRow .u64 w p (cs.map fun c : Nat => (c : Int)) := fun i hi => by
  obtain ⟨b, off, e, hb, h0⟩ := h i (by simpa using hi)
  exact ⟨b, off, e, hb, by rw [h0, List.getElem_map]⟩
theorem labels_cmp (w : World) (p q : Option Addr) (n c d : Nat) (cs : List Nat) (hn : cs.length = n) (hl : n ≤ 17592186044416) (hp : LabRow w p cs) (hq : LabRow w q cs) :
    Calls Try.prog 30 #[.slice p n c, .slice q n d] w fun e w' => e = .returned (.bool true) ∧ Below w.heap.size w w' :=
  labels_any w p q n n c d (cs.map fun c : Nat => (c : Int)) (lab_num hp) (lab_num hq) (by rw [List.length_map]; exact hn) (by rw [List.length_map]; exact hn) (by rw [List.length_map]; omega)
theorem once_le (xs : List Li) {n : Nat} (hn : xs.length = n) : (onceC (labsOf xs)).length ≤ n := by
  have := onceC_len (labsOf xs)
  rw [labs_len, hn] at this; exact this
set_option maxRecDepth 100000 in
set_option maxHeartbeats 16000000 in
theorem viewPuts_any (w : World) (pa pb : Option Addr) (na nb ca cb : Nat) (xs ys : List Li) (a : Nat) (hn : xs.length = na) (hm : ys.length = nb) (hna : na ≤ 3518437208780) (hnb : nb ≤ 3518437208780) (hr : LiRow w pa xs) (hq : LiRow w pb ys) (hnil0 : pa = none → na = 0 ∧ ca = 0) (hnil1 : pb = none → nb = 0 ∧ cb = 0) (hf : ∀ x ∈ xs, LiOk x) (hg : ∀ x ∈ ys, LiOk x) (ha : a < 18446744073709551616) :
    Calls Try.prog 6 #[.slice pa na ca, .slice pb nb cb, .int .u64 a] w fun e w' => e = .returned (.bool true) ∧ Below w.heap.size w w' := by
  have hu : ∀ x ∈ xs, x.u < 18446744073709551616 := fun x hx => (hf x hx).u
  have hu' : ∀ x ∈ ys, x.u < 18446744073709551616 := fun x hx => (hg x hx).u
  obtain ⟨i0, hi, hz0, hz1, hz2⟩ := li_parts
  obtain ⟨j0, ji, jz0, jz1, jz2⟩ := info_parts labInfo
  have hTl := putL_le a xs ys hn
  have hCl := once_le xs hn
  have hE1 := putE_le a xs ys
  have FT := Lib.hid (putL_ok (a := a) hf hg)
  have CRP := Lib.hid (fun (W : World) (hW : Below w.heap.size w W) => refPut_any W pa pb na ca nb cb xs ys hn (by omega) hm (hr.later hW) (hq.later hW) hu a ha)
  have CVP := Lib.hid (fun (W : World) q k (hW : Below w.heap.size w W) (hv : LiRow W q ys) => put_any W pa q na ca nb k xs ys hn (by omega) hm (hr.later hW) hv hnil0 hu a ha)
  have CLB := Lib.hid (fun (W : World) (hW : Below w.heap.size w W) => labelsOf_any W pa na ca xs hn (by omega) (hr.later hW))
  have CRL := Lib.hid (fun (W : World) (hW : Below w.heap.size w W) => (show Calls Try.prog 31 #[.slice pa na ca] W (GivesLab W (onceC (labsOf xs))) from refLabels_any W pa na ca xs hn (by omega) (hr.later hW) hu))
  have CLI := Lib.hid (fun (W : World) q k (hq' : LiRow W q ys) (hW : Below w.heap.size w W) => refLines_any W q pb nb k cb ys hm (by omega) hq' (hq.later hW) hg)
  have CAL := Lib.hid (fun (W : World) (hW : Below w.heap.size w W) => alike_any W pa pb na nb ca cb xs ys a hn hm (by omega) (by omega) (hr.later hW) (hq.later hW) hf hg ha)
  have CO1 := Lib.hid (fun (W : World) (hW : Below w.heap.size w W) => refOf_any W pa na ca xs hn (by omega) (hr.later hW) hu a ha)
  have CO2 := Lib.hid (fun (W : World) (hW : Below w.heap.size w W) => refOf_any W pb nb cb ys hm (by omega) (hq.later hW) hu' a ha)
  have CDL := Lib.hid (fun (W : World) p1 p2 k1 k2 (h1 : LiRow W p1 (xs.filter (seenB a))) (h2 : LiRow W p2 (ys.filter (seenB a))) => refLinesD_any W p1 p2 (xs.filter (seenB a)).length (ys.filter (seenB a)).length k1 k2 (xs.filter (seenB a)) (ys.filter (seenB a)) h1 h2 rfl rfl (Nat.le_trans (filter_le xs (seenB a) (Nat.le_of_eq hn)) (by omega)) (Nat.le_trans (filter_le ys (seenB a) (Nat.le_of_eq hm)) (by omega)) (filter_ok hf) (filter_ok hg))
  have hnl := hnil1
  have HN := Lib.hid hm
  have HR := Lib.hid hq
  clear hn hm hr hq hf hg hu hu' hnil0 hnil1
  generalize putL a xs ys = T at *
  generalize putE a xs ys = E at *
  generalize onceC (labsOf xs) = C at *
  generalize hvs : xs.filter (seenB a) = vs at *
  generalize hws : ys.filter (seenB a) = ws at *
  clear hvs hws
  obtain ⟨m, hm⟩ : ∃ m, T.length = m := ⟨_, rfl⟩
  obtain ⟨h, hh⟩ : ∃ h, C.length = h := ⟨_, rfl⟩
  rw [hm] at hTl
  rw [hh] at hCl
  have HM := Lib.hid hm
  have HH := Lib.hid hh
  clear hm hh
  have hE0 : (0 : Int) ≤ (E : Int) := by omega
  have hown0 := World.ownsRow_made (e := 26) (size := 4) (base := w.heap.size) w #[] 0 (Nat.le_refl _) (by unfold maxLen; omega) rfl
  have hbb0 : Below w.heap.size w (w.alloc (.cells #[] 26)) := (Below.refl _ w).alloc (Nat.le_refl _) _
  have HS7 := Lib.hid (Li.vals_one seven)
  go_enter Try.func6, Try.ntmps6
  go_wp2_with (first
    | (at_builtin; refine app_liS rfl _ _ 22 rfl w.heap.size 26 i0 (.agg #[.int .u64 0, .int .i64 0, .int .i64 0, .string ⟨#[]⟩]) Try.underlying22 hi hz0 hz1 hz2 rfl (.slice (some ⟨w.heap.size, 0, none⟩) 0 0) 0 [] rfl hown0 pb nb cb ys rfl HN.out (HR.out.later hbb0) hnl (by omega) (by simp) ?_; intro v0 w0 own0 hgr0 hpt0; have hb0 := hbb0.grown hgr0 (by simp) (fun g hg => (hown0.lt g hg).1); rw [Nat.zero_add, List.nil_append] at own0; have HO0 := Lib.hid own0; have HB0 := Lib.hid hb0; have hsz0 := hb0.size; clear hown0 own0 hgr0 hpt0 hb0)
    | (at_builtin; refine wpList_append_own _ rfl _ _ 22 rfl w.heap.size 26 i0 (.agg #[.int .u64 0, .int .i64 0, .int .i64 0, .string ⟨#[]⟩]) 4 40 Try.underlying22 hi hz0 hz1 hz2 rfl (by decide) v0 nb (liCells ys) rfl (HO0.out.alloc _) ⟨w0.heap.size, 0, none⟩ 1 1 seven.vals rfl rfl (cells_four w0 seven _) HS7.out (by unfold maxLen; omega) (by omega) (by simp; omega) ?_; intro v1 w1 own1 hgr1 _; obtain ⟨gi, ki, rfl⟩ := ownsRow_succ own1; have hb1 := (HB0.out.alloc hsz0 (.cells seven.vals.toArray 26)).grown hgr1 (by simp; omega) (fun g hg => (HO0.out.lt g hg).1); rw [← liCells_snoc] at own1; have hki := own_cap own1; have hgi1 := (own1.lt gi rfl).2; have hr1 := li_at (by rw [List.length_append, HN.out]; rfl) own1; have HB1 := Lib.hid hb1; have HR1 := Lib.hid hr1; clear own1 hgr1 hb1 hr1 HO0))
  have HI7 := Lib.hid HR1.out
  have HGI : Hid (∀ b off, (some ⟨gi, 0, none⟩ : Option Addr) = some ⟨b, off, none⟩ → b < w1.heap.size) := fun b off e => by cases e; exact hgi1
  clear HR1
  have z1 := HB1.out.size
  have c2 := CRP.out w1 HB1.out
  go_wp2_with fail
  refine c2.mono ?_
  rintro e w2 ⟨hb2, p2, k2, rfl, r2, o2⟩
  rw [HM.out] at o2
  rw [HM.out]
  have z2 := hb2.size
  have HI7 := Lib.hid (HI7.out.later hb2)
  have HB2 := Lib.hid (HB1.out.trans (hb2.mono HB1.out.size))
  have RW := Lib.hid r2
  have IVRW := Lib.hid (own_iv o2)
  clear hb2 r2 o2 c2 HB1
  have c3 := CVP.out w2 (some ⟨gi, 0, none⟩) ki HB2.out (liRow_prefix HI7.out)
  go_wp2_with fail
  refine c3.mono ?_
  rintro e w3 ⟨hb3, p3, k3, rfl, r3, o3⟩
  rw [HM.out] at o3
  rw [HM.out]
  have z3 := hb3.size
  have HI7 := Lib.hid (HI7.out.later hb3)
  have RW := Lib.hid (RW.out.later hb3)
  have HB3 := Lib.hid (HB2.out.trans (hb3.mono HB2.out.size))
  have RA := Lib.hid r3
  have IVRA := Lib.hid (own_iv o3)
  have ORA := Lib.hid o3
  clear hb3 r3 o3 c3 HB2
  have c4 := CVP.out w3 (some ⟨gi, 0, none⟩) ki HB3.out (liRow_prefix HI7.out)
  go_wp2_with fail
  refine c4.mono ?_
  rintro e w4 ⟨hb4, p4, k4, rfl, r4, o4⟩
  rw [HM.out] at o4
  rw [HM.out]
  have z4 := hb4.size
  have HI7 := Lib.hid (HI7.out.later hb4)
  have RW := Lib.hid (RW.out.later hb4)
  have RA := Lib.hid (RA.out.later hb4)
  have ORA := Lib.hid (row_later ORA.out hb4)
  have HB4 := Lib.hid (HB3.out.trans (hb4.mono HB3.out.size))
  have RB := Lib.hid r4
  have IVRB := Lib.hid (own_iv o4)
  clear hb4 r4 o4 c4 HB3
  have c5 := CLB.out w4 HB4.out
  go_wp2_with fail
  refine c5.mono ?_
  rintro e w5 ⟨hb5, p5, k5, rfl, r5, o5⟩
  rw [HH.out] at o5
  rw [HH.out]
  have z5 := hb5.size
  have HI7 := Lib.hid (HI7.out.later hb5)
  have RW := Lib.hid (RW.out.later hb5)
  have RA := Lib.hid (RA.out.later hb5)
  have RB := Lib.hid (RB.out.later hb5)
  have ORA := Lib.hid (row_later ORA.out hb5)
  have HB5 := Lib.hid (HB4.out.trans (hb5.mono HB4.out.size))
  have RX := Lib.hid r5
  have IVRX := Lib.hid (own_iv o5)
  have ORX := Lib.hid o5
  clear hb5 r5 o5 c5 HB4
  have c6 := CLB.out w5 HB5.out
  go_wp2_with fail
  refine c6.mono ?_
  rintro e w6 ⟨hb6, p6, k6, rfl, r6, o6⟩
  rw [HH.out] at o6
  rw [HH.out]
  have z6 := hb6.size
  have HI7 := Lib.hid (HI7.out.later hb6)
  have RW := Lib.hid (RW.out.later hb6)
  have RA := Lib.hid (RA.out.later hb6)
  have RB := Lib.hid (RB.out.later hb6)
  have RX := Lib.hid (RX.out.later hb6)
  have ORA := Lib.hid (row_later ORA.out hb6)
  have ORX := Lib.hid (row_later ORX.out hb6)
  have HB6 := Lib.hid (HB5.out.trans (hb6.mono HB5.out.size))
  have RY := Lib.hid r6
  have IVRY := Lib.hid (own_iv o6)
  clear hb6 r6 o6 c6 HB5
  clear CRP CVP CLB
  have c7 := refLines_any w6 p3 p2 m k3 k2 T HM.out (by omega) RA.out RW.out FT.out
  go_wp2_with fail
  refine c7.mono ?_
  rintro e w7 ⟨rfl, hb7⟩
  have z7 := hb7.size
  have HI7 := Lib.hid (HI7.out.later hb7)
  have RW := Lib.hid (RW.out.later hb7)
  have RA := Lib.hid (RA.out.later hb7)
  have RB := Lib.hid (RB.out.later hb7)
  have RX := Lib.hid (RX.out.later hb7)
  have RY := Lib.hid (RY.out.later hb7)
  have ORA := Lib.hid (row_later ORA.out hb7)
  have ORX := Lib.hid (row_later ORX.out hb7)
  have HB7 := Lib.hid (HB6.out.trans (hb7.mono HB6.out.size))
  clear hb7 c7 HB6
  have c8 := CRL.out w7 HB7.out
  go_wp2_with fail
  refine c8.mono ?_
  rintro e w8 ⟨hb8, p8, k8, rfl, r8, o8⟩
  rw [HH.out] at o8
  rw [HH.out]
  have z8 := hb8.size
  have HI7 := Lib.hid (HI7.out.later hb8)
  have RW := Lib.hid (RW.out.later hb8)
  have RA := Lib.hid (RA.out.later hb8)
  have RB := Lib.hid (RB.out.later hb8)
  have RX := Lib.hid (RX.out.later hb8)
  have RY := Lib.hid (RY.out.later hb8)
  have ORA := Lib.hid (row_later ORA.out hb8)
  have ORX := Lib.hid (row_later ORX.out hb8)
  have HB8 := Lib.hid (HB7.out.trans (hb8.mono HB7.out.size))
  have RZ := Lib.hid r8
  have IVRZ := Lib.hid (own_iv o8)
  clear hb8 r8 o8 c8 HB7
  have c9 := labels_cmp w8 p5 p8 h k5 k8 C HH.out (by omega) RX.out RZ.out
  go_wp2_with fail
  refine c9.mono ?_
  rintro e w9 ⟨rfl, hb9⟩
  have z9 := hb9.size
  have HI7 := Lib.hid (HI7.out.later hb9)
  have RW := Lib.hid (RW.out.later hb9)
  have RA := Lib.hid (RA.out.later hb9)
  have RB := Lib.hid (RB.out.later hb9)
  have RX := Lib.hid (RX.out.later hb9)
  have RY := Lib.hid (RY.out.later hb9)
  have RZ := Lib.hid (RZ.out.later hb9)
  have ORA := Lib.hid (row_later ORA.out hb9)
  have ORX := Lib.hid (row_later ORX.out hb9)
  have HB9 := Lib.hid (HB8.out.trans (hb9.mono HB8.out.size))
  clear hb9 c9 HB8
  go_wp2_with fail
  have HIV : Hid ((∀ k, (Value.slice p3 m k3).ownBlock = some k → w2.heap.size ≤ k ∧ k < w3.heap.size) ∧ (∀ k, (Value.slice p5 h k5).ownBlock = some k → w4.heap.size ≤ k ∧ k < w5.heap.size)) :=
    ⟨own_ivb ORA.out IVRA.out, own_ivb ORX.out IVRX.out⟩
  obtain ⟨S, hS⟩ : ∃ S : Nat → Prop, S = fun k => (w2.heap.size ≤ k ∧ k < w3.heap.size) ∨ (w4.heap.size ≤ k ∧ k < w5.heap.size) := ⟨_, rfl⟩
  have HSP := Lib.hid hS
  have H0 : Hid (RowsOk S w9 w9 w2.heap.size [⟨.slice p3 m k3, 26, 4, m⟩, ⟨.slice p5 h k5, 24, 1, h⟩]) := by
    obtain ⟨v1, v2⟩ := HIV.out
    refine ⟨fun i hi => ?_, fun i j hi hj hij k h1 h2 => ?_, KeptBut.refl _ _, fun i hi k hk => .inl ?_, by omega⟩
    · match i, hi with
      | 0, _ => exact ⟨_, ORA.out⟩
      | 1, _ => exact ⟨_, base_le ORX.out (by omega)⟩
    · have q : ∀ i (hi : i < 2), (([⟨.slice p3 m k3, 26, 4, m⟩, ⟨.slice p5 h k5, 24, 1, h⟩] : List RowT)[i]'hi).v.ownBlock = some k → (i = 0 ∧ w2.heap.size ≤ k ∧ k < w3.heap.size) ∨ (i = 1 ∧ w4.heap.size ≤ k ∧ k < w5.heap.size) := fun i hi hk => by
        match i, hi, hk with
        | 0, _, hk => exact .inl ⟨rfl, v1 k hk⟩
        | 1, _, hk => exact .inr ⟨rfl, v2 k hk⟩
      have q1 := q i hi h1
      have q2 := q j hj h2
      omega
    · rw [hS]
      match i, hi, hk with
      | 0, _, hk => exact .inl (v1 k hk)
      | 1, _, hk => exact .inr (v2 k hk)
  have HZ := Lib.hid (show w1.heap.size ≤ w2.heap.size ∧ w2.heap.size ≤ w3.heap.size ∧ w3.heap.size ≤ w4.heap.size ∧ w4.heap.size ≤ w5.heap.size ∧ w5.heap.size ≤ w6.heap.size ∧ w6.heap.size ≤ w9.heap.size ∧ w.heap.size ≤ w1.heap.size from ⟨z2, z3, z4, z5, z6, by omega, z1⟩)
  clear z1 z2 z3 z4 z5 z6 z7 z8 z9 hsz0 hS HIV ORA ORX IVRA IVRX IVRZ RA RX RZ
  go_loopg [18] m (fun g vi wr => ∃ k : Nat, k + g = m ∧ vi = .int .i64 k ∧ Hid (RowsOk S w9 wr w2.heap.size [⟨.slice p3 m k3, 26, 4, m⟩, ⟨.slice p5 h k5, 24, 1, h⟩]))
  case atStart => exact ⟨0, by omega, rfl, H0.out⟩
  case round =>
    obtain ⟨k, hk, rfl, HR0⟩ := hrel
    by_cases hlt : k < m
    · obtain ⟨cs, oa⟩ := HR0.out.own 0 (by simp)
      obtain ⟨ga, rfl, ea⟩ := own_cell oa (by omega)
      obtain ⟨⟨ua, da⟩, fa⟩ := ea (k * 4 + 1) (by show k * 4 + 1 < m * 4; omega)
      have HN3 := Lib.hid (HR0.out.store 0 (by simp) (g := ga) rfl (k * 4 + 1) (.int .i64 (-1)))
      have hkI : (k : Int) < (m : Int) := by omega
      have hk0 : (0 : Int) ≤ (k : Int) := by omega
      clear oa ea HR0
      go_wp2_with fail
      go_roundg (gk - 1)
      case rel => exact ⟨k + 1, by omega, by go_num, HN3.out⟩
      case measure => omega
    · obtain rfl : m = k := by omega
      have HB0 := Lib.hid HR0.out
      clear HR0 H0
      go_wp2_with fail
      go_loopg [19] h (fun g vi wr => ∃ k : Nat, k + g = h ∧ vi = .int .i64 k ∧ Hid (RowsOk S w9 wr w2.heap.size [⟨.slice p3 m k3, 26, 4, m⟩, ⟨.slice p5 h k5, 24, 1, h⟩]))
      case atStart => exact ⟨0, by omega, rfl, HB0.out⟩
      case round =>
        obtain ⟨k, hk, rfl, HR0⟩ := hrel
        by_cases hlt : k < h
        · obtain ⟨cs, oh⟩ := HR0.out.own 1 (by simp)
          obtain ⟨gh, rfl, eh⟩ := own_cell oh (by omega)
          obtain ⟨⟨uh, dh⟩, fh⟩ := eh k (by show k < h * 1; omega)
          have HN3 := Lib.hid (HR0.out.store 1 (by simp) (g := gh) rfl k (.int .u64 77))
          have hkI : (k : Int) < (h : Int) := by omega
          have hk0 : (0 : Int) ≤ (k : Int) := by omega
          clear oh eh HR0 HB0
          go_wp2_with fail
          go_roundg (gk - 1)
          case rel => exact ⟨k + 1, by omega, by go_num, HN3.out⟩
          case measure => omega
        · obtain rfl : h = k := by omega
          have HC0 := Lib.hid HR0.out
          clear HR0 HB0
          go_wp2_with fail
          go_loopg [12, 16, 20] 70 (fun g va vx vi wr => ∃ k : Nat, k + g = 70 ∧ vi = .int .i64 k ∧ Hid (RowsOk S w9 wr w2.heap.size [⟨va, 26, 4, m + k⟩, ⟨vx, 24, 1, h + k⟩]))
          case atStart => exact ⟨0, by omega, rfl, HC0.out⟩
          case round =>
            obtain ⟨k, hk, rfl, HR0⟩ := hrel
            by_cases hlt : k < 70
            · obtain ⟨cs0, oa⟩ := HR0.out.own 0 (by simp)
              have HOA : Hid (wr.ownsRow w2.heap.size 26 4 u12 (m + k) cs0) := oa
              have hkI : (k : Int) < 70 := by omega
              have hk0 : (0 : Int) ≤ (k : Int) := by omega
              have HZL := Lib.hid (Li.vals_one ⟨0, 0, 0, ⟨#[]⟩⟩)
              have hwz : w2.heap.size ≤ wr.heap.size := Nat.le_trans HR0.out.hB HR0.out.kept.size
              clear oa HC0
              go_wp2_with (first
                | (at_builtin; refine wpList_append_blk _ rfl _ _ 22 rfl w2.heap.size 26 i0 (.agg #[.int .u64 0, .int .i64 0, .int .i64 0, .string ⟨#[]⟩]) 4 40 Try.underlying22 hi hz0 hz1 hz2 rfl (by decide) u12 (m + k) cs0 rfl (HOA.out.alloc _) ⟨wr.heap.size, 0, none⟩ 1 1 (Li.vals ⟨0, 0, 0, ⟨#[]⟩⟩) rfl rfl (cells_four wr ⟨0, 0, 0, ⟨#[]⟩⟩ _) HZL.out (by unfold maxLen; omega) (by omega) (by simp; omega) ?_; intro va' wa oa' hga hbka; have H1 : RowsOk S w9 wa w2.heap.size [⟨va', 26, 4, m + k + 1⟩, ⟨u16, 24, 1, h + k⟩] := HR0.out.append 0 (by simp) hga oa' hbka; obtain ⟨cx, ox⟩ := H1.own 1 (by simp); have HOX : Hid (wa.ownsRow w2.heap.size 24 1 u16 (h + k) cx) := ox; have H1' := Lib.hid H1; have hwa : w2.heap.size ≤ wa.heap.size := Nat.le_trans H1.hB H1.kept.size; clear oa' hga hbka H1 ox HOA HR0)
                | (at_builtin; refine wpList_append_blk _ rfl _ _ 45 rfl w2.heap.size 24 j0 (.int .u64 0) 1 8 Try.underlying45 ji jz0 jz1 jz2 rfl (by decide) u16 (h + k) cx rfl (HOX.out.alloc _) ⟨wa.heap.size, 0, none⟩ 1 1 [.int .u64 78] rfl rfl (cell_one_new _ _ _) (by simp [Value.oneCell']) (by unfold maxLen; omega) (by omega) (by simp; omega) ?_; intro vx' wb ox' hgx hbkx; have H2 : RowsOk S w9 wb w2.heap.size [⟨va', 26, 4, m + k + 1⟩, ⟨vx', 24, 1, h + k + 1⟩] := H1'.out.append 1 (by simp) hgx ox' hbkx; have H2' := Lib.hid H2; clear ox' hgx hbkx H2 HOX H1'))
              go_roundg (gk - 1)
              case rel => exact ⟨k + 1, by omega, by go_num, H2'.out⟩
              case measure => omega
            · obtain rfl : k = 70 := by omega
              obtain ⟨cs0, oa⟩ := HR0.out.own 0 (by simp)
              obtain ⟨cs1, ox⟩ := HR0.out.own 1 (by simp)
              obtain ⟨pA, kA, rfl⟩ : ∃ pA kA, u12 = .slice pA (m + 70) kA := own_sl oa
              obtain ⟨pX, kX, rfl⟩ : ∃ pA kA, u16 = .slice pA (h + 70) kA := own_sl ox
              have HKP := Lib.hid HR0.out.kept
              obtain ⟨y2, y3, y4, y5, y6, y9, y1⟩ := HZ.out
              have hS := HSP.out
              have TB := Lib.hid (RB.out.but HKP.out (fun b off e => by have := IVRB.out b off e; rw [hS]; omega))
              have TW := Lib.hid (RW.out.but HKP.out (fun b off e => by have := IVRW.out b off e; rw [hS]; omega))
              have TY := Lib.hid (RY.out.but HKP.out (fun b off e => by have := IVRY.out b off e; rw [hS]; omega))
              have TI := Lib.hid (HI7.out.but HKP.out (fun b off e => by have := HGI.out b off e; rw [hS]; omega))
              have HBR := Lib.hid (HKP.out.below HB9.out (by omega) (fun k hk => by rw [hS] at hk; omega))
              have hm70 : ¬ ((m : Int) + 70 < 70) := by omega
              have hh70 : ¬ ((h : Int) + 70 < 70) := by omega
              clear hS y1 y2 y3 y4 y5 y6 y9 HKP RB RW RY HI7 oa ox HC0 HR0 IVRB IVRW IVRY HZ HSP
              have c10 := refLines_any wr p4 p2 m k4 k2 T HM.out (by omega) TB.out TW.out FT.out
              go_wp2_with fail
              refine c10.mono ?_
              rintro e w10 ⟨rfl, hb10⟩
              have TY := Lib.hid (TY.out.later hb10)
              have TI := Lib.hid (TI.out.later hb10)
              have HBR := Lib.hid (HBR.out.trans (hb10.mono HBR.out.size))
              clear hb10 c10 TB TW
              have c11 := CRL.out w10 HBR.out
              go_wp2_with fail
              refine c11.mono ?_
              rintro e w11 ⟨hb11, p11, k11, rfl, r11, _⟩
              rw [HH.out]
              have TY := Lib.hid (TY.out.later hb11)
              have TI := Lib.hid (TI.out.later hb11)
              have TZ := Lib.hid r11
              have HBR := Lib.hid (HBR.out.trans (hb11.mono HBR.out.size))
              clear hb11 c11 r11 CRL
              have c12 := labels_cmp w11 p6 p11 h k6 k11 C HH.out (by omega) TY.out TZ.out
              go_wp2_with fail
              refine c12.mono ?_
              rintro e w12 ⟨rfl, hb12⟩
              have TI := Lib.hid (TI.out.later hb12)
              have HBR := Lib.hid (HBR.out.trans (hb12.mono HBR.out.size))
              clear hb12 c12 TY TZ
              have c13 := CLI.out w12 (some ⟨gi, 0, none⟩) ki (liRow_prefix TI.out) HBR.out
              go_wp2_with fail
              refine c13.mono ?_
              rintro e w13 ⟨rfl, hb13⟩
              have TI := Lib.hid (TI.out.later hb13)
              have HBR := Lib.hid (HBR.out.trans (hb13.mono HBR.out.size))
              clear hb13 c13 CLI
              obtain ⟨b7, o7, e7, _, _, x7, _, _⟩ := TI.out nb (by rw [List.length_append, HN.out]; exact Nat.lt_succ_self nb)
              injection e7 with e7
              injection e7 with e71 e72 _
              subst e71 e72
              rw [Nat.zero_add] at x7
              have e8 : (ys ++ [seven])[nb]'(by rw [List.length_append, HN.out]; exact Nat.lt_succ_self nb) = seven := by
                rw [List.getElem_append_right (by rw [HN.out]; exact Nat.le_refl _)]; simp
              rw [e8] at x7
              have x8 : w13.cell? ⟨gi, nb * 4 + 1, none⟩ = some (.int .i64 7) := x7
              clear x7 e8
              have hkI : (nb : Int) + 1 ≤ (ki : Int) := by omega
              have c14 := CAL.out w13 HBR.out
              clear CAL
              go_wp2_with fail
              refine c14.mono ?_
              rintro e w14 ⟨rfl, hb14⟩
              have HBR := Lib.hid (HBR.out.trans (hb14.mono HBR.out.size))
              clear hb14 c14 x8 TI
              have c15 := CO1.out w14 HBR.out
              go_wp2_with fail
              refine c15.mono ?_
              rintro e w15 ⟨hb15, p15, k15, rfl, r15, _⟩
              have HBR := Lib.hid (HBR.out.trans (hb15.mono HBR.out.size))
              have T15 := Lib.hid r15
              clear hb15 c15 r15 CO1
              have c16 := CO2.out w15 HBR.out
              go_wp2_with fail
              refine c16.mono ?_
              rintro e w16 ⟨hb16, p16, k16, rfl, r16, _⟩
              have HBR := Lib.hid (HBR.out.trans (hb16.mono HBR.out.size))
              have c17 := CDL.out w16 p15 p16 k15 k16 (T15.out.later hb16) r16
              clear hb16 c16 r16 CO2 T15 CDL
              generalize sameLi vs ws = bb at *
              go_wp2_with fail
              refine c17.mono ?_
              rintro e w17 ⟨rfl, hb17⟩
              have HBR := Lib.hid (HBR.out.trans (hb17.mono HBR.out.size))
              clear hb17 c17
              go_wp2_with fail
              go_ret
              exact ⟨by first | rfl | simp, HBR.out⟩
end Go.Proofs.Ytdpikdkhemhmdaa
