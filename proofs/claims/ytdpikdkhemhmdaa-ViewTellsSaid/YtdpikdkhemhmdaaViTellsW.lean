/- ViewTells, by a walk over the contracts. -/
import Derived.Test.YtdpikdkhemhmdaaViSpoil
import Derived.Test.YtdpikdkhemhmdaaViRefTx
import Derived.Test.YtdpikdkhemhmdaaViRefOf
import Derived.Test.YtdpikdkhemhmdaaViRefPl
import Derived.Test.YtdpikdkhemhmdaaLbNumbers
namespace Go.Proofs.Ytdpikdkhemhmdaa
open Go Go.RowKit

set_option maxRecDepth 100000 in
set_option maxHeartbeats 16000000 in
theorem viewTells_any (w : World) (p : Option Addr) (n c : Nat) (xs : List Li) (a : Nat) (hn : xs.length = n) (hnm : n ≤ 3518437208780) (hr : LiRow w p xs) (hnil : p = none → n = 0 ∧ c = 0) (hf : ∀ x ∈ xs, LiOk x) (ha : a < 18446744073709551616) :
    Calls Try.prog 3 #[.slice p n c, .int .u64 a] w fun e w' => e = .returned (.bool true) ∧ Below w.heap.size w w' := by
  have hu : ∀ x ∈ xs, x.u < 18446744073709551616 := fun x hx => (hf x hx).u
  obtain ⟨i0, hi, hz0, hz1, hz2⟩ := li_parts
  obtain ⟨j0, ji, jz0, jz1, jz2⟩ := info_parts intInfo
  obtain ⟨s0, si, sz0, sz1, sz2⟩ := info_parts strInfo
  have hlv := filter_le xs (seenB a) (n := n) (by omega)
  have hlh := filter_le xs (fun x => !seenB a x) (n := n) (by omega)
  have hsum := filter_both xs (seenB a)
  have hplen := places_len (seenB a) xs
  have FV := Lib.hid (filter_ok (f := seenB a) hf)
  have FH := Lib.hid (filter_ok (f := fun x => !seenB a x) hf)
  have CO := Lib.hid (fun (W : World) q k (hq : LiRow W q xs) => of_any W q n k xs hn (by omega) hq hu a ha)
  have CH := Lib.hid (fun (W : World) q k (hq : LiRow W q xs) => hidden_any W q n k xs hn (by omega) hq hu a ha)
  have CP := Lib.hid (fun (W : World) q k (hq : LiRow W q xs) => places_any W q n k xs hn (by omega) hq hu a ha)
  have RO0 := Lib.hid (fun (W : World) (hW : Below w.heap.size w W) => refOf_any W p n c xs hn (by omega) (hr.later hW) hu a ha)
  have RH0 := Lib.hid (fun (W : World) (hW : Below w.heap.size w W) => refHidden_any W p n c xs hn (by omega) (hr.later hW) hu a ha)
  have RP0 := Lib.hid (fun (W : World) (hW : Below w.heap.size w W) => refPlaces_any W p n c xs hn (by omega) (hr.later hW) hu a ha)
  have CL := Lib.hid (fun (W : World) q k (hq : LiRow W q xs) (hW : Below w.heap.size w W) => refLines_any W q p n k c xs hn (by omega) hq (hr.later hW) hf)
  have hnl := hnil
  have HN := Lib.hid hn
  have HR := Lib.hid hr
  clear hn hr hf hu hnil
  generalize hvs : xs.filter (seenB a) = vs at *
  generalize hhs : xs.filter (fun x => !seenB a x) = hs at *
  generalize hps : places (seenB a) xs = ps at *
  clear hvs hhs hps
  obtain ⟨m, hm⟩ : ∃ m, vs.length = m := ⟨_, rfl⟩
  obtain ⟨h, hh⟩ : ∃ h, hs.length = h := ⟨_, rfl⟩
  rw [hm] at hlv hsum hplen
  rw [hh] at hlh hsum
  have HM := Lib.hid hm
  have HH := Lib.hid hh
  have HP := Lib.hid hplen
  have HTL : Hid ((vs.map (·.s)).length = m) := by show _ = _; rw [List.length_map]; exact hm
  rw [HN.out] at hsum
  obtain ⟨ts, htt⟩ : ∃ ts, vs.map (·.s) = ts := ⟨_, rfl⟩
  rw [htt] at HTL
  have HTT := Lib.hid htt
  clear htt
  clear hm hh hplen
  have hown0 := World.ownsRow_made (e := 26) (size := 4) (base := w.heap.size) w #[] 0 (Nat.le_refl _) (by unfold maxLen; omega) rfl
  have hbb0 : Below w.heap.size w (w.alloc (.cells #[] 26)) := (Below.refl _ w).alloc (Nat.le_refl _) _
  have HS7 := Lib.hid (Li.vals_one seven)
  go_enter Try.func3, Try.ntmps3
  go_wp2_with (first
    | (at_builtin; refine app_liS rfl _ _ 22 rfl w.heap.size 26 i0 (.agg #[.int .u64 0, .int .i64 0, .int .i64 0, .string ⟨#[]⟩]) Try.underlying22 hi hz0 hz1 hz2 rfl (.slice (some ⟨w.heap.size, 0, none⟩) 0 0) 0 [] rfl hown0 p n c xs rfl HN.out (HR.out.later hbb0) hnl (by omega) (by simp) ?_; intro v0 w0 own0 hgr0 hpt0; have hb0 := hbb0.grown hgr0 (by simp) (fun g hg => (hown0.lt g hg).1); rw [Nat.zero_add, List.nil_append] at own0; have HO0 := Lib.hid own0; have HB0 := Lib.hid hb0; have hsz0 := hb0.size; clear hown0 own0 hgr0 hpt0 hb0)
    | (at_builtin; refine wpList_append_own _ rfl _ _ 22 rfl w.heap.size 26 i0 (.agg #[.int .u64 0, .int .i64 0, .int .i64 0, .string ⟨#[]⟩]) 4 40 Try.underlying22 hi hz0 hz1 hz2 rfl (by decide) v0 n (liCells xs) rfl (HO0.out.alloc _) ⟨w0.heap.size, 0, none⟩ 1 1 seven.vals rfl rfl (cells_four w0 seven _) HS7.out (by unfold maxLen; omega) (by omega) (by simp; omega) ?_; intro v1 w1 own1 hgr1 _; obtain ⟨gi, ki, rfl⟩ := ownsRow_succ own1; have hb1 := (HB0.out.alloc hsz0 (.cells seven.vals.toArray 26)).grown hgr1 (by simp; omega) (fun g hg => (HO0.out.lt g hg).1); rw [← liCells_snoc] at own1; have hki := own_cap own1; have hgi1 := (own1.lt gi rfl).2; have hr1 := li_at (by rw [List.length_append, HN.out]; rfl) own1; have HB1 := Lib.hid hb1; have HR1 := Lib.hid hr1; clear own1 hgr1 hb1 hr1 HO0))
  have HI7 := Lib.hid HR1.out
  have HGI : Hid (∀ b off, (some ⟨gi, 0, none⟩ : Option Addr) = some ⟨b, off, none⟩ → b < w1.heap.size) := fun b off e => by cases e; exact hgi1
  clear HR1
  have z1 := HB1.out.size
  have c2 := CO.out w1 (some ⟨gi, 0, none⟩) ki (liRow_prefix HI7.out)
  go_wp2_with fail
  refine c2.mono ?_
  rintro e w2 ⟨hb2, p2, k2, rfl, r2, o2⟩
  rw [HM.out] at o2
  rw [HM.out]
  have z2 := hb2.size
  have HI7 := Lib.hid (HI7.out.later hb2)
  have HB2 := Lib.hid (HB1.out.trans (hb2.mono HB1.out.size))
  have RA := Lib.hid r2
  have IVRA := Lib.hid (own_iv o2)
  have ORA := Lib.hid o2
  clear hb2 r2 o2 c2 HB1
  have c3 := CO.out w2 (some ⟨gi, 0, none⟩) ki (liRow_prefix HI7.out)
  go_wp2_with fail
  refine c3.mono ?_
  rintro e w3 ⟨hb3, p3, k3, rfl, r3, o3⟩
  rw [HM.out] at o3
  rw [HM.out]
  have z3 := hb3.size
  have HI7 := Lib.hid (HI7.out.later hb3)
  have RA := Lib.hid (RA.out.later hb3)
  have ORA := Lib.hid (row_later ORA.out hb3)
  have HB3 := Lib.hid (HB2.out.trans (hb3.mono HB2.out.size))
  have RB := Lib.hid r3
  have IVRB := Lib.hid (own_iv o3)
  clear hb3 r3 o3 c3 HB2
  have c4 := CH.out w3 (some ⟨gi, 0, none⟩) ki (liRow_prefix HI7.out)
  go_wp2_with fail
  refine c4.mono ?_
  rintro e w4 ⟨hb4, p4, k4, rfl, r4, o4⟩
  rw [HH.out] at o4
  rw [HH.out]
  have z4 := hb4.size
  have HI7 := Lib.hid (HI7.out.later hb4)
  have RA := Lib.hid (RA.out.later hb4)
  have RB := Lib.hid (RB.out.later hb4)
  have ORA := Lib.hid (row_later ORA.out hb4)
  have HB4 := Lib.hid (HB3.out.trans (hb4.mono HB3.out.size))
  have RH := Lib.hid r4
  have IVRH := Lib.hid (own_iv o4)
  have ORH := Lib.hid o4
  clear hb4 r4 o4 c4 HB3
  have c5 := CH.out w4 (some ⟨gi, 0, none⟩) ki (liRow_prefix HI7.out)
  go_wp2_with fail
  refine c5.mono ?_
  rintro e w5 ⟨hb5, p5, k5, rfl, r5, o5⟩
  rw [HH.out] at o5
  rw [HH.out]
  have z5 := hb5.size
  have HI7 := Lib.hid (HI7.out.later hb5)
  have RA := Lib.hid (RA.out.later hb5)
  have RB := Lib.hid (RB.out.later hb5)
  have RH := Lib.hid (RH.out.later hb5)
  have ORA := Lib.hid (row_later ORA.out hb5)
  have ORH := Lib.hid (row_later ORH.out hb5)
  have HB5 := Lib.hid (HB4.out.trans (hb5.mono HB4.out.size))
  have RG := Lib.hid r5
  have IVRG := Lib.hid (own_iv o5)
  clear hb5 r5 o5 c5 HB4
  have c6 := CP.out w5 (some ⟨gi, 0, none⟩) ki (liRow_prefix HI7.out)
  go_wp2_with fail
  refine c6.mono ?_
  rintro e w6 ⟨hb6, p6, k6, rfl, r6, o6⟩
  rw [HP.out] at o6
  rw [HP.out]
  have z6 := hb6.size
  have HI7 := Lib.hid (HI7.out.later hb6)
  have RA := Lib.hid (RA.out.later hb6)
  have RB := Lib.hid (RB.out.later hb6)
  have RH := Lib.hid (RH.out.later hb6)
  have RG := Lib.hid (RG.out.later hb6)
  have ORA := Lib.hid (row_later ORA.out hb6)
  have ORH := Lib.hid (row_later ORH.out hb6)
  have HB6 := Lib.hid (HB5.out.trans (hb6.mono HB5.out.size))
  have RP := Lib.hid r6
  have IVRP := Lib.hid (own_iv o6)
  have ORP := Lib.hid o6
  clear hb6 r6 o6 c6 HB5
  have c7 := CP.out w6 (some ⟨gi, 0, none⟩) ki (liRow_prefix HI7.out)
  go_wp2_with fail
  refine c7.mono ?_
  rintro e w7 ⟨hb7, p7, k7, rfl, r7, o7⟩
  rw [HP.out] at o7
  rw [HP.out]
  have z7 := hb7.size
  have HI7 := Lib.hid (HI7.out.later hb7)
  have RA := Lib.hid (RA.out.later hb7)
  have RB := Lib.hid (RB.out.later hb7)
  have RH := Lib.hid (RH.out.later hb7)
  have RG := Lib.hid (RG.out.later hb7)
  have RP := Lib.hid (RP.out.later hb7)
  have ORA := Lib.hid (row_later ORA.out hb7)
  have ORH := Lib.hid (row_later ORH.out hb7)
  have ORP := Lib.hid (row_later ORP.out hb7)
  have HB7 := Lib.hid (HB6.out.trans (hb7.mono HB6.out.size))
  have RQ := Lib.hid r7
  have IVRQ := Lib.hid (own_iv o7)
  clear hb7 r7 o7 c7 HB6
  clear CO CH CP
  have c8 := texts_any w7 p2 m k2 vs HM.out (by omega) RA.out
  go_wp2_with fail
  refine c8.mono ?_
  rintro e w8 ⟨hb8, p8, k8, rfl, r8, o8⟩
  rw [HTT.out, HTL.out] at o8
  rw [HTT.out] at r8
  (try rw [HTT.out])
  (try rw [HTL.out])
  have z8 := hb8.size
  have HI7 := Lib.hid (HI7.out.later hb8)
  have RA := Lib.hid (RA.out.later hb8)
  have RB := Lib.hid (RB.out.later hb8)
  have RH := Lib.hid (RH.out.later hb8)
  have RG := Lib.hid (RG.out.later hb8)
  have RP := Lib.hid (RP.out.later hb8)
  have RQ := Lib.hid (RQ.out.later hb8)
  have ORA := Lib.hid (row_later ORA.out hb8)
  have ORH := Lib.hid (row_later ORH.out hb8)
  have ORP := Lib.hid (row_later ORP.out hb8)
  have HB8 := Lib.hid (HB7.out.trans (hb8.mono HB7.out.size))
  have RS := Lib.hid r8
  have IVRS := Lib.hid (own_iv o8)
  have ORS := Lib.hid o8
  clear hb8 r8 o8 c8 HB7
  have c9 := texts_any w8 p3 m k3 vs HM.out (by omega) RB.out
  go_wp2_with fail
  refine c9.mono ?_
  rintro e w9 ⟨hb9, p9, k9, rfl, r9, o9⟩
  rw [HTT.out, HTL.out] at o9
  rw [HTT.out] at r9
  (try rw [HTT.out])
  (try rw [HTL.out])
  have z9 := hb9.size
  have HI7 := Lib.hid (HI7.out.later hb9)
  have RA := Lib.hid (RA.out.later hb9)
  have RB := Lib.hid (RB.out.later hb9)
  have RH := Lib.hid (RH.out.later hb9)
  have RG := Lib.hid (RG.out.later hb9)
  have RP := Lib.hid (RP.out.later hb9)
  have RQ := Lib.hid (RQ.out.later hb9)
  have RS := Lib.hid (RS.out.later hb9)
  have ORA := Lib.hid (row_later ORA.out hb9)
  have ORH := Lib.hid (row_later ORH.out hb9)
  have ORP := Lib.hid (row_later ORP.out hb9)
  have ORS := Lib.hid (row_later ORS.out hb9)
  have HB9 := Lib.hid (HB8.out.trans (hb9.mono HB8.out.size))
  have RT := Lib.hid r9
  have IVRT := Lib.hid (own_iv o9)
  clear hb9 r9 o9 c9 HB8
  have c10 := RO0.out w9 HB9.out
  go_wp2_with fail
  refine c10.mono ?_
  rintro e w10 ⟨hb10, p10, k10, rfl, r10, o10⟩
  rw [HM.out] at o10
  rw [HM.out]
  have z10 := hb10.size
  have HI7 := Lib.hid (HI7.out.later hb10)
  have RA := Lib.hid (RA.out.later hb10)
  have RB := Lib.hid (RB.out.later hb10)
  have RH := Lib.hid (RH.out.later hb10)
  have RG := Lib.hid (RG.out.later hb10)
  have RP := Lib.hid (RP.out.later hb10)
  have RQ := Lib.hid (RQ.out.later hb10)
  have RS := Lib.hid (RS.out.later hb10)
  have RT := Lib.hid (RT.out.later hb10)
  have ORA := Lib.hid (row_later ORA.out hb10)
  have ORH := Lib.hid (row_later ORH.out hb10)
  have ORP := Lib.hid (row_later ORP.out hb10)
  have ORS := Lib.hid (row_later ORS.out hb10)
  have HB10 := Lib.hid (HB9.out.trans (hb10.mono HB9.out.size))
  have RW := Lib.hid r10
  have IVRW := Lib.hid (own_iv o10)
  clear hb10 r10 o10 c10 HB9
  have c11 := RH0.out w10 HB10.out
  go_wp2_with fail
  refine c11.mono ?_
  rintro e w11 ⟨hb11, p11, k11, rfl, r11, o11⟩
  rw [HH.out] at o11
  rw [HH.out]
  have z11 := hb11.size
  have HI7 := Lib.hid (HI7.out.later hb11)
  have RA := Lib.hid (RA.out.later hb11)
  have RB := Lib.hid (RB.out.later hb11)
  have RH := Lib.hid (RH.out.later hb11)
  have RG := Lib.hid (RG.out.later hb11)
  have RP := Lib.hid (RP.out.later hb11)
  have RQ := Lib.hid (RQ.out.later hb11)
  have RS := Lib.hid (RS.out.later hb11)
  have RT := Lib.hid (RT.out.later hb11)
  have RW := Lib.hid (RW.out.later hb11)
  have ORA := Lib.hid (row_later ORA.out hb11)
  have ORH := Lib.hid (row_later ORH.out hb11)
  have ORP := Lib.hid (row_later ORP.out hb11)
  have ORS := Lib.hid (row_later ORS.out hb11)
  have HB11 := Lib.hid (HB10.out.trans (hb11.mono HB10.out.size))
  have RD := Lib.hid r11
  have IVRD := Lib.hid (own_iv o11)
  clear hb11 r11 o11 c11 HB10
  have c12 := RP0.out w11 HB11.out
  go_wp2_with fail
  refine c12.mono ?_
  rintro e w12 ⟨hb12, p12, k12, rfl, r12, o12⟩
  rw [HP.out] at o12
  rw [HP.out]
  have z12 := hb12.size
  have HI7 := Lib.hid (HI7.out.later hb12)
  have RA := Lib.hid (RA.out.later hb12)
  have RB := Lib.hid (RB.out.later hb12)
  have RH := Lib.hid (RH.out.later hb12)
  have RG := Lib.hid (RG.out.later hb12)
  have RP := Lib.hid (RP.out.later hb12)
  have RQ := Lib.hid (RQ.out.later hb12)
  have RS := Lib.hid (RS.out.later hb12)
  have RT := Lib.hid (RT.out.later hb12)
  have RW := Lib.hid (RW.out.later hb12)
  have RD := Lib.hid (RD.out.later hb12)
  have ORA := Lib.hid (row_later ORA.out hb12)
  have ORH := Lib.hid (row_later ORH.out hb12)
  have ORP := Lib.hid (row_later ORP.out hb12)
  have ORS := Lib.hid (row_later ORS.out hb12)
  have HB12 := Lib.hid (HB11.out.trans (hb12.mono HB11.out.size))
  have RN := Lib.hid r12
  have IVRN := Lib.hid (own_iv o12)
  clear hb12 r12 o12 c12 HB11
  clear RO0 RH0 RP0
  have c13 := refLines_any w12 p2 p10 m k2 k10 vs HM.out (by omega) RA.out RW.out FV.out
  go_wp2_with fail
  refine c13.mono ?_
  rintro e w13 ⟨rfl, hb13⟩
  have z13 := hb13.size
  have HI7 := Lib.hid (HI7.out.later hb13)
  have RA := Lib.hid (RA.out.later hb13)
  have RB := Lib.hid (RB.out.later hb13)
  have RH := Lib.hid (RH.out.later hb13)
  have RG := Lib.hid (RG.out.later hb13)
  have RP := Lib.hid (RP.out.later hb13)
  have RQ := Lib.hid (RQ.out.later hb13)
  have RS := Lib.hid (RS.out.later hb13)
  have RT := Lib.hid (RT.out.later hb13)
  have RW := Lib.hid (RW.out.later hb13)
  have RD := Lib.hid (RD.out.later hb13)
  have RN := Lib.hid (RN.out.later hb13)
  have ORA := Lib.hid (row_later ORA.out hb13)
  have ORH := Lib.hid (row_later ORH.out hb13)
  have ORP := Lib.hid (row_later ORP.out hb13)
  have ORS := Lib.hid (row_later ORS.out hb13)
  have HB13 := Lib.hid (HB12.out.trans (hb13.mono HB12.out.size))
  clear hb13 c13 HB12
  have c14 := refLines_any w13 p4 p11 h k4 k11 hs HH.out (by omega) RH.out RD.out FH.out
  go_wp2_with fail
  refine c14.mono ?_
  rintro e w14 ⟨rfl, hb14⟩
  have z14 := hb14.size
  have HI7 := Lib.hid (HI7.out.later hb14)
  have RA := Lib.hid (RA.out.later hb14)
  have RB := Lib.hid (RB.out.later hb14)
  have RH := Lib.hid (RH.out.later hb14)
  have RG := Lib.hid (RG.out.later hb14)
  have RP := Lib.hid (RP.out.later hb14)
  have RQ := Lib.hid (RQ.out.later hb14)
  have RS := Lib.hid (RS.out.later hb14)
  have RT := Lib.hid (RT.out.later hb14)
  have RW := Lib.hid (RW.out.later hb14)
  have RD := Lib.hid (RD.out.later hb14)
  have RN := Lib.hid (RN.out.later hb14)
  have ORA := Lib.hid (row_later ORA.out hb14)
  have ORH := Lib.hid (row_later ORH.out hb14)
  have ORP := Lib.hid (row_later ORP.out hb14)
  have ORS := Lib.hid (row_later ORS.out hb14)
  have HB14 := Lib.hid (HB13.out.trans (hb14.mono HB13.out.size))
  clear hb14 c14 HB13
  have c15 := numbers_any w14 p6 p12 m m k6 k12 ps RP.out RN.out HP.out HP.out (by rw [HP.out]; omega)
  go_wp2_with fail
  refine c15.mono ?_
  rintro e w15 ⟨rfl, hb15⟩
  have z15 := hb15.size
  have HI7 := Lib.hid (HI7.out.later hb15)
  have RA := Lib.hid (RA.out.later hb15)
  have RB := Lib.hid (RB.out.later hb15)
  have RH := Lib.hid (RH.out.later hb15)
  have RG := Lib.hid (RG.out.later hb15)
  have RP := Lib.hid (RP.out.later hb15)
  have RQ := Lib.hid (RQ.out.later hb15)
  have RS := Lib.hid (RS.out.later hb15)
  have RT := Lib.hid (RT.out.later hb15)
  have RW := Lib.hid (RW.out.later hb15)
  have RD := Lib.hid (RD.out.later hb15)
  have RN := Lib.hid (RN.out.later hb15)
  have ORA := Lib.hid (row_later ORA.out hb15)
  have ORH := Lib.hid (row_later ORH.out hb15)
  have ORP := Lib.hid (row_later ORP.out hb15)
  have ORS := Lib.hid (row_later ORS.out hb15)
  have HB15 := Lib.hid (HB14.out.trans (hb15.mono HB14.out.size))
  clear hb15 c15 HB14
  have c16 := refTexts_any w15 p10 m k10 vs HM.out (by omega) RW.out
  go_wp2_with fail
  refine c16.mono ?_
  rintro e w16 ⟨hb16, p16, k16, rfl, r16, o16⟩
  rw [HTT.out, HTL.out] at o16
  rw [HTT.out] at r16
  (try rw [HTT.out])
  (try rw [HTL.out])
  have z16 := hb16.size
  have HI7 := Lib.hid (HI7.out.later hb16)
  have RA := Lib.hid (RA.out.later hb16)
  have RB := Lib.hid (RB.out.later hb16)
  have RH := Lib.hid (RH.out.later hb16)
  have RG := Lib.hid (RG.out.later hb16)
  have RP := Lib.hid (RP.out.later hb16)
  have RQ := Lib.hid (RQ.out.later hb16)
  have RS := Lib.hid (RS.out.later hb16)
  have RT := Lib.hid (RT.out.later hb16)
  have RW := Lib.hid (RW.out.later hb16)
  have RD := Lib.hid (RD.out.later hb16)
  have RN := Lib.hid (RN.out.later hb16)
  have ORA := Lib.hid (row_later ORA.out hb16)
  have ORH := Lib.hid (row_later ORH.out hb16)
  have ORP := Lib.hid (row_later ORP.out hb16)
  have ORS := Lib.hid (row_later ORS.out hb16)
  have HB16 := Lib.hid (HB15.out.trans (hb16.mono HB15.out.size))
  have RX := Lib.hid r16
  have IVRX := Lib.hid (own_iv o16)
  clear hb16 r16 o16 c16 HB15
  have c17 := refStrings_any w16 p8 p16 m m k8 k16 ts RS.out RX.out HTL.out HTL.out (by rw [HTL.out]; omega)
  go_wp2_with fail
  refine c17.mono ?_
  rintro e w17 ⟨rfl, hb17⟩
  have z17 := hb17.size
  have HI7 := Lib.hid (HI7.out.later hb17)
  have RA := Lib.hid (RA.out.later hb17)
  have RB := Lib.hid (RB.out.later hb17)
  have RH := Lib.hid (RH.out.later hb17)
  have RG := Lib.hid (RG.out.later hb17)
  have RP := Lib.hid (RP.out.later hb17)
  have RQ := Lib.hid (RQ.out.later hb17)
  have RS := Lib.hid (RS.out.later hb17)
  have RT := Lib.hid (RT.out.later hb17)
  have RW := Lib.hid (RW.out.later hb17)
  have RD := Lib.hid (RD.out.later hb17)
  have RN := Lib.hid (RN.out.later hb17)
  have RX := Lib.hid (RX.out.later hb17)
  have ORA := Lib.hid (row_later ORA.out hb17)
  have ORH := Lib.hid (row_later ORH.out hb17)
  have ORP := Lib.hid (row_later ORP.out hb17)
  have ORS := Lib.hid (row_later ORS.out hb17)
  have HB17 := Lib.hid (HB16.out.trans (hb17.mono HB16.out.size))
  clear hb17 c17 HB16
  go_wp2_with fail
  have HIV : Hid ((∀ k, (Value.slice p2 m k2).ownBlock = some k → w1.heap.size ≤ k ∧ k < w2.heap.size) ∧ (∀ k, (Value.slice p4 h k4).ownBlock = some k → w3.heap.size ≤ k ∧ k < w4.heap.size) ∧ (∀ k, (Value.slice p6 m k6).ownBlock = some k → w5.heap.size ≤ k ∧ k < w6.heap.size) ∧ (∀ k, (Value.slice p8 m k8).ownBlock = some k → w7.heap.size ≤ k ∧ k < w8.heap.size)) :=
    ⟨own_ivb ORA.out IVRA.out, own_ivb ORH.out IVRH.out, own_ivb ORP.out IVRP.out, own_ivb ORS.out IVRS.out⟩
  obtain ⟨S, hS⟩ : ∃ S : Nat → Prop, S = fun k => (w1.heap.size ≤ k ∧ k < w2.heap.size) ∨ (w3.heap.size ≤ k ∧ k < w4.heap.size) ∨ (w5.heap.size ≤ k ∧ k < w6.heap.size) ∨ (w7.heap.size ≤ k ∧ k < w8.heap.size) := ⟨_, rfl⟩
  have HSP := Lib.hid hS
  have H0 : Hid (RowsOk S w17 w17 w1.heap.size [⟨.slice p2 m k2, 26, 4, m⟩, ⟨.slice p4 h k4, 26, 4, h⟩, ⟨.slice p6 m k6, 3, 1, m⟩, ⟨.slice p8 m k8, 9, 1, m⟩]) := by
    obtain ⟨v1, v2, v3, v4⟩ := HIV.out
    refine ⟨fun i hi => ?_, fun i j hi hj hij k h1 h2 => ?_, KeptBut.refl _ _, fun i hi k hk => .inl ?_, by omega⟩
    · match i, hi with
      | 0, _ => exact ⟨_, ORA.out⟩
      | 1, _ => exact ⟨_, base_le ORH.out (by omega)⟩
      | 2, _ => exact ⟨_, base_le ORP.out (by omega)⟩
      | 3, _ => exact ⟨_, base_le ORS.out (by omega)⟩
    · have q : ∀ i (hi : i < 4), (([⟨.slice p2 m k2, 26, 4, m⟩, ⟨.slice p4 h k4, 26, 4, h⟩, ⟨.slice p6 m k6, 3, 1, m⟩, ⟨.slice p8 m k8, 9, 1, m⟩] : List RowT)[i]'hi).v.ownBlock = some k → (i = 0 ∧ w1.heap.size ≤ k ∧ k < w2.heap.size) ∨ (i = 1 ∧ w3.heap.size ≤ k ∧ k < w4.heap.size) ∨ (i = 2 ∧ w5.heap.size ≤ k ∧ k < w6.heap.size) ∨ (i = 3 ∧ w7.heap.size ≤ k ∧ k < w8.heap.size) := fun i hi hk => by
        match i, hi, hk with
        | 0, _, hk => exact .inl ⟨rfl, v1 k hk⟩
        | 1, _, hk => exact .inr (.inl ⟨rfl, v2 k hk⟩)
        | 2, _, hk => exact .inr (.inr (.inl ⟨rfl, v3 k hk⟩))
        | 3, _, hk => exact .inr (.inr (.inr ⟨rfl, v4 k hk⟩))
      have q1 := q i hi h1
      have q2 := q j hj h2
      omega
    · rw [hS]
      match i, hi, hk with
      | 0, _, hk => exact .inl (v1 k hk)
      | 1, _, hk => exact .inr (.inl (v2 k hk))
      | 2, _, hk => exact .inr (.inr (.inl (v3 k hk)))
      | 3, _, hk => exact .inr (.inr (.inr (v4 k hk)))
  have HZ := Lib.hid (show w1.heap.size ≤ w2.heap.size ∧ w2.heap.size ≤ w3.heap.size ∧ w3.heap.size ≤ w4.heap.size ∧ w4.heap.size ≤ w5.heap.size ∧ w5.heap.size ≤ w6.heap.size ∧ w6.heap.size ≤ w7.heap.size ∧ w7.heap.size ≤ w8.heap.size ∧ w8.heap.size ≤ w9.heap.size ∧ w9.heap.size ≤ w10.heap.size ∧ w10.heap.size ≤ w11.heap.size ∧ w11.heap.size ≤ w12.heap.size ∧ w12.heap.size ≤ w17.heap.size ∧ w.heap.size ≤ w1.heap.size from ⟨z2, z3, z4, z5, z6, z7, z8, z9, z10, z11, z12, by omega, z1⟩)
  clear z1 z2 z3 z4 z5 z6 z7 z8 z9 z10 z11 z12 z13 z14 z15 z16 z17 hsz0 hS HIV ORA ORH ORP ORS IVRA IVRH IVRP IVRS IVRX RA RH RP RS RX
  go_loopg [19] m (fun g vi wr => ∃ k : Nat, k + g = m ∧ vi = .int .i64 k ∧ Hid (RowsOk S w17 wr w1.heap.size [⟨.slice p2 m k2, 26, 4, m⟩, ⟨.slice p4 h k4, 26, 4, h⟩, ⟨.slice p6 m k6, 3, 1, m⟩, ⟨.slice p8 m k8, 9, 1, m⟩]))
  case atStart => exact ⟨0, by omega, rfl, H0.out⟩
  case round =>
    obtain ⟨k, hk, rfl, HR0⟩ := hrel
    by_cases hlt : k < m
    · obtain ⟨ca, oa⟩ := HR0.out.own 0 (by simp)
      obtain ⟨cp, op⟩ := HR0.out.own 2 (by simp)
      obtain ⟨cs, os⟩ := HR0.out.own 3 (by simp)
      obtain ⟨ga, rfl, ea⟩ := own_cell oa (by omega)
      obtain ⟨gp, rfl, ep⟩ := own_cell op (by omega)
      obtain ⟨gs, rfl, es⟩ := own_cell os (by omega)
      obtain ⟨⟨ua, da⟩, fa⟩ := ea (k * 4 + 3) (by show k * 4 + 3 < m * 4; omega)
      obtain ⟨⟨up, dp⟩, fp⟩ := ep k (by show k < m * 1; omega)
      obtain ⟨⟨us, ds⟩, fs⟩ := es k (by show k < m * 1; omega)
      have n1 : ¬ gp = ga := fun e => HR0.out.dis 0 2 (by simp) (by simp) (by decide) ga rfl (by show some gp = some ga; rw [e])
      have n2 : ¬ gs = ga := fun e => HR0.out.dis 0 3 (by simp) (by simp) (by decide) ga rfl (by show some gs = some ga; rw [e])
      have n3 : ¬ gs = gp := fun e => HR0.out.dis 2 3 (by simp) (by simp) (by decide) gp rfl (by show some gs = some gp; rw [e])
      have HN3 := Lib.hid (((HR0.out.store 0 (by simp) (g := ga) rfl (k * 4 + 3) (.string ⟨#[115, 112, 111, 105, 108, 116]⟩)).store 2 (by simp) (g := gp) rfl k (.int .i64 (-1))).store 3 (by simp) (g := gs) rfl k (.string ⟨#[115, 112, 111, 105, 108, 116]⟩))
      have hkI : (k : Int) < (m : Int) := by omega
      have hk0 : (0 : Int) ≤ (k : Int) := by omega
      clear oa op os ea ep es HR0
      go_wp2_with fail
      go_roundg (gk - 1)
      case rel => exact ⟨k + 1, by omega, by go_num, HN3.out⟩
      case measure => omega
    · obtain rfl : m = k := by omega
      have HB0 := Lib.hid HR0.out
      clear HR0 H0
      go_wp2_with fail
      go_loopg [20] h (fun g vi wr => ∃ k : Nat, k + g = h ∧ vi = .int .i64 k ∧ Hid (RowsOk S w17 wr w1.heap.size [⟨.slice p2 m k2, 26, 4, m⟩, ⟨.slice p4 h k4, 26, 4, h⟩, ⟨.slice p6 m k6, 3, 1, m⟩, ⟨.slice p8 m k8, 9, 1, m⟩]))
      case atStart => exact ⟨0, by omega, rfl, HB0.out⟩
      case round =>
        obtain ⟨k, hk, rfl, HR0⟩ := hrel
        by_cases hlt : k < h
        · obtain ⟨ch, oh⟩ := HR0.out.own 1 (by simp)
          obtain ⟨gh, rfl, eh⟩ := own_cell oh (by omega)
          obtain ⟨⟨uh, dh⟩, fh⟩ := eh (k * 4 + 3) (by show k * 4 + 3 < h * 4; omega)
          have HN3 := Lib.hid (HR0.out.store 1 (by simp) (g := gh) rfl (k * 4 + 3) (.string ⟨#[115, 112, 111, 105, 108, 116]⟩))
          have hkI : (k : Int) < (h : Int) := by omega
          have hk0 : (0 : Int) ≤ (k : Int) := by omega
          clear oh eh HR0 HB0
          go_wp2_with fail
          go_roundg (gk - 1)
          case rel => exact ⟨k + 1, by omega, by go_num, HN3.out⟩
          case measure => omega
        · obtain rfl : h = k := by omega
          have HC0 := Lib.hid HR0.out
          clear HR0 HB0
          go_wp2_with fail
          go_loopg [8, 10, 12, 14, 21] 70 (fun g va vh vp vs' vi wr => ∃ k : Nat, k + g = 70 ∧ vi = .int .i64 k ∧ Hid (RowsOk S w17 wr w1.heap.size [⟨va, 26, 4, m + k⟩, ⟨vh, 26, 4, h + k⟩, ⟨vp, 3, 1, m + k⟩, ⟨vs', 9, 1, m + k⟩]))
          case atStart => exact ⟨0, by omega, rfl, HC0.out⟩
          case round =>
            obtain ⟨k, hk, rfl, HR0⟩ := hrel
            by_cases hlt : k < 70
            · obtain ⟨ca, oa⟩ := HR0.out.own 0 (by simp)
              have HOA : Hid (wr.ownsRow w1.heap.size 26 4 u8 (m + k) ca) := oa
              have hkI : (k : Int) < 70 := by omega
              have hk0 : (0 : Int) ≤ (k : Int) := by omega
              have HZL := Lib.hid (Li.vals_one ⟨0, 0, 0, ⟨#[]⟩⟩)
              have hwz : w1.heap.size ≤ wr.heap.size := Nat.le_trans HR0.out.hB HR0.out.kept.size
              clear oa HC0
              go_wp2_with (first
                | (at_builtin; refine wpList_append_blk _ rfl _ _ 22 rfl w1.heap.size 26 i0 (.agg #[.int .u64 0, .int .i64 0, .int .i64 0, .string ⟨#[]⟩]) 4 40 Try.underlying22 hi hz0 hz1 hz2 rfl (by decide) u8 (m + k) ca rfl (HOA.out.alloc _) ⟨wr.heap.size, 0, none⟩ 1 1 (Li.vals ⟨0, 0, 0, ⟨#[]⟩⟩) rfl rfl (cells_four wr ⟨0, 0, 0, ⟨#[]⟩⟩ _) HZL.out (by unfold maxLen; omega) (by omega) (by simp; omega) ?_; intro va' wa oa' hga hbka; have H1 : RowsOk S w17 wa w1.heap.size [⟨va', 26, 4, m + k + 1⟩, ⟨u10, 26, 4, h + k⟩, ⟨u12, 3, 1, m + k⟩, ⟨u14, 9, 1, m + k⟩] := HR0.out.append 0 (by simp) hga oa' hbka; obtain ⟨ch, oh⟩ := H1.own 1 (by simp); have HOH : Hid (wa.ownsRow w1.heap.size 26 4 u10 (h + k) ch) := oh; have H1' := Lib.hid H1; have hwa : w1.heap.size ≤ wa.heap.size := Nat.le_trans H1.hB H1.kept.size; clear oa' hga hbka H1 oh HOA HR0)
                | (at_builtin; refine wpList_append_blk _ rfl _ _ 22 rfl w1.heap.size 26 i0 (.agg #[.int .u64 0, .int .i64 0, .int .i64 0, .string ⟨#[]⟩]) 4 40 Try.underlying22 hi hz0 hz1 hz2 rfl (by decide) u10 (h + k) ch rfl (HOH.out.alloc _) ⟨wa.heap.size, 0, none⟩ 1 1 (Li.vals ⟨0, 0, 0, ⟨#[]⟩⟩) rfl rfl (cells_four wa ⟨0, 0, 0, ⟨#[]⟩⟩ _) HZL.out (by unfold maxLen; omega) (by omega) (by simp; omega) ?_; intro vh' wb oh' hgh hbkh; have H2 : RowsOk S w17 wb w1.heap.size [⟨va', 26, 4, m + k + 1⟩, ⟨vh', 26, 4, h + k + 1⟩, ⟨u12, 3, 1, m + k⟩, ⟨u14, 9, 1, m + k⟩] := H1'.out.append 1 (by simp) hgh oh' hbkh; obtain ⟨cp, op⟩ := H2.own 2 (by simp); have HOP : Hid (wb.ownsRow w1.heap.size 3 1 u12 (m + k) cp) := op; have H2' := Lib.hid H2; have hwb : w1.heap.size ≤ wb.heap.size := Nat.le_trans H2.hB H2.kept.size; clear oh' hgh hbkh H2 op HOH H1')
                | (at_builtin; refine wpList_append_blk _ rfl _ _ 28 rfl w1.heap.size 3 j0 (.int .i64 0) 1 8 Try.underlying28 ji jz0 jz1 jz2 rfl (by decide) u12 (m + k) cp rfl (HOP.out.alloc _) ⟨wb.heap.size, 0, none⟩ 1 1 [.int .i64 (-2)] rfl rfl (cell_one_new _ _ _) (by simp [Value.oneCell']) (by unfold maxLen; omega) (by omega) (by simp; omega) ?_; intro vp' wc op' hgp hbkp; have H3 : RowsOk S w17 wc w1.heap.size [⟨va', 26, 4, m + k + 1⟩, ⟨vh', 26, 4, h + k + 1⟩, ⟨vp', 3, 1, m + k + 1⟩, ⟨u14, 9, 1, m + k⟩] := H2'.out.append 2 (by simp) hgp op' hbkp; obtain ⟨cs, os⟩ := H3.own 3 (by simp); have HOS : Hid (wc.ownsRow w1.heap.size 9 1 u14 (m + k) cs) := os; have H3' := Lib.hid H3; have hwc : w1.heap.size ≤ wc.heap.size := Nat.le_trans H3.hB H3.kept.size; clear op' hgp hbkp H3 os HOP H2')
                | (at_builtin; refine wpList_append_blk _ rfl _ _ 30 rfl w1.heap.size 9 s0 (.string ⟨#[]⟩) 1 16 Try.underlying30 si sz0 sz1 sz2 rfl (by decide) u14 (m + k) cs rfl (HOS.out.alloc _) ⟨wc.heap.size, 0, none⟩ 1 1 [.string ⟨#[98, 101, 104, 105, 110, 100]⟩] rfl rfl (cell_one_new _ _ _) (by simp [Value.oneCell']) (by unfold maxLen; omega) (by omega) (by simp; omega) ?_; intro vs2 wd os' hgs hbks; have H4 : RowsOk S w17 wd w1.heap.size [⟨va', 26, 4, m + k + 1⟩, ⟨vh', 26, 4, h + k + 1⟩, ⟨vp', 3, 1, m + k + 1⟩, ⟨vs2, 9, 1, m + k + 1⟩] := H3'.out.append 3 (by simp) hgs os' hbks; have H4' := Lib.hid H4; clear os' hgs hbks H4 HOS H3'))
              go_roundg (gk - 1)
              case rel => exact ⟨k + 1, by omega, by go_num, H4'.out⟩
              case measure => omega
            · obtain rfl : k = 70 := by omega
              obtain ⟨ca, oa⟩ := HR0.out.own 0 (by simp)
              obtain ⟨ch, oh⟩ := HR0.out.own 1 (by simp)
              obtain ⟨cp, op⟩ := HR0.out.own 2 (by simp)
              obtain ⟨cs, os⟩ := HR0.out.own 3 (by simp)
              obtain ⟨pA, kA, rfl⟩ : ∃ pA kA, u8 = .slice pA (m + 70) kA := own_sl oa
              obtain ⟨pH, kH, rfl⟩ : ∃ pA kA, u10 = .slice pA (h + 70) kA := own_sl oh
              obtain ⟨pP, kP, rfl⟩ : ∃ pA kA, u12 = .slice pA (m + 70) kA := own_sl op
              obtain ⟨pS, kS, rfl⟩ : ∃ pA kA, u14 = .slice pA (m + 70) kA := own_sl os
              have HKP := Lib.hid HR0.out.kept
              obtain ⟨y2, y3, y4, y5, y6, y7, y8, y9, y10, y11, y12, y17, y1⟩ := HZ.out
              have hS := HSP.out
              have TB := Lib.hid (RB.out.but HKP.out (fun b off e => by have := IVRB.out b off e; rw [hS]; omega))
              have TG := Lib.hid (RG.out.but HKP.out (fun b off e => by have := IVRG.out b off e; rw [hS]; omega))
              have TQ := Lib.hid (RQ.out.but HKP.out (fun b off e => by have := IVRQ.out b off e; rw [hS]; omega))
              have TT := Lib.hid (RT.out.but HKP.out (fun b off e => by have := IVRT.out b off e; rw [hS]; omega))
              have TW := Lib.hid (RW.out.but HKP.out (fun b off e => by have := IVRW.out b off e; rw [hS]; omega))
              have TD := Lib.hid (RD.out.but HKP.out (fun b off e => by have := IVRD.out b off e; rw [hS]; omega))
              have TN := Lib.hid (RN.out.but HKP.out (fun b off e => by have := IVRN.out b off e; rw [hS]; omega))
              have TI := Lib.hid (HI7.out.but HKP.out (fun b off e => by have := HGI.out b off e; rw [hS]; omega))
              have HBR := Lib.hid (HKP.out.below HB17.out (by omega) (fun k hk => by rw [hS] at hk; omega))
              have hAH : (m : Int) + 70 + ((h : Int) + 70) = (n : Int) + 140 := by omega
              clear hS y1 y2 y3 y4 y5 y6 y7 y8 y9 y10 y11 y12 y17 HKP RB RG RQ RT RW RD RN HI7 oa oh op os HC0 HR0 IVRB IVRG IVRQ IVRT IVRW IVRD IVRN HZ HSP
              have c18 := refLines_any wr p3 p10 m k3 k10 vs HM.out (by omega) TB.out TW.out FV.out
              go_wp2_with fail
              refine c18.mono ?_
              rintro e w18 ⟨rfl, hb18⟩
              have TG := Lib.hid (TG.out.later hb18)
              have TQ := Lib.hid (TQ.out.later hb18)
              have TT := Lib.hid (TT.out.later hb18)
              have TW := Lib.hid (TW.out.later hb18)
              have TD := Lib.hid (TD.out.later hb18)
              have TN := Lib.hid (TN.out.later hb18)
              have TI := Lib.hid (TI.out.later hb18)
              have HBR := Lib.hid (HBR.out.trans (hb18.mono HBR.out.size))
              clear hb18 c18
              have c19 := refLines_any w18 p5 p11 h k5 k11 hs HH.out (by omega) TG.out TD.out FH.out
              go_wp2_with fail
              refine c19.mono ?_
              rintro e w19 ⟨rfl, hb19⟩
              have TQ := Lib.hid (TQ.out.later hb19)
              have TT := Lib.hid (TT.out.later hb19)
              have TW := Lib.hid (TW.out.later hb19)
              have TN := Lib.hid (TN.out.later hb19)
              have TI := Lib.hid (TI.out.later hb19)
              have HBR := Lib.hid (HBR.out.trans (hb19.mono HBR.out.size))
              clear hb19 c19
              have c20 := numbers_any w19 p7 p12 m m k7 k12 ps TQ.out TN.out HP.out HP.out (by rw [HP.out]; omega)
              go_wp2_with fail
              refine c20.mono ?_
              rintro e w20 ⟨rfl, hb20⟩
              have TT := Lib.hid (TT.out.later hb20)
              have TW := Lib.hid (TW.out.later hb20)
              have TI := Lib.hid (TI.out.later hb20)
              have HBR := Lib.hid (HBR.out.trans (hb20.mono HBR.out.size))
              clear hb20 c20
              have c21 := refTexts_any w20 p10 m k10 vs HM.out (by omega) TW.out
              go_wp2_with fail
              refine c21.mono ?_
              rintro e w21 ⟨hb21, p21, k21, rfl, r21, _⟩
              rw [HTT.out] at r21
              (try rw [HTT.out])
              (try rw [HTL.out])
              have TT := Lib.hid (TT.out.later hb21)
              have TI := Lib.hid (TI.out.later hb21)
              have TX := Lib.hid r21
              have HBR := Lib.hid (HBR.out.trans (hb21.mono HBR.out.size))
              clear hb21 c21 r21
              have c22 := refStrings_any w21 p9 p21 m m k9 k21 ts TT.out TX.out HTL.out HTL.out (by rw [HTL.out]; omega)
              go_wp2_with fail
              refine c22.mono ?_
              rintro e w22 ⟨rfl, hb22⟩
              have TI := Lib.hid (TI.out.later hb22)
              have HBR := Lib.hid (HBR.out.trans (hb22.mono HBR.out.size))
              clear hb22 c22
              have c23 := CL.out w22 (some ⟨gi, 0, none⟩) ki (liRow_prefix TI.out) HBR.out
              go_wp2_with fail
              refine c23.mono ?_
              rintro e w23 ⟨rfl, hb23⟩
              have TI := Lib.hid (TI.out.later hb23)
              have HBR := Lib.hid (HBR.out.trans (hb23.mono HBR.out.size))
              clear hb23 c23
              obtain ⟨b7, o7, e7, _, _, x7, _, _⟩ := TI.out n (by rw [List.length_append, HN.out]; exact Nat.lt_succ_self n)
              injection e7 with e7
              injection e7 with e71 e72 _
              subst e71 e72
              rw [Nat.zero_add] at x7
              have e8 : (xs ++ [seven])[n]'(by rw [List.length_append, HN.out]; exact Nat.lt_succ_self n) = seven := by
                rw [List.getElem_append_right (by rw [HN.out]; exact Nat.le_refl _)]; simp
              rw [e8] at x7
              have x8 : w23.cell? ⟨gi, n * 4 + 1, none⟩ = some (.int .i64 7) := x7
              clear x7 e8
              have hkI : (n : Int) + 1 ≤ (ki : Int) := by omega
              go_wp2_with fail
              go_ret
              exact ⟨rfl, HBR.out⟩
end Go.Proofs.Ytdpikdkhemhmdaa
