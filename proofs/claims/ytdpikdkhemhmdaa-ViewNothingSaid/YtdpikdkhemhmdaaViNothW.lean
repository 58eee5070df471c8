/- ViewNothing, by a walk over the contracts. -/
import Derived.Test.YtdpikdkhemhmdaaViAwake
import Derived.Test.YtdpikdkhemhmdaaViAlike
import Derived.Test.YtdpikdkhemhmdaaViApp
import Derived.Test.YtdpikdkhemhmdaaNumCopy
namespace Go.Proofs.Ytdpikdkhemhmdaa
open Go Go.RowKit

theorem wrap_u64_nonneg (z : Int) : 0 ≤ IntKind.u64.wrap z := by
  unfold IntKind.wrap
  simp only [IntKind.signed, IntKind.bits]
  simp
  omega
theorem place_in (z : Int) (nm : Nat) (h : nm ≤ 9223372036854775806) : ∃ kk : Nat, kk ≤ nm ∧ wrap64 ((IntKind.u64.wrap z).tmod ((nm : Int) + 1)) = (kk : Int) := by
  have h0 := wrap_u64_nonneg z
  obtain ⟨u, hu⟩ : ∃ u : Nat, IntKind.u64.wrap z = (u : Int) := ⟨(IntKind.u64.wrap z).toNat, by omega⟩
  rw [hu]
  have e : (u : Int).tmod ((nm : Int) + 1) = ((u % (nm + 1) : Nat) : Int) := rfl
  have hl : u % (nm + 1) < nm + 1 := Nat.mod_lt _ (by omega)
  refine ⟨u % (nm + 1), by omega, ?_⟩
  rw [e]
  exact IntWalk.wrap64_in _ (by omega)
theorem view_in' {ms : List Li} {a : Nat} {o : Li} {vs : List Li} (hs : ms.filter (seenB a) = vs) (h : seenB a o = false) (k : Nat) : (ms.take k ++ [o] ++ ms.drop k).filter (seenB a) = vs := (view_in ms a o h k).trans hs
theorem ins_ok {ms : List Li} {o : Li} (h : ∀ x ∈ ms, LiOk x) (ho : LiOk o) (k : Nat) : ∀ x ∈ ms.take k ++ [o] ++ ms.drop k, LiOk x := fun x hx => by
  simp only [List.mem_append, List.mem_singleton] at hx
  rcases hx with (hx | rfl) | hx
  · exact h x (List.mem_of_mem_take hx)
  · exact ho
  · exact h x (List.mem_of_mem_drop hx)
theorem ins_len {ms : List Li} {o : Li} {k nm : Nat} (h : ms.length = nm) (hk : k ≤ nm) : (ms.take k ++ [o] ++ ms.drop k).length = nm + 1 := by
  simp only [List.length_append, List.length_take, List.length_drop, List.length_cons, List.length_nil]; omega
set_option maxRecDepth 100000 in
set_option maxHeartbeats 8000000 in
theorem viewNothing_any (w : World) (p q r : Option Addr) (n c m d na ca : Nat) (xs ys : List Li) (zs : List Int) (a b : Nat) (hn : xs.length = n) (hnm : n ≤ 3518437208780) (hr : LiRow w p xs) (hf : ∀ x ∈ xs, LiOk x)
    (hm : ys.length = m) (hmm : m ≤ 3518437208780) (hq : LiRow w q ys) (hg : ∀ y ∈ ys, LiOk y) (hna : zs.length = na) (hnz : na ≤ 17592186044416) (hz : NumRow .i64 w r zs) (hw : ∀ z ∈ zs, (Lit.int .i64 z).wf = true) (ha : a < 18446744073709551616) (hb : b < 18446744073709551616) :
    Calls Try.prog 9 #[.slice p n c, .slice q m d, .slice r na ca, .int .u64 a, .int .u64 b] w fun e w' => e = .returned (.bool true) ∧ Below w.heap.size w w' := by
  have hu : ∀ x ∈ xs, x.u < 18446744073709551616 := fun x hx => (hf x hx).u
  have cA := fun W => awake_any W
  obtain ⟨i0, hi, hz0, hz1, hz2⟩ := li_parts
  have hlm := filter_le xs (seenB a) (n := n) (by omega)
  have c2 := refBoth_any a b 2 w ha hb (.inr (.inl rfl))
  rw [both_and a b ha] at c2
  have hab : a &&& b < 18446744073709551616 := Nat.lt_of_le_of_lt Nat.and_le_left ha
  have COf := Lib.hid (fun (W : World) (hW : Below w.heap.size w W) => of_any W p n c xs hn (by omega) (hr.later hW) hu a ha)
  have CAl := Lib.hid (fun (W : World) (hW : Below w.heap.size w W) (o : Nat) (ho : o < 18446744073709551616) (q' : Option Addr) (k d' : Nat) (ms : List Li) (hk : ms.length = k) (hkm : k ≤ 3518437208883) (hq' : LiRow W q' ms) (hfm : ∀ y ∈ ms, LiOk y) => alike_any W p q' n k c d' xs ms o hn hk (by omega) hkm (hr.later hW) hq' hf hfm ho)
  have CLa := Lib.hid (fun (W : World) (hW : Below w.heap.size w W) (o : Nat) (ho : o < 18446744073709551616) (q' : Option Addr) (k d' : Nat) (ms : List Li) (hk : ms.length = k) (hkm : k ≤ 3518437208883) (hq' : LiRow W q' ms) (hfm : ∀ y ∈ ms, LiOk y) => alike_any W q' p k n d' c ms xs o hk hn hkm (by omega) hq' (hr.later hW) hfm hf ho)
  have V1 := Lib.hid (view_self xs a)
  have V2 := Lib.hid (view_under xs a b)
  have HFV := Lib.hid (filter_ok (f := seenB a) hf)
  have HN := Lib.hid hn
  have HF := Lib.hid hf
  have HM := Lib.hid hm
  have HQ := Lib.hid hq
  have HG := Lib.hid hg
  have HNA := Lib.hid hna
  have HZ := Lib.hid hz
  have HW := Lib.hid hw
  clear hn hr hf hu hm hq hg hna hz hw
  go_enter Try.func9, Try.ntmps9
  go_wp2_with fail
  refine c2.mono ?_
  rintro e w0 ⟨rfl, hb0⟩
  have HB0 := Lib.hid hb0
  clear hb0 c2
  go_wp2_with fail
  refine (cA _).mono ?_
  rintro e w1 ⟨rfl, hb1⟩
  have HB1 := Lib.hid (HB0.out.trans (hb1.mono HB0.out.size))
  clear cA hb1 HB0
  go_wp2_with fail
  refine (COf.out _ HB1.out).mono ?_
  rintro e w2 ⟨hb2, p2, k2, rfl, hr2, ho2⟩
  have HB2 := Lib.hid (HB1.out.trans (hb2.mono HB1.out.size))
  have HR2 := Lib.hid hr2
  have HNL := Lib.hid (own_nil ho2)
  have CA2 := CAl.out w2 HB2.out a ha p2 _ k2 _ rfl (by omega) hr2 HFV.out
  rw [V1.out, sameLi_refl] at CA2
  clear hb2 hr2 HB1 ho2
  go_wp2_with fail
  refine CA2.mono ?_
  rintro e w3 ⟨rfl, hb3⟩
  have HB3 := Lib.hid (HB2.out.trans (hb3.mono HB2.out.size))
  have HR3 := Lib.hid (HR2.out.later hb3)
  have CA3 := CAl.out w3 HB3.out (a &&& b) hab p2 _ k2 _ rfl (by omega) HR3.out HFV.out
  rw [V2.out, sameLi_refl] at CA3
  clear hb3 HB2 HR2 CA2
  go_wp2_with fail
  refine CA3.mono ?_
  rintro e w4 ⟨rfl, hb4⟩
  have HB4 := Lib.hid (HB3.out.trans (hb4.mono HB3.out.size))
  have HR4 := Lib.hid (HR3.out.later hb4)
  clear hb4 HB3 CA3 HR3
  obtain ⟨vs, hvs⟩ : ∃ vs, xs.filter (seenB a) = vs := ⟨_, rfl⟩
  rw [hvs] at HR4 HNL HFV hlm ⊢
  have HVS := Lib.hid hvs
  obtain ⟨mv, hmv⟩ : ∃ mv, vs.length = mv := ⟨_, rfl⟩
  rw [hmv] at HNL hlm ⊢
  have HMV := Lib.hid hmv
  clear hvs hmv
  have hown0 := World.ownsRow_made (e := 26) (size := 4) (base := w4.heap.size) w4 #[] 0 (Nat.le_refl _) (by unfold maxLen; omega) rfl
  have hbb0 : Below w4.heap.size w4 (w4.alloc (.cells #[] 26)) := (Below.refl _ w4).alloc (Nat.le_refl _) _
  go_wp2_with (first
    | (at_builtin; refine app_liS rfl _ _ 22 rfl w4.heap.size 26 i0 (.agg #[.int .u64 0, .int .i64 0, .int .i64 0, .string ⟨#[]⟩]) Try.underlying22 hi hz0 hz1 hz2 rfl (.slice (some ⟨w4.heap.size, 0, none⟩) 0 0) 0 [] rfl hown0 p2 mv k2 vs rfl HMV.out (HR4.out.later hbb0) HNL.out (by omega) (by simp) ?_; intro v5 w5 own5 hgr5 hpt5; obtain ⟨g5, k5, rfl, hc5, hB5, hl5⟩ := own_ptr own5 (hpt5 (fun e => by cases e)); have hbb5 : Below w4.heap.size w4 w5 := hbb0.grown hgr5 (by simp) (fun g hg => (hown0.lt g hg).1); have HO5 := Lib.hid own5; clear hown0 own5 hgr5 hpt5))
  rw [Nat.zero_add, List.nil_append] at HO5
  rw [Nat.zero_add] at hc5
  have HV0 := Lib.hid (Nat.le_refl vs.length)
  obtain ⟨M, hMx⟩ : ∃ M, min m 50 = M := ⟨_, rfl⟩
  have hM1 : M ≤ m := by omega
  have hM2 : M ≤ 50 := by omega
  have hM3 : ¬ M < m ∨ ¬ M < 50 := by omega
  clear hMx
  go_wp2_with fail
  go_loopg [14, 15] M (fun g vm vi wr => ∃ (i gm cm nm : Nat) (ms : List Li), i + g = M ∧ vi = .int .i64 i ∧ vm = .slice (some ⟨gm, 0, none⟩) nm cm ∧ ms.length = nm ∧ nm ≤ mv + i ∧ Below w4.heap.size w4 wr ∧ Hid (wr.ownsRow w4.heap.size 26 4 (.slice (some ⟨gm, 0, none⟩) nm cm) nm (liCells ms)) ∧ Hid (ms.filter (seenB a) = vs) ∧ Hid (∀ x ∈ ms, LiOk x))
  case atStart => exact ⟨0, g5, k5, mv, vs, by omega, rfl, rfl, HMV.out, by omega, hbb5, HO5.out, by show _ = _; rw [← HVS.out]; exact view_self xs a, HFV.out⟩
  case round =>
    obtain ⟨i, gm, cm, nm, ms, hk, rfl, rfl, hms, hnm2, hbr, HO, HS, HMO⟩ := hrel
    have hsr := hbr.size
    by_cases hlt : i < M
    · have hlt' : i < ys.length := by rw [HM.out]; omega
      obtain ⟨b1, o1, rfl, _, h1c⟩ := HQ.out.at i hlt'
      have hbw := HB4.out.trans (hbr.mono HB4.out.size)
      obtain ⟨g0, g1, g2, g3⟩ := h1c wr hbw
      have hoy := HG.out _ (List.getElem_mem hlt')
      have cB := fun W => refBelow_any (ys[i]).u a W hoy.u ha
      have hk0 : (0 : Int) ≤ (i : Int) := by omega
      have hkI : (i : Int) < (m : Int) := by omega
      have hk50 : (i : Int) < 50 := by omega
      have hseen : Hid (∀ t, belowB (ys[i]).u a = t → seenB a ys[i] = t) := fun t h => h
      generalize ys[i] = y at *
      have HC := Lib.hid h1c
      clear h1c
      cases hbe : belowB y.u a with
      | true =>
        rw [hbe] at cB
        go_wp2_with fail
        refine (cB _).mono ?_
        rintro e v1 ⟨rfl, hv1⟩
        have hbv := Lib.hid (hbr.trans (hv1.mono hsr))
        have HO2 := Lib.hid (row_later HO.out hv1)
        clear hv1 cB HO hbr hbw g0 g1 g2 g3
        go_wp2_with fail
        go_roundg (gk - 1)
        case rel => exact ⟨i + 1, gm, cm, nm, ms, by omega, by go_num, rfl, hms, by omega, hbv.out, HO2.out, HS.out, HMO.out⟩
        case measure => omega
      | false =>
        rw [hbe] at cB
        have hhid := hseen.out _ hbe
        go_wp2_with fail
        refine (cB _).mono ?_
        rintro e v1 ⟨rfl, hv1⟩
        have hbv := Lib.hid (hbr.trans (hv1.mono hsr))
        have HO2 := Lib.hid (row_later HO.out hv1)
        obtain ⟨x0, x1, x2, x3⟩ := HC.out v1 (HB4.out.trans (hbv.out.mono HB4.out.size))
        clear hv1 cB HO hbr hbw g0 g1 g2 g3
        have hsm : LiRow v1 (some ⟨gm, 0, none⟩) ms := by
          obtain ⟨p', c', e', hr'⟩ := li_owned hms HO2.out
          injection e' with e1
          rw [e1]; exact hr'
        have hcm : nm ≤ cm := by
          obtain ⟨_, _, e', h', _⟩ := own_ptr HO2.out (fun e => by cases e)
          injection e' with _ _ e3
          rw [e3]; exact h'
        by_cases hz : na = 0
        · subst hz
          have H1L : Hid (([] : List Li).length = 0) := rfl
          have H1R := Lib.hid (liRow_nil v1 (some ⟨gm, 0, none⟩))
          have H3L := Lib.hid hms
          have H3R := Lib.hid hsm
          have HFI : Hid ((([] : List Li) ++ [y] ++ ms).filter (seenB a) = vs) := view_in' (k := 0) HS.out hhid
          have HIO : Hid (∀ x ∈ ([] : List Li) ++ [y] ++ ms, LiOk x) := ins_ok HMO.out hoy 0
          have HLN : Hid ((([] : List Li) ++ [y] ++ ms).length = 0 + 1 + nm) := by show _ = _; simp [hms]; omega
          clear hsm
          have HCY := Lib.hid (Li.vals_one y)
          have hown0 := World.ownsRow_nil v1 v1.heap.size 26 4
          go_wp2_with (first
            | (at_builtin; refine app_liS rfl _ _ 22 rfl v1.heap.size 26 i0 (.agg #[.int .u64 0, .int .i64 0, .int .i64 0, .string ⟨#[]⟩]) Try.underlying22 hi hz0 hz1 hz2 rfl (.slice none 0 0) 0 [] rfl hown0 (some ⟨gm, 0, none⟩) 0 cm ([]) rfl H1L.out H1R.out (fun e => by cases e) (by omega) (Nat.le_refl _) ?_; intro v2 w3 own2 hgr2 _; have hb2 := (Below.refl v1.heap.size v1).grown hgr2 (Nat.le_refl _) (fun g hg => (hown0.lt g hg).1); obtain ⟨y0, y1, y2, y3⟩ := HC.out w3 ((HB4.out.trans (hbv.out.mono HB4.out.size)).trans (hb2.mono (Nat.le_trans HB4.out.size hbv.out.size))); rw [Nat.zero_add, List.nil_append] at own2; have hs2 := hb2.size; have HO3 := Lib.hid own2; have HB2' := Lib.hid hb2; clear hown0 own2 hgr2 hb2 x0 x1 x2 x3)
            | (at_builtin; refine wpList_append_own _ rfl _ _ 22 rfl v1.heap.size 26 i0 (.agg #[.int .u64 0, .int .i64 0, .int .i64 0, .string ⟨#[]⟩]) 4 40 Try.underlying22 hi hz0 hz1 hz2 rfl (by decide) v2 0 (liCells ([])) rfl (HO3.out.alloc _) ⟨w3.heap.size, 0, none⟩ 1 1 y.vals rfl rfl (cells_four w3 y _) HCY.out (by unfold maxLen; omega) (by omega) (by simp; omega) ?_; intro v3 w5' own3 hgr3 _; obtain ⟨g3, k3, rfl⟩ := ownsRow_succ own3; have hb3 := (HB2'.out.alloc hs2 (.cells #[.int .u64 y.u, .int .i64 y.n, .int .i64 y.r, .string y.s] 26)).grown hgr3 (by simp; omega) (fun g hg => (HO3.out.lt g hg).1); rw [← liCells_snoc] at own3; have hs3 := hb3.size; have HO4 := Lib.hid own3; have HB3' := Lib.hid hb3; clear own3 hgr3 hb3 HO3 y0 y1 y2 y3)
            | (at_builtin; refine app_liS rfl _ _ 22 rfl v1.heap.size 26 i0 (.agg #[.int .u64 0, .int .i64 0, .int .i64 0, .string ⟨#[]⟩]) Try.underlying22 hi hz0 hz1 hz2 rfl (.slice (some ⟨g3, 0, none⟩) (0 + 1) k3) (0 + 1) ([] ++ [y]) rfl HO4.out (some ⟨gm, 0, none⟩) (nm) (cm) (ms) rfl H3L.out (H3R.out.later HB3'.out) (fun e => by cases e) (by omega) hs3 ?_; intro v6 w6 own6 hgr6 hpt6; obtain ⟨g6, k6, rfl, _⟩ := own_ptr own6 (hpt6 (fun e => by cases e)); have hb6 := HB3'.out.grown hgr6 hs3 (fun g hg => (HO4.out.lt g hg).1); have HO6 := Lib.hid own6; have HB6 := Lib.hid hb6; clear own6 hgr6 hpt6 hb6 HO4))
          go_roundg (gk - 1)
          case rel => exact ⟨i + 1, g6, k6, 0 + 1 + (nm), [] ++ [y] ++ ms, by omega, by go_num, rfl, HLN.out, by omega, hbv.out.trans (HB6.out.mono hbv.out.size), base_le HO6.out hbv.out.size, HFI.out, HIO.out⟩
          case measure => omega
        · have hzI : (0 : Int) < (na : Int) := by omega
          have hmod : (i : Int).tmod (na : Int) = ((i % na : Nat) : Int) := rfl
          have hm0 : (0 : Int) ≤ (i : Int) % (na : Int) ∧ (i : Int) % (na : Int) < (na : Int) := ⟨Int.emod_nonneg _ (by omega), Int.emod_lt_of_pos _ hzI⟩
          have hzl : i % na < zs.length := by rw [HNA.out]; exact Nat.mod_lt _ (by omega)
          obtain ⟨b3, o3, rfl, _, h3c⟩ := HZ.out.at _ hzl
          have z0 := h3c v1 (HB4.out.trans (hbv.out.mono HB4.out.size))
          generalize zs[i % na] = z at *
          obtain ⟨kk, hkk, hkw⟩ := place_in z nm (by omega)
          have H1L : Hid ((ms.take kk).length = kk) := by show _ = _; rw [List.length_take, hms]; omega
          have H1R := Lib.hid (row_take hsm kk)
          have H3L : Hid ((ms.drop kk).length = nm - kk) := by show _ = _; rw [List.length_drop, hms]
          have HFI := Lib.hid (view_in' (k := kk) HS.out hhid)
          have HIO := Lib.hid (ins_ok HMO.out hoy kk)
          have HLN : Hid ((ms.take kk ++ [y] ++ ms.drop kk).length = kk + 1 + (nm - kk)) := by show _ = _; rw [ins_len hms hkk]; omega
          by_cases hcap : cm - kk = 0
          · have H3R : Hid (LiRow v1 (some ⟨gm, 0, none⟩) (ms.drop kk)) := fun j hj => by
              rw [H3L.out] at hj; omega
            clear hsm
            have HCY := Lib.hid (Li.vals_one y)
            have hown0 := World.ownsRow_nil v1 v1.heap.size 26 4
            go_wp2_with (first
              | (at_builtin; refine app_liS rfl _ _ 22 rfl v1.heap.size 26 i0 (.agg #[.int .u64 0, .int .i64 0, .int .i64 0, .string ⟨#[]⟩]) Try.underlying22 hi hz0 hz1 hz2 rfl (.slice none 0 0) 0 [] rfl hown0 (some ⟨gm, 0, none⟩) kk cm (ms.take kk) rfl H1L.out H1R.out (fun e => by cases e) (by omega) (Nat.le_refl _) ?_; intro v2 w3 own2 hgr2 _; have hb2 := (Below.refl v1.heap.size v1).grown hgr2 (Nat.le_refl _) (fun g hg => (hown0.lt g hg).1); obtain ⟨y0, y1, y2, y3⟩ := HC.out w3 ((HB4.out.trans (hbv.out.mono HB4.out.size)).trans (hb2.mono (Nat.le_trans HB4.out.size hbv.out.size))); rw [Nat.zero_add, List.nil_append] at own2; have hs2 := hb2.size; have HO3 := Lib.hid own2; have HB2' := Lib.hid hb2; clear hown0 own2 hgr2 hb2 x0 x1 x2 x3)
              | (at_builtin; refine wpList_append_own _ rfl _ _ 22 rfl v1.heap.size 26 i0 (.agg #[.int .u64 0, .int .i64 0, .int .i64 0, .string ⟨#[]⟩]) 4 40 Try.underlying22 hi hz0 hz1 hz2 rfl (by decide) v2 kk (liCells (ms.take kk)) rfl (HO3.out.alloc _) ⟨w3.heap.size, 0, none⟩ 1 1 y.vals rfl rfl (cells_four w3 y _) HCY.out (by unfold maxLen; omega) (by omega) (by simp; omega) ?_; intro v3 w5' own3 hgr3 _; obtain ⟨g3, k3, rfl⟩ := ownsRow_succ own3; have hb3 := (HB2'.out.alloc hs2 (.cells #[.int .u64 y.u, .int .i64 y.n, .int .i64 y.r, .string y.s] 26)).grown hgr3 (by simp; omega) (fun g hg => (HO3.out.lt g hg).1); rw [← liCells_snoc] at own3; have hs3 := hb3.size; have HO4 := Lib.hid own3; have HB3' := Lib.hid hb3; clear own3 hgr3 hb3 HO3 y0 y1 y2 y3)
              | (at_builtin; refine app_liS rfl _ _ 22 rfl v1.heap.size 26 i0 (.agg #[.int .u64 0, .int .i64 0, .int .i64 0, .string ⟨#[]⟩]) Try.underlying22 hi hz0 hz1 hz2 rfl (.slice (some ⟨g3, 0, none⟩) (kk + 1) k3) (kk + 1) (ms.take kk ++ [y]) rfl HO4.out (some ⟨gm, 0, none⟩) (nm - kk) (0) (ms.drop kk) rfl H3L.out (H3R.out.later HB3'.out) (fun e => by cases e) (by omega) hs3 ?_; intro v6 w6 own6 hgr6 hpt6; obtain ⟨g6, k6, rfl, _⟩ := own_ptr own6 (hpt6 (fun e => by cases e)); have hb6 := HB3'.out.grown hgr6 hs3 (fun g hg => (HO4.out.lt g hg).1); have HO6 := Lib.hid own6; have HB6 := Lib.hid hb6; clear own6 hgr6 hpt6 hb6 HO4))
            go_roundg (gk - 1)
            case rel => exact ⟨i + 1, g6, k6, kk + 1 + (nm - kk), ms.take kk ++ [y] ++ ms.drop kk, by omega, by go_num, rfl, HLN.out, by omega, hbv.out.trans (HB6.out.mono hbv.out.size), base_le HO6.out hbv.out.size, HFI.out, HIO.out⟩
            case measure => omega
          · have H3R : Hid (LiRow v1 (some ⟨gm, kk * 4, none⟩) (ms.drop kk)) := by
              have := row_drop hsm kk
              rwa [Nat.zero_add] at this
            clear hsm
            have HCY := Lib.hid (Li.vals_one y)
            have hown0 := World.ownsRow_nil v1 v1.heap.size 26 4
            go_wp2_with (first
              | (at_builtin; refine app_liS rfl _ _ 22 rfl v1.heap.size 26 i0 (.agg #[.int .u64 0, .int .i64 0, .int .i64 0, .string ⟨#[]⟩]) Try.underlying22 hi hz0 hz1 hz2 rfl (.slice none 0 0) 0 [] rfl hown0 (some ⟨gm, 0, none⟩) kk cm (ms.take kk) rfl H1L.out H1R.out (fun e => by cases e) (by omega) (Nat.le_refl _) ?_; intro v2 w3 own2 hgr2 _; have hb2 := (Below.refl v1.heap.size v1).grown hgr2 (Nat.le_refl _) (fun g hg => (hown0.lt g hg).1); obtain ⟨y0, y1, y2, y3⟩ := HC.out w3 ((HB4.out.trans (hbv.out.mono HB4.out.size)).trans (hb2.mono (Nat.le_trans HB4.out.size hbv.out.size))); rw [Nat.zero_add, List.nil_append] at own2; have hs2 := hb2.size; have HO3 := Lib.hid own2; have HB2' := Lib.hid hb2; clear hown0 own2 hgr2 hb2 x0 x1 x2 x3)
              | (at_builtin; refine wpList_append_own _ rfl _ _ 22 rfl v1.heap.size 26 i0 (.agg #[.int .u64 0, .int .i64 0, .int .i64 0, .string ⟨#[]⟩]) 4 40 Try.underlying22 hi hz0 hz1 hz2 rfl (by decide) v2 kk (liCells (ms.take kk)) rfl (HO3.out.alloc _) ⟨w3.heap.size, 0, none⟩ 1 1 y.vals rfl rfl (cells_four w3 y _) HCY.out (by unfold maxLen; omega) (by omega) (by simp; omega) ?_; intro v3 w5' own3 hgr3 _; obtain ⟨g3, k3, rfl⟩ := ownsRow_succ own3; have hb3 := (HB2'.out.alloc hs2 (.cells #[.int .u64 y.u, .int .i64 y.n, .int .i64 y.r, .string y.s] 26)).grown hgr3 (by simp; omega) (fun g hg => (HO3.out.lt g hg).1); rw [← liCells_snoc] at own3; have hs3 := hb3.size; have HO4 := Lib.hid own3; have HB3' := Lib.hid hb3; clear own3 hgr3 hb3 HO3 y0 y1 y2 y3)
              | (at_builtin; refine app_liS rfl _ _ 22 rfl v1.heap.size 26 i0 (.agg #[.int .u64 0, .int .i64 0, .int .i64 0, .string ⟨#[]⟩]) Try.underlying22 hi hz0 hz1 hz2 rfl (.slice (some ⟨g3, 0, none⟩) (kk + 1) k3) (kk + 1) (ms.take kk ++ [y]) rfl HO4.out (some ⟨gm, kk * 4, none⟩) (nm - kk) (cm - kk) (ms.drop kk) rfl H3L.out (H3R.out.later HB3'.out) (fun e => by cases e) (by omega) hs3 ?_; intro v6 w6 own6 hgr6 hpt6; obtain ⟨g6, k6, rfl, _⟩ := own_ptr own6 (hpt6 (fun e => by cases e)); have hb6 := HB3'.out.grown hgr6 hs3 (fun g hg => (HO4.out.lt g hg).1); have HO6 := Lib.hid own6; have HB6 := Lib.hid hb6; clear own6 hgr6 hpt6 hb6 HO4))
            go_roundg (gk - 1)
            case rel => exact ⟨i + 1, g6, k6, kk + 1 + (nm - kk), ms.take kk ++ [y] ++ ms.drop kk, by omega, by go_num, rfl, HLN.out, by omega, hbv.out.trans (HB6.out.mono hbv.out.size), base_le HO6.out hbv.out.size, HFI.out, HIO.out⟩
            case measure => omega
    · obtain rfl : i = M := by omega
      have hro := HO.out
      obtain ⟨p6, k6, e6, hr6⟩ := li_owned hms hro
      injection e6 with e61 e62 e63
      subst e61 e63
      have HB5 := Lib.hid (HB4.out.trans (hbr.mono HB4.out.size))
      have HR6 := Lib.hid hr6
      have CA6 := CAl.out wr HB5.out a ha (some ⟨gm, 0, none⟩) nm cm ms hms (by omega) hr6 HMO.out
      rw [HVS.out, HS.out, sameLi_refl] at CA6
      have E2 : Hid (ms.filter (seenB (a &&& b)) = xs.filter (seenB (a &&& b))) := by
        show _ = _
        rw [← view_under ms a b, ← view_under xs a b, HS.out, HVS.out]
      have HR5 := Lib.hid (HR4.out.later hbr)
      have HMU : Hid (∀ x ∈ ms, x.u < 18446744073709551616) := fun x hx => (HMO.out x hx).u
      clear hro hbr HO hr6
      by_cases him : i < m
      · have hI50 : ¬ ((i : Int) < 50) := by omega
        have hIm : (i : Int) < (m : Int) := by omega
        have hnb : nm ≤ 3518437208883 := by omega
        clear hM1 hM2 hM3
        go_wp2_with fail
        refine CA6.mono ?_
        rintro e w7 ⟨rfl, hb7⟩
        have HB7 := Lib.hid (HB5.out.trans (hb7.mono HB5.out.size))
        have HR7 := Lib.hid (HR6.out.later hb7)
        have HR7v := Lib.hid (HR5.out.later hb7)
        have CL7 := CLa.out w7 HB7.out (a &&& b) hab (some ⟨gm, 0, none⟩) nm cm ms hms (by omega) HR7.out HMO.out
        rw [E2.out, sameLi_refl] at CL7
        clear hb7 CA6 HB5 HR6 HR5
        go_wp2_with fail
        refine CL7.mono ?_
        rintro e w8 ⟨rfl, hb8⟩
        have HB8 := Lib.hid (HB7.out.trans (hb8.mono HB7.out.size))
        have HR8 := Lib.hid (HR7.out.later hb8)
        have HR8v := Lib.hid (HR7v.out.later hb8)
        have CO8 := of_any w8 (some ⟨gm, 0, none⟩) nm cm ms hms (by omega) HR8.out HMU.out a ha
        rw [HS.out] at CO8
        clear hb8 CL7 HB7 HR7 HR7v
        go_wp2_with fail
        refine CO8.mono ?_
        rintro e w9 ⟨hb9, p9, k9, rfl, hr9, _⟩
        rw [HMV.out]
        have HB9 := Lib.hid (HB8.out.trans (hb9.mono HB8.out.size))
        have CE9 := refLines_any w9 p9 p2 mv k9 k2 vs HMV.out (by omega) hr9 (HR8v.out.later hb9) HFV.out
        clear hb9 hr9 CO8 HB8 HR8 HR8v
        go_wp2_with fail
        refine CE9.mono ?_
        rintro e w10 ⟨rfl, hb10⟩
        have HB10 := Lib.hid (HB9.out.trans (hb10.mono HB9.out.size))
        clear hb10 CE9 HB9
        go_wp2_with fail
        go_ret
        exact ⟨rfl, HB10.out⟩
      · have hIm : ¬ ((i : Int) < (m : Int)) := by omega
        have hnb : nm ≤ 3518437208883 := by omega
        clear hM1 hM2 hM3
        go_wp2_with fail
        refine CA6.mono ?_
        rintro e w7 ⟨rfl, hb7⟩
        have HB7 := Lib.hid (HB5.out.trans (hb7.mono HB5.out.size))
        have HR7 := Lib.hid (HR6.out.later hb7)
        have HR7v := Lib.hid (HR5.out.later hb7)
        have CL7 := CLa.out w7 HB7.out (a &&& b) hab (some ⟨gm, 0, none⟩) nm cm ms hms (by omega) HR7.out HMO.out
        rw [E2.out, sameLi_refl] at CL7
        clear hb7 CA6 HB5 HR6 HR5
        go_wp2_with fail
        refine CL7.mono ?_
        rintro e w8 ⟨rfl, hb8⟩
        have HB8 := Lib.hid (HB7.out.trans (hb8.mono HB7.out.size))
        have HR8 := Lib.hid (HR7.out.later hb8)
        have HR8v := Lib.hid (HR7v.out.later hb8)
        have CO8 := of_any w8 (some ⟨gm, 0, none⟩) nm cm ms hms (by omega) HR8.out HMU.out a ha
        rw [HS.out] at CO8
        clear hb8 CL7 HB7 HR7 HR7v
        go_wp2_with fail
        refine CO8.mono ?_
        rintro e w9 ⟨hb9, p9, k9, rfl, hr9, _⟩
        rw [HMV.out]
        have HB9 := Lib.hid (HB8.out.trans (hb9.mono HB8.out.size))
        have CE9 := refLines_any w9 p9 p2 mv k9 k2 vs HMV.out (by omega) hr9 (HR8v.out.later hb9) HFV.out
        clear hb9 hr9 CO8 HB8 HR8 HR8v
        go_wp2_with fail
        refine CE9.mono ?_
        rintro e w10 ⟨rfl, hb10⟩
        have HB10 := Lib.hid (HB9.out.trans (hb10.mono HB9.out.size))
        clear hb10 CE9 HB9
        go_wp2_with fail
        go_ret
        exact ⟨rfl, HB10.out⟩
end Go.Proofs.Ytdpikdkhemhmdaa
