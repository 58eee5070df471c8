/- DiffLeast: as many texts stay as can: a walk over contracts. -/
import Derived.Test.YtmkjeelmeicjjaaDfSame
import Derived.Test.YtmkjeelmeicjjaaDfWorks
import Derived.Test.YtmkjeelmeicjjaaDfLeastP
import Derived.Test.YtmkjeelmeicjjaaDfMost
import Derived.Test.YtmkjeelmeicjjaaDfNames
namespace Go.Proofs.Ytmkjeelmeicjjaa
open Go Go.RowKit

theorem pick_in (x : Int) (n : Nat) (h : 0 < n) (hn : n ≤ 100) : ∃ c : Nat, c < n ∧ wrap64 ((IntKind.u64.wrap x).tmod (n : Int)) = (c : Int) := by
  have h0 : 0 ≤ IntKind.u64.wrap x := by
    show 0 ≤ x % _
    exact Int.emod_nonneg _ (by decide)
  generalize IntKind.u64.wrap x = y at *
  have h1 := Int.tmod_nonneg (n : Int) h0
  have h2 := Int.tmod_lt_of_pos y (show (0 : Int) < (n : Int) by omega)
  refine ⟨(y.tmod (n : Int)).toNat, by omega, ?_⟩
  rw [Go.IntWalk.wrap64_in _ ⟨by omega, by omega⟩]
  omega
set_option maxRecDepth 100000 in
set_option maxHeartbeats 8000000 in
theorem diffLeast_any (w : World) (p0 q0 r : Option Addr) (n0 m0 l c0 d0 e0 : Nat) (a0 b0 : List Tx) (xs : List Int) (hn0 : a0.length = n0) (hm0 : b0.length = m0) (hl : xs.length = l) (hnb : n0 ≤ 8796093021952) (hmb : m0 ≤ 8796093021952) (hlb : l ≤ 140737488355328) (hp0 : StrRow w p0 a0) (hq0 : StrRow w q0 b0) (hr : NumRow .i64 w r xs) (hpn0 : p0 = none → n0 = 0 ∧ c0 = 0) (hqn0 : q0 = none → m0 = 0 ∧ d0 = 0) (hnc0 : n0 ≤ c0) (hmd0 : m0 ≤ d0) (hsz0 : ∀ t ∈ a0 ++ b0, t.size ≤ maxLen) :
    Calls Try.prog 8 #[.slice p0 n0 c0, .slice q0 m0 d0, .slice r l e0] w fun e w' => e = .returned (.bool true) ∧ Below w.heap.size w w' := by
  obtain ⟨i0, hi, hz0, hz1, hz2⟩ := info_parts strInfo
  obtain ⟨i1, hj, hy0, hy1, hy2⟩ := info_parts intInfo
  have cW := works_any w
  obtain ⟨n, hn⟩ : ∃ n, n = min n0 100 := ⟨_, rfl⟩
  obtain ⟨m, hm⟩ : ∃ m, m = min m0 100 := ⟨_, rfl⟩
  have k1 : min (n0 : Int) 100 = (n : Int) := by omega
  have k2 : min (m0 : Int) 100 = (m : Int) := by omega
  have kn : (n : Int) ≤ (c0 : Int) := by omega
  have km : (m : Int) ≤ (d0 : Int) := by omega
  obtain ⟨a, ha⟩ : ∃ a, a = a0.take n := ⟨_, rfl⟩
  obtain ⟨b, hb⟩ : ∃ b, b = b0.take m := ⟨_, rfl⟩
  have hla : a.length = n := by rw [ha, List.length_take]; omega
  have hlb' : b.length = m := by rw [hb, List.length_take]; omega
  have hpa : StrRow w p0 a := by
    have h := str_pre (xs := a0.take n) (ys := a0.drop n) (by rw [List.take_append_drop]; exact hp0)
    rw [ha]; exact h
  have hqb : StrRow w q0 b := by
    have h := str_pre (xs := b0.take m) (ys := b0.drop m) (by rw [List.take_append_drop]; exact hq0)
    rw [hb]; exact h
  have hsz : ∀ t ∈ a ++ b, t.size ≤ maxLen := fun t ht => hsz0 t (by
    rcases List.mem_append.1 ht with h | h
    · rw [ha] at h; exact List.mem_append_left _ (List.mem_of_mem_take h)
    · rw [hb] at h; exact List.mem_append_right _ (List.mem_of_mem_take h))
  have hn100 : n ≤ 100 := by omega
  have hm100 : m ≤ 100 := by omega
  have hpn : p0 = none → n = 0 ∧ c0 = 0 := fun e => ⟨by have := (hpn0 e).1; omega, (hpn0 e).2⟩
  have hqn : q0 = none → m = 0 ∧ d0 = 0 := fun e => ⟨by have := (hqn0 e).1; omega, (hqn0 e).2⟩
  have hnc : n ≤ c0 := by omega
  have hmd : m ≤ d0 := by omega
  have cC := fun W (hb : Below w.heap.size w W) => common_any W p0 q0 n m c0 d0 a b hla hlb' (by omega) (by omega) (hpa.later hb) (hqb.later hb) hpn hqn hnc hmd hsz
  have hcl := comm_small a b (by omega) (by omega)
  have HA := Lib.hid hla
  have HB := Lib.hid hlb'
  have HP := Lib.hid hpa
  have HQ := Lib.hid hqb
  have HSZ := Lib.hid hsz
  have HL := Lib.hid hl
  have HR := Lib.hid hr
  have HCL := Lib.hid hcl
  have HPN := Lib.hid hpn
  have HQN := Lib.hid hqn
  clear hsz0 hp0 hq0 hn hm hn0 hm0 hpn0 hqn0 ha hb hla hlb' hpa hqb hsz hl hr hcl hpn hqn
  go_enter Try.func8, Try.ntmps8
  go_wp2_with fail
  refine cW.mono ?_
  rintro e w1 ⟨rfl, hb1⟩
  have hs1 := hb1.size
  have HB1 := Lib.hid hb1
  have cC1 := cC w1 hb1
  clear cW hb1
  go_wp2_with fail
  refine cC1.mono ?_
  rintro e w2 ⟨hb2, cp, cc, rfl, -, -⟩
  rw [HCL.out]
  have HB2 := Lib.hid (HB1.out.trans (hb2.mono hs1))
  have hs2 : w.heap.size ≤ w2.heap.size := HB2.out.size
  clear cC1 hb2 k1 k2 kn km
  obtain ⟨N, hN⟩ : ∃ N, N = m + 1 := ⟨_, rfl⟩
  have hNb : N ≤ 101 := by omega
  have hNw : IntKind.i64.wrap ((m : Int) + 1) = (N : Int) := by rw [wrapS _ (by omega) (by omega)]; omega
  have hNm : (m : Int) + 1 = (N : Int) := by omega
  have mk := fun (V : World) => run_make (P := Try.prog) V 55 3 i1 (.int .i64 0) Try.underlying55 hj hy0 .i64 .i64 (N : Int) (N : Int) (by omega) (Int.le_refl _) (by rw [hy2]; omega) (by omega)
  have own := fun (V : World) (B : Nat) (h : B ≤ V.heap.size) => World.ownsRow_lit (e := 3) (size := 1) (base := B) V (madeCells (Value.int .i64 0).cells (N * i1.size)) N h (by unfold maxLen; omega) (by rw [hy1]; simp [madeCells])
  simp only [Int.toNat_natCast] at mk
  rw [hy1, Nat.mul_one, show (Value.int .i64 0).cells = #[Value.int .i64 0] from rfl] at mk own
  rw [toList_madeCells_one] at own
  have mk2 := mk w2
  have HN := Lib.hid hN
  have HMK := Lib.hid mk
  have HOW := Lib.hid own
  have HNM := Lib.hid hNm
  clear mk own hN hNm
  go_wp2_with fail
  clear mk2
  have hNb' : N = b.length + 1 := by rw [HN.out, HB.out]
  have HNB := Lib.hid hNb'
  clear hNb'
  go_loopg [8, 9] n (fun g v8 vi wr => ∃ i gb : Nat, i + g = n ∧ vi = .int .i64 i ∧ v8 = .slice (some ⟨gb, 0, none⟩) N N ∧ Below w.heap.size w wr ∧ Hid (wr.ownsRow w.heap.size 3 1 (.slice (some ⟨gb, 0, none⟩) N N) N (ltr a b i N)))
  case atStart => exact ⟨0, w2.heap.size, by omega, rfl, rfl, HB2.out.alloc hs2 _, by
    show World.ownsRow _ _ _ _ _ _ _
    rw [HNB.out, ltr_zero, ← HNB.out]
    exact HOW.out w2 _ hs2⟩
  case round =>
    obtain ⟨i, gb, hig, rfl, rfl, hbr, HO⟩ := hrel
    have hsr := hbr.size
    by_cases hlt : i < n
    · have hkI : (i : Int) < (n : Int) := by omega
      have hi0 : (0 : Int) ≤ (i : Int) := by omega
      have hw1 := wrapS i hi0 (by omega)
      have mk2 := HMK.out wr
      have HBR := Lib.hid hbr
      clear hbr
      generalize wr = wo at *
      obtain ⟨gO, hgO⟩ : ∃ x, x = gk := ⟨_, rfl⟩
      go_wp2_with fail
      clear mk2
      go_loopg [11] m (fun g vj wr => ∃ j : Nat, j + g = m ∧ vj = .int .i64 j ∧ Below wo.heap.size wo wr ∧ Hid (wr.ownsRow wo.heap.size 3 1 (.slice (some ⟨wo.heap.size, 0, none⟩) N N) N (ltr a b (i + 1) (j + 1))))
      case atStart => exact ⟨0, by omega, rfl, (Below.refl _ _).alloc (Nat.le_refl _) _, by
        show World.ownsRow _ _ _ _ _ _ _
        rw [ltr_none, ← HNB.out]
        exact HOW.out wo _ (Nat.le_refl _)⟩
      case round =>
        obtain ⟨j, hjg, rfl, hbz, HZ⟩ := hrel
        by_cases hlj : j < m
        · have hja : i < a.length := by rw [HA.out]; exact hlt
          have hjb : j < b.length := by rw [HB.out]; exact hlj
          have hjI : (j : Int) < (m : Int) := by omega
          have hj0 : (0 : Int) ≤ (j : Int) := by omega
          have hst := Lt_step a b i j hja hjb
          obtain ⟨J, hJ⟩ : ∃ J, J = j + 1 := ⟨_, rfl⟩
          have hJN : J < N := by have := HN.out; omega
          have hjN : j < N := by omega
          have hzd : wr.drew.ownsRow wo.heap.size 3 1 (.slice (some ⟨wo.heap.size, 0, none⟩) N N) N (ltr a b (i + 1) (j + 1)) := row_later HZ.out (Below.drew (Below.refl _ _))
          have c1 : wr.drew.cell? ⟨wo.heap.size, j, none⟩ = some (.int .i64 (Lt a b (i + 1) j : Nat)) := (hzd.cellAt j (by omega)).trans (ltr_at a b _ _ j (by omega) (by omega))
          have c3 : wr.drew.cell? ⟨wo.heap.size, J, none⟩ = some (.int .i64 0) := (hzd.cellAt J (by omega)).trans (ltr_over a b _ _ J (by omega) (by omega))
          have f3 := hzd.frozenAt J
          have hod := row_later (row_later HO.out hbz) (Below.drew (Below.refl _ wr))
          have c2 : wr.drew.cell? ⟨gb, J, none⟩ = some (.int .i64 (Lt a b i J : Nat)) := (hod.cellAt J (by omega)).trans (ltr_at a b _ _ J (by omega) (by omega))
          have hwj : IntKind.i64.wrap ((j : Int) + 1) = (J : Int) := by rw [wrapS _ hj0 (by omega)]; omega
          have b1 : (0 : Int) ≤ (J : Int) := by omega
          have b2 : (J : Int) < (N : Int) := by omega
          have b3 : (j : Int) < (N : Int) := by omega
          have HZD := Lib.hid hzd
          have HST := Lib.hid hst
          have HBZ := Lib.hid hbz
          have HJ := Lib.hid hJ
          have L1 := Lt_le a b (i + 1) j
          have L2 := Lt_le a b i J
          have hmx : max ((Lt a b (i + 1) j : Nat) : Int) ((Lt a b i J : Nat) : Int) = ((max (Lt a b (i + 1) j) (Lt a b i J) : Nat) : Int) := by omega
          have HMX := Lib.hid hmx
          clear hzd hst hbz hJ hod hw1 hmx hja hjb
          go_upto_region 14 with fail
          generalize hQ1 : Lt a b (i + 1) j = Q1 at *
          generalize hQ2 : Lt a b i J = Q2 at *
          refine wp_region_still_tail 14 (by kernel_rfl) (by kernel_rfl) ?_
          simp only [List.take_succ_cons, List.take_zero, List.drop_succ_cons, List.drop_zero]
          repeat (first | still_step)
          refine wpStill_nil ?_
          change wpList _ _ _ _ _ wr.drew
          have s1 := HZD.out.stored J (.int .i64 (max (Q1 : Int) (Q2 : Int)))
          have hb1' : Below wo.heap.size wo wr.drew := Below.drew HBZ.out
          have hbV := hb1'.grown s1.2 hb1'.size (fun g hg => by injection hg with hg; omega)
          have HV := Lib.hid s1.1
          have HBV := Lib.hid hbV
          clear s1 hb1' hbV HZD
          generalize wr.drew = V0 at *
          go_upto_region 15 with fail
          generalize V0.setCell ⟨wo.heap.size, J, none⟩ (.int .i64 (max (Q1 : Int) (Q2 : Int))) = V at *
          have hwV : Below w.heap.size w V := HBR.out.trans (HBV.out.mono HBR.out.size)
          have hja : i < a.length := by rw [HA.out]; exact hlt
          have hjb : j < b.length := by rw [HB.out]; exact hlj
          obtain ⟨b1', o1, rfl, h1c⟩ := HP.out.at i hja
          obtain ⟨b2', o2, rfl, h2c⟩ := HQ.out.at j hjb
          have g1 := h1c V hwV
          have g2 := h2c V hwV
          have hle := Lib.hid (fun (e : a[i] = b[j]) => Lt_eq a b i j hja hjb (by rw [List.getElem?_eq_getElem hja, List.getElem?_eq_getElem hjb, e]))
          have hst := HST.out
          rw [List.getElem?_eq_getElem hja, List.getElem?_eq_getElem hjb] at hst
          simp only [Option.some.injEq] at hst
          have HST2 := Lib.hid hst
          have HWV := Lib.hid hwV
          have Q3l := Lt_le a b i j
          have hQ3 : (Lt a b i j : Int) ≤ 100 := by have := HA.out; omega
          clear hst h1c h2c HST c1 c2 c3 f3 hwV Q3l
          generalize a[i] = x at *
          generalize b[j] = y at *
          by_cases hxy : x = y
          · subst hxy
            obtain ⟨t1, t2, t3⟩ := hle.out rfl
            clear hle HST2
            go_quiet (fail)
            go_upto_region 16 with fail
            have hV2r := row_later HV.out (belowDN (Below.refl V.heap.size V) nq)
            have hb2 : Below wo.heap.size wo (V.drewN nq) := belowDN HBV.out _
            generalize V.drewN nq = V2 at *
            have hzd2 := row_later hV2r (Below.drew (Below.refl _ V2))
            have hbz2 : Below wo.heap.size wo V2.drew := Below.drew hb2
            have d1 : V2.drew.cell? ⟨wo.heap.size, J, none⟩ = some (.int .i64 (max (Q1 : Int) (Q2 : Int))) := (hzd2.cellAt J (by omega)).trans (List.getElem?_set_self (by rw [ltr_len, ← HNB.out]; exact hJN))
            have d2 : V2.drew.cell? ⟨gb, j, none⟩ = some (.int .i64 (Lt a b i j : Nat)) := ((row_later HO.out hbz2).cellAt j (by omega)).trans (ltr_at a b _ _ j (by omega) (by omega))
            have f2 := hzd2.frozenAt J
            have s2 := hzd2.stored J (.int .i64 (max (Q1 : Int) (max (Q2 : Int) ((Lt a b i j : Nat) + 1 : Int))))
            have hb3 := hbz2.grown s2.2 hbz2.size (fun g hg => by injection hg with hg; omega)
            have hrow2 := s2.1
            have e : (max (Q1 : Int) (max (Q2 : Int) ((Lt a b i j : Nat) + 1 : Int))) = ((Lt a b (i + 1) J : Nat) : Int) := by
              rw [HJ.out, t1]
              rw [← HJ.out, hQ2] at t3
              omega
            have hset : ((ltr a b (i + 1) (j + 1)).set J (.int .i64 (max (Q1 : Int) (Q2 : Int)))).set J (.int .i64 (max (Q1 : Int) (max (Q2 : Int) ((Lt a b i j : Nat) + 1 : Int)))) = ltr a b (i + 1) (J + 1) := by
              rw [e, ← HJ.out]
              exact ltr_set a b (i + 1) J (by have := HB.out; have := HJ.out; omega) _
            rw [hset] at hrow2
            have hwq : IntKind.i64.wrap ((Lt a b i j : Nat) + 1 : Int) = ((Lt a b i j : Nat) + 1 : Int) := wrapS _ (by omega) (by omega)
            have HB3 := Lib.hid hb3
            have HR2 := Lib.hid hrow2
            clear t1 t2 t3 hV2r hb2 hzd2 hbz2 s2 hb3 hrow2 e hset HV HBV HZ HBZ g1 g2
            generalize Lt a b i j = Q3 at *
            refine wp_region_still_tail 15 (by kernel_rfl) (by kernel_rfl) ?_
            simp only [List.take_succ_cons, List.take_zero, List.drop_succ_cons, List.drop_zero]
            repeat (first | still_step)
            refine wpStill_nil ?_
            change wpList _ _ _ _ _ V2.drew
            generalize V2.drew = V3 at *
            go_wp2_with fail
            go_roundg (gk - 1)
            case rel => exact ⟨J, by have := HJ.out; omega, rfl, HB3.out, HR2.out⟩
            case measure => omega
          · have hxf := tl_ne hxy
            have hst := HST2.out
            rw [if_neg hxy] at hst
            have hrow : Hid (V.ownsRow wo.heap.size 3 1 (.slice (some ⟨wo.heap.size, 0, none⟩) N N) N (ltr a b (i + 1) (J + 1))) := by
              show World.ownsRow _ _ _ _ _ _ _
              have h := HV.out
              have e : (max (Q1 : Int) (Q2 : Int)) = ((Lt a b (i + 1) J : Nat) : Int) := by
                rw [HJ.out, hst, ← HJ.out, hQ2]; omega
              rw [e] at h
              rw [← HJ.out, ltr_set1 a b (i + 1) J (by have := HB.out; have := HJ.out; omega)] at h
              exact h
            clear hle HST2 hst HV
            go_quiet (fail)
            try simp only [hxf]
            go_wp2_with fail
            go_roundg (gk - 1)
            case rel => exact ⟨J, by have := HJ.out; omega, rfl, belowDN HBV.out _, row_later hrow.out (belowDN (Below.refl _ _) _)⟩
            case measure => omega
        · obtain rfl : j = m := by omega
          have hb4 : Below w.heap.size w wr := HBR.out.trans (hbz.mono HBR.out.size)
          have hr4 : Hid (wr.ownsRow w.heap.size 3 1 (.slice (some ⟨wo.heap.size, 0, none⟩) N N) N (ltr a b (i + 1) N)) := by
            show World.ownsRow _ _ _ _ _ _ _
            have h := own_mono HZ.out hsr
            rw [← HN.out] at h
            exact h
          have HB4 := Lib.hid hb4
          clear hb4 hbz HZ
          go_wp2_with fail
          go_roundg (gO - 1)
          case rel => exact ⟨i + 1, wo.heap.size, by omega, by go_num, rfl, HB4.out, hr4⟩
          case measure => omega
    · obtain rfl : n = i := by omega
      have HBR := Lib.hid hbr
      have hrow := HO.out
      clear hbr HO
      have hLn : ∀ V, Below wr.heap.size wr V → V.cell? ⟨gb, m, none⟩ = some (.int .i64 (lcs a b : Nat)) := fun V hV => by
        have h := ((row_later hrow hV).cellAt m (by have := HN.out; omega)).trans (ltr_at a b n N m (by have := HB.out; omega) (by have := HN.out; omega))
        have e : Lt a b n m = lcs a b := by rw [← HA.out, ← HB.out]; exact Lt_all a b
        rw [e] at h
        exact h
      have HLN := Lib.hid hLn
      clear hLn hrow
      go_upto_region 20 with fail
      generalize wr = wq at *
      have HWQ := HBR
      go_loopg [12, 14] n (fun g v vi wr => ∃ k : Nat, k = g ∧ k ≤ n ∧ vi = .int .i64 ((k : Int) - 1) ∧ Below wq.heap.size wq wr ∧ Hid (wr.ownsRow wq.heap.size 9 1 v (n - k) (((a.drop k).reverse).map Value.string)))
      case atStart => exact ⟨n, rfl, Nat.le_refl _, rfl, Below.refl _ _, by
        show World.ownsRow _ _ _ _ _ _ _
        rw [Nat.sub_self, ← HA.out, List.drop_length]
        exact World.ownsRow_nil _ _ _ _⟩
      case round =>
        obtain ⟨k, rfl, hk, rfl, hbr, HO⟩ := hrel
        have hsr := hbr.size
        cases k with
        | succ k =>
          have e0 : ((k + 1 : Nat) : Int) - 1 = (k : Int) := by omega
          rw [e0]
          have hk0 : (0 : Int) ≤ (k : Int) := by omega
          have hkI : (k : Int) < (n : Int) := by omega
          have hkl : k < a.length := by rw [HA.out]; omega
          obtain ⟨b9, o9, rfl, h9⟩ := HP.out.at k hkl
          have g9 := h9 wr (HWQ.out.trans (hbr.mono HWQ.out.size))
          have hdr := Lib.hid (show (a.drop k).reverse = (a.drop (k + 1)).reverse ++ [a[k]] from by rw [List.drop_eq_getElem_cons hkl, List.reverse_cons])
          have hnk := Lib.hid (show n - k = n - (k + 1) + 1 from by omega)
          obtain ⟨dn, hdn⟩ : ∃ dn, dn = ((a.drop (k + 1)).reverse).map Value.string := ⟨_, rfl⟩
          have ho := HO.out
          rw [← hdn] at ho
          have HBL := Lib.hid hbr
          have HDN := Lib.hid hdn
          clear h9 HO hbr e0 hdn
          generalize a[k] = x at *
          go_wp2_with (at_builtin; refine wpList_append_own _ rfl _ _ 34 rfl wq.heap.size 9 i0 (.string ⟨#[]⟩) 1 16 Try.underlying34 hi hz0 hz1 hz2 rfl (by decide) _ _ _ rfl (ho.alloc _) ⟨wr.heap.size, 0, none⟩ 1 1 [.string x] rfl rfl (cell_one_new _ _ _) (by simp [Value.oneCell']) (by unfold maxLen; omega) (by omega) (by simp; omega) ?_)
          intro v' w4 ho4 hgr4 _
          have hb4 : Below wq.heap.size wq w4 := (HBL.out.alloc hsr _).grown hgr4 (by simp; omega) (fun g hg => (ho.lt g hg).1)
          have HO4 : Hid (w4.ownsRow wq.heap.size 9 1 v' (n - k) (((a.drop k).reverse).map Value.string)) := by
            show World.ownsRow _ _ _ _ _ _ _
            rw [hdr.out, hnk.out, List.map_append, ← HDN.out]
            exact ho4
          have HB4 := Lib.hid hb4
          clear ho hgr4 ho4 hb4 HBL
          go_wp2_with fail
          go_roundg k
          case rel => exact ⟨k, rfl, by omega, by go_num, HB4.out, HO4⟩
          case measure => omega
        | zero =>
          have hox := HO.out
          rw [List.drop_zero, Nat.sub_zero] at hox
          have hlx : a.reverse.length = n := by rw [List.length_reverse, HA.out]
          obtain ⟨px, cx, rfl, hrx⟩ := row_owned (ks := a.reverse) (by rw [hlx]; exact hox)
          rw [hlx] at hox ⊢
          obtain ⟨hxn, hxc⟩ := own_facts hox
          have hbq : Below w.heap.size w wr := HWQ.out.trans (hbr.mono HWQ.out.size)
          have hl2 : ∀ V, Below wr.heap.size wr V → V.cell? ⟨gb, m, none⟩ = some (.int .i64 (lcs a b : Nat)) := fun V hV => HLN.out V (hbr.trans (hV.mono hbr.size))
          have HL2 := Lib.hid hl2
          have HRX := Lib.hid hrx
          have HXN := Lib.hid hxn
          have HWX := Lib.hid hbq
          clear hox hrx hxn hbr HO hsr HLN HBR HWQ hl2 hbq hlx
          go_upto_region 24 with fail
          generalize wr = wx at *
          go_loopg [13, 15] m (fun g v vi wr => ∃ k : Nat, k = g ∧ k ≤ m ∧ vi = .int .i64 ((k : Int) - 1) ∧ Below wx.heap.size wx wr ∧ Hid (wr.ownsRow wx.heap.size 9 1 v (m - k) (((b.drop k).reverse).map Value.string)))
          case atStart => exact ⟨m, rfl, Nat.le_refl _, rfl, Below.refl _ _, by
            show World.ownsRow _ _ _ _ _ _ _
            rw [Nat.sub_self, ← HB.out, List.drop_length]
            exact World.ownsRow_nil _ _ _ _⟩
          case round =>
            obtain ⟨k, rfl, hk, rfl, hbr, HO⟩ := hrel
            have hsr := hbr.size
            cases k with
            | succ k =>
              have e0 : ((k + 1 : Nat) : Int) - 1 = (k : Int) := by omega
              rw [e0]
              have hk0 : (0 : Int) ≤ (k : Int) := by omega
              have hkI : (k : Int) < (m : Int) := by omega
              have hkl : k < b.length := by rw [HB.out]; omega
              obtain ⟨b9, o9, rfl, h9⟩ := HQ.out.at k hkl
              have g9 := h9 wr (HWX.out.trans (hbr.mono HWX.out.size))
              have hdr := Lib.hid (show (b.drop k).reverse = (b.drop (k + 1)).reverse ++ [b[k]] from by rw [List.drop_eq_getElem_cons hkl, List.reverse_cons])
              have hnk := Lib.hid (show m - k = m - (k + 1) + 1 from by omega)
              obtain ⟨dn, hdn⟩ : ∃ dn, dn = ((b.drop (k + 1)).reverse).map Value.string := ⟨_, rfl⟩
              have ho := HO.out
              rw [← hdn] at ho
              have HBL := Lib.hid hbr
              have HDN := Lib.hid hdn
              clear h9 HO hbr e0 hdn
              generalize b[k] = x at *
              go_wp2_with (at_builtin; refine wpList_append_own _ rfl _ _ 34 rfl wx.heap.size 9 i0 (.string ⟨#[]⟩) 1 16 Try.underlying34 hi hz0 hz1 hz2 rfl (by decide) _ _ _ rfl (ho.alloc _) ⟨wr.heap.size, 0, none⟩ 1 1 [.string x] rfl rfl (cell_one_new _ _ _) (by simp [Value.oneCell']) (by unfold maxLen; omega) (by omega) (by simp; omega) ?_)
              intro v' w4 ho4 hgr4 _
              have hb4 : Below wx.heap.size wx w4 := (HBL.out.alloc hsr _).grown hgr4 (by simp; omega) (fun g hg => (ho.lt g hg).1)
              have HO4 : Hid (w4.ownsRow wx.heap.size 9 1 v' (m - k) (((b.drop k).reverse).map Value.string)) := by
                show World.ownsRow _ _ _ _ _ _ _
                rw [hdr.out, hnk.out, List.map_append, ← HDN.out]
                exact ho4
              have HB4 := Lib.hid hb4
              clear ho hgr4 ho4 hb4 HBL
              go_wp2_with fail
              go_roundg k
              case rel => exact ⟨k, rfl, by omega, by go_num, HB4.out, HO4⟩
              case measure => omega
            | zero =>
              have hox := HO.out
              rw [List.drop_zero, Nat.sub_zero] at hox
              have hly : b.reverse.length = m := by rw [List.length_reverse, HB.out]
              obtain ⟨py, cy, rfl, hry⟩ := row_owned (ks := b.reverse) (by rw [hly]; exact hox)
              rw [hly] at hox ⊢
              obtain ⟨hyn, hyc⟩ := own_facts hox
              have hbq : Below w.heap.size w wr := HWX.out.trans (hbr.mono HWX.out.size)
              have hl2 : ∀ V, Below wr.heap.size wr V → V.cell? ⟨gb, m, none⟩ = some (.int .i64 (lcs a b : Nat)) := fun V hV => HL2.out V (hbr.trans (hV.mono hbr.size))
              have HRX2 := Lib.hid (HRX.out.later hbr)
              have HL3 := Lib.hid hl2
              have HRY := Lib.hid hry
              have HYN := Lib.hid hyn
              have HWY := Lib.hid hbq
              clear hox hry hyn hbr HO hsr HL2 HWX hl2 hbq hly HRX
              go_upto_region 31 with fail
              generalize wr = wy at *
              go_loopg [16, 17, 18, 19] (l + 2) (fun g vi vj vf vk wr => ∃ K I J f : Nat, K + g = l + 2 ∧ vk = .int .i64 K ∧ vi = .int .i64 ((I : Int) - 1) ∧ vj = .int .i64 ((J : Int) - 1) ∧ vf = .int .i64 f ∧ I ≤ n ∧ J ≤ m ∧ f ≤ Lt a b I J ∧ Below wy.heap.size wy wr)
              case atStart => exact ⟨0, 0, 0, 0, by omega, rfl, rfl, rfl, rfl, Nat.zero_le _, Nat.zero_le _, Nat.zero_le _, Below.refl _ _⟩
              case round =>
                obtain ⟨K, I, J, f, hK, rfl, rfl, rfl, rfl, hIn, hJm, hf, hbr⟩ := hrel
                have hK0 : (0 : Int) ≤ (K : Int) := by omega
                have hK1 : IntKind.i64.wrap ((K : Int) + 1) = (K : Int) + 1 := by rw [Go.IntWalk.i64_left]; exact Go.IntWalk.wrap64_in _ ⟨by omega, by omega⟩
                have hK2 : IntKind.i64.wrap ((K : Int) + 2) = (K : Int) + 2 := by rw [Go.IntWalk.i64_left]; exact Go.IntWalk.wrap64_in _ ⟨by omega, by omega⟩
                have HF := Lib.hid hf
                have hKl : (K : Int) + 1 < 140737488355340 := by omega
                have HBR := Lib.hid hbr
                clear hf hbr
                go_upto_region 31 with fail
                go_cut [139] (fun v wx => v = .bool (decide (K + 1 < l ∧ 0 < n ∧ 0 < m)) ∧ wx = wr)
                case first =>
                  by_cases h1 : K + 1 < l
                  · have h1I : (K : Int) + 1 < (l : Int) := by omega
                    by_cases h2 : n = 0
                    · subst h2
                      go_wp2_with fail
                      go_meet
                      exact ⟨by rw [decide_eq_false (show ¬ (K + 1 < l ∧ 0 < _ ∧ 0 < _) from by first | omega | (have := H2.out; omega) | (have := H2.out; have := H3.out; omega))], rfl⟩
                    · have h2I : ((0 : Int) < (n : Int)) = True := eq_true (by omega)
                      have H2 := Lib.hid h2
                      have h2N : 0 < n := by omega
                      clear h2
                      by_cases h3 : m = 0
                      · subst h3
                        go_wp2_with fail
                        go_meet
                        exact ⟨by rw [decide_eq_false (show ¬ (K + 1 < l ∧ 0 < _ ∧ 0 < _) from by first | omega | (have := H2.out; omega) | (have := H2.out; have := H3.out; omega))], rfl⟩
                      · have h3I : ((0 : Int) < (m : Int)) = True := eq_true (by omega)
                        have H3 := Lib.hid h3
                        have h3N : 0 < m := by omega
                        clear h3
                        go_wp2_with fail
                        go_meet
                        exact ⟨by rw [decide_eq_true (show K + 1 < l ∧ 0 < n ∧ 0 < m from by first | omega | (have := H2.out; omega) | (have := H2.out; have := H3.out; omega))], rfl⟩
                  · have h1I : ((K : Int) + 1 < (l : Int)) = False := eq_false (by omega)
                    go_wp2_with fail
                    go_meet
                    exact ⟨by rw [decide_eq_false (show ¬ (K + 1 < l ∧ 0 < _ ∧ 0 < _) from by first | omega | (have := H2.out; omega) | (have := H2.out; have := H3.out; omega))], rfl⟩
                case rest =>
                  obtain ⟨rfl, rfl⟩ := hcut
                  by_cases hall : K + 1 < l ∧ 0 < n ∧ 0 < m
                  · obtain ⟨h1, h2, h3⟩ := hall
                    rw [decide_eq_true (And.intro h1 (And.intro h2 h3))]
                    have h1I : (K : Int) + 1 < (l : Int) := by omega
                    have h1J : (K : Int) < (l : Int) := by omega
                    have hKx : K < xs.length := by rw [HL.out]; omega
                    obtain ⟨b9, o9, rfl, _, h9⟩ := HR.out.at K hKx
                    have hKy : K + 1 < xs.length := by rw [HL.out]; exact h1
                    obtain ⟨b8, o8, e8, _, h8⟩ := HR.out.at (K + 1) hKy
                    injection e8 with e8
                    injection e8 with e8 e8'
                    subst e8 e8'
                    have hww : Below w.heap.size w wc := HWY.out.trans (HBR.out.mono HWY.out.size)
                    have g9 := h9 wc hww
                    have g8 := h8 wc hww
                    have hnI : (0 : Int) < (n : Int) := by omega
                    have hmI : (0 : Int) < (m : Int) := by omega
                    have hn0 : (n : Int) ≠ 0 := by omega
                    have hm0 : (m : Int) ≠ 0 := by omega
                    obtain ⟨K1, hKK⟩ : ∃ K1, K1 = K + 1 := ⟨_, rfl⟩
                    have hK3 : IntKind.i64.wrap ((K : Int) + 1) = (K1 : Int) := by rw [hK1]; omega
                    have k1 : (K1 : Int) < (l : Int) := by omega
                    have k2 : (0 : Int) ≤ (K1 : Int) := by omega
                    generalize xs[K] = xk at *
                    generalize xs[K + 1] = xj at *
                    rw [← hKK] at g8
                    obtain ⟨c, hcn, hce⟩ := pick_in xk n (by omega) hn100
                    obtain ⟨d, hdm, hde⟩ := pick_in xj m (by omega) hm100
                    have HK2 := Lib.hid hK2
                    have HH := Lib.hid h1
                    have HKK := Lib.hid hKK
                    clear h1 hK1 hK2 h9 h8 hKl h1I hKK
                    go_upto_region 35 with fail
                    try simp only [hce, hde]
                    clear hK3 g8 g9 hce hde k1 k2 h1J
                    have hwf := wrapS f (by omega) (by
                      have h1 := HF.out
                      have h2 := Lt_le a b I J
                      have h3 := HA.out
                      omega)
                    have hK2 := HK2.out
                    have hcI : (c : Int) < (n : Int) := by omega
                    have hdI : (d : Int) < (m : Int) := by omega
                    have hc0 : (0 : Int) ≤ (c : Int) := by omega
                    have hd0 : (0 : Int) ≤ (d : Int) := by omega
                    by_cases hc : I ≤ c
                    · have q1 : ((I : Int) - 1 < (c : Int)) = True := eq_true (by omega)
                      by_cases hd : J ≤ d
                      · have q2 : ((J : Int) - 1 < (d : Int)) = True := eq_true (by omega)
                        have hca : c < a.length := by rw [HA.out]; exact hcn
                        have hdb : d < b.length := by rw [HB.out]; exact hdm
                        obtain ⟨b6, o6, rfl, h6⟩ := HP.out.at c hca
                        obtain ⟨b7, o7, rfl, h7⟩ := HQ.out.at d hdb
                        have g6 := h6 wc hww
                        have g7 := h7 wc hww
                        have hmore := Lib.hid (fun (e : a[c] = b[d]) => Lt_more a b I J c d f HF.out hc hd hca hdb (by rw [List.getElem?_eq_getElem hca, List.getElem?_eq_getElem hdb, e]))
                        clear h6 h7
                        generalize a[c] = x at *
                        generalize b[d] = y at *
                        by_cases hxy : x = y
                        · subst hxy
                          have hf2 := Lib.hid (hmore.out rfl)
                          clear hmore
                          go_quiet (fail)
                          go_wp2_with fail
                          go_roundg (gk - 2)
                          case rel => exact ⟨K + 2, c + 1, d + 1, f + 1, by have := HH.out; omega, by go_num, by congr 1; omega, by congr 1; omega, by go_num, hcn, hdm, hf2.out, belowDN HBR.out _⟩
                          case measure => have := HH.out; omega
                        · have hxf := tl_ne hxy
                          clear hmore
                          go_quiet (fail)
                          try simp only [hxf]
                          go_wp2_with fail
                          go_roundg (gk - 2)
                          case rel => exact ⟨K + 2, I, J, f, by have := HH.out; omega, by go_num, rfl, rfl, rfl, hIn, hJm, HF.out, belowDN HBR.out _⟩
                          case measure => have := HH.out; omega
                      · have q2 : ((J : Int) - 1 < (d : Int)) = False := eq_false (by omega)
                        go_quiet (fail)
                        go_wp2_with fail
                        go_roundg (gk - 2)
                        case rel => exact ⟨K + 2, I, J, f, by have := HH.out; omega, by go_num, rfl, rfl, rfl, hIn, hJm, HF.out, belowDN HBR.out _⟩
                        case measure => have := HH.out; omega
                    · have q1 : ((I : Int) - 1 < (c : Int)) = False := eq_false (by omega)
                      go_quiet (fail)
                      go_wp2_with fail
                      go_roundg (gk - 2)
                      case rel => exact ⟨K + 2, I, J, f, by have := HH.out; omega, by go_num, rfl, rfl, rfl, hIn, hJm, HF.out, belowDN HBR.out _⟩
                      case measure => have := HH.out; omega
                  · rw [decide_eq_false hall]
                    have hbest := HL3.out wc HBR.out
                    have hmN : (m : Int) < (N : Int) := by have := HNM.out; omega
                    have hm0 : (0 : Int) ≤ (m : Int) := by omega
                    have hfl : (f : Int) ≤ ((lcs a b : Nat) : Int) := by
                      have h1 := HF.out
                      have h2 := Lt_mono a b hIn hJm
                      rw [← HA.out, ← HB.out, Lt_all] at h2
                      rw [HA.out, HB.out] at *
                      omega
                    have hx1 : a.reverse.length = n := by rw [List.length_reverse, HA.out]
                    have hy1' : b.reverse.length = m := by rw [List.length_reverse, HB.out]
                    have hcx : (comm a.reverse b.reverse).length = lcs a b := by rw [comm_small _ _ (by rw [hx1]; exact hn100) (by rw [hy1']; exact hm100), lcs_reverse]
                    have hcy : (comm b a).length = lcs a b := by rw [comm_small b a (by rw [HB.out]; exact hm100) (by rw [HA.out]; exact hn100), lcs_comm]
                    have cX := common_any wc px py n m cx cy a.reverse b.reverse hx1 hy1' (by omega) (by omega) (HRX2.out.later HBR.out) (HRY.out.later HBR.out) HXN.out HYN.out hxc hyc (fun t ht => HSZ.out t (by
                      rcases List.mem_append.1 ht with h | h
                      · exact List.mem_append_left _ (List.mem_reverse.1 h)
                      · exact List.mem_append_right _ (List.mem_reverse.1 h)))
                    have hww : Below w.heap.size w wc := HWY.out.trans (HBR.out.mono HWY.out.size)
                    have cY := fun V (hb : Below w.heap.size w V) => common_any V q0 p0 m n d0 c0 b a HB.out HA.out (by omega) (by omega) (HQ.out.later hb) (HP.out.later hb) HQN.out HPN.out hmd hnc (fun t ht => HSZ.out t (by
                      rcases List.mem_append.1 ht with h | h
                      · exact List.mem_append_right _ h
                      · exact List.mem_append_left _ h))
                    have HALL := Lib.hid hall
                    clear hall
                    have HCX := Lib.hid hcx
                    have HCY := Lib.hid hcy
                    have HWW := Lib.hid hww
                    clear hcx hcy hww hx1 hy1'
                    go_wp2_with fail
                    refine cX.mono ?_
                    rintro e w8 ⟨hb8, x1, x2, rfl, -, -⟩
                    rw [HCX.out]
                    have hw8 : Below w.heap.size w w8 := HWW.out.trans (hb8.mono HWW.out.size)
                    have cY1 := cY w8 hw8
                    have HW8 := Lib.hid hw8
                    clear cX cY hb8 hw8
                    go_wp2_with fail
                    refine cY1.mono ?_
                    rintro e w9 ⟨hb9, y1, y2, rfl, -, -⟩
                    rw [HCY.out]
                    have hw9 : Below w.heap.size w w9 := HW8.out.trans (hb9.mono HW8.out.size)
                    clear cY1 hb9
                    go_wp2_with fail
                    go_ret
                    exact ⟨rfl, hw9⟩
end Go.Proofs.Ytmkjeelmeicjjaa
