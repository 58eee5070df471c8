/- DiffNamesApart: only which texts are alike counts: a walk over contracts. -/
import Derived.Test.YtmkjeelmeicjjaaDfSame
import Derived.Test.YtmkjeelmeicjjaaDfWorks
namespace Go.Proofs.Ytmkjeelmeicjjaa
open Go Go.RowKit

def pfx (u : Tx) (a : List Tx) : List Tx := a.map (fun t => u ++ t)
theorem pfx_snoc (u : Tx) (a : List Tx) (k : Nat) (h : k < a.length) : pfx u (a.take (k + 1)) = pfx u (a.take k) ++ [u ++ a[k]] := by
  unfold pfx
  rw [List.take_succ_eq_append_getElem h, List.map_append]; rfl
theorem seg_le (a : List Tx) (i j : Nat) : (seg a i j).length ≤ a.length := by unfold seg; simp; omega
theorem hks_mem (a b : List Tx) : ∀ (i j : Nat) (qs : List (Nat × Nat)), ∀ h ∈ hks a b i j qs, h.old.length ≤ a.length ∧ h.new.length ≤ b.length
  | _, _, [], h, hh => by cases hh
  | i, j, q :: qs, h, hh => by
    rw [hks_cons, List.mem_append] at hh
    rcases hh with hh | hh
    · split at hh
      · cases hh
      · rw [List.mem_singleton] at hh
        subst hh
        exact ⟨seg_le _ _ _, seg_le _ _ _⟩
    · exact hks_mem a b _ _ qs h hh
theorem hks_txt (a b : List Tx) : ∀ (i j : Nat) (qs : List (Nat × Nat)), ∀ h ∈ hks a b i j qs, ∀ t ∈ h.new, t ∈ b
  | _, _, [], h, hh => by cases hh
  | i, j, q :: qs, h, hh => by
    rw [hks_cons, List.mem_append] at hh
    rcases hh with hh | hh
    · split at hh
      · cases hh
      · rw [List.mem_singleton] at hh
        subst hh
        exact fun t ht => List.mem_of_mem_take (List.mem_of_mem_drop ht)
    · exact hks_txt a b _ _ qs h hh
theorem patch_mem (a b : List Tx) {h : Hk Tx} (hh : h ∈ patch a b) : h.old.length ≤ a.length ∧ h.new.length ≤ b.length := hks_mem a b _ _ _ h hh
set_option maxRecDepth 100000 in
set_option maxHeartbeats 8000000 in
theorem diffApart_any (w : World) (p q : Option Addr) (n m c d : Nat) (a b : List Tx) (u : Tx) (hn : a.length = n) (hm : b.length = m) (hnb : n ≤ 8796093021952) (hmb : m ≤ 8796093021952) (hp : StrRow w p a) (hq : StrRow w q b) (hpn : p = none → n = 0 ∧ c = 0) (hqn : q = none → m = 0 ∧ d = 0) (hnc : n ≤ c) (hmd : m ≤ d) (hua : u.size ≤ 140737488355328) (hsa : ∀ t ∈ a, t.size ≤ 140737488355328) (hsb : ∀ t ∈ b, t.size ≤ 140737488355328) :
    Calls Try.prog 9 #[.slice p n c, .slice q m d, .string u] w fun e w' => e = .returned (.bool true) ∧ Below w.heap.size w w' := by
  obtain ⟨i0, hi, hz0, hz1, hz2⟩ := info_parts strInfo
  have cW := works_any w
  have hab : ∀ t ∈ a ++ b, t.size ≤ maxLen := fun t ht => by
    unfold maxLen
    rcases List.mem_append.1 ht with h | h
    · have := hsa t h; omega
    · have := hsb t h; omega
  have hxy : ∀ t ∈ pfx u a ++ pfx u b, t.size ≤ maxLen := fun t ht => by
    unfold maxLen
    rcases List.mem_append.1 ht with h | h
    · obtain ⟨s, hs, rfl⟩ := List.mem_map.1 h
      have := hsa s hs
      rw [ByteArray.size_append]; omega
    · obtain ⟨s, hs, rfl⟩ := List.mem_map.1 h
      have := hsb s hs
      rw [ByteArray.size_append]; omega
  have hla : (pfx u a).length = n := by unfold pfx; rw [List.length_map]; exact hn
  have hlb : (pfx u b).length = m := by unfold pfx; rw [List.length_map]; exact hm
  have cL := fun W (hb : Below w.heap.size w W) => lines_any W p q n m c d a b hn hm (by omega) (by omega) (hp.later hb) (hq.later hb) hpn hqn hnc hmd hab
  have cC := fun W (hb : Below w.heap.size w W) => common_any W p q n m c d a b hn hm (by omega) (by omega) (hp.later hb) (hq.later hb) hpn hqn hnc hmd hab
  have cL2 := fun W px py cx cy (hx : StrRow W px (pfx u a)) (hy : StrRow W py (pfx u b)) hxn hyn hxc hyc => lines_any W px py n m cx cy (pfx u a) (pfx u b) hla hlb (by omega) (by omega) hx hy hxn hyn hxc hyc hxy
  have cC2 := fun W px py cx cy (hx : StrRow W px (pfx u a)) (hy : StrRow W py (pfx u b)) hxn hyn hxc hyc => common_any W px py n m cx cy (pfx u a) (pfx u b) hla hlb (by omega) (by omega) hx hy hxn hyn hxc hyc hxy
  have hpm : patch (pfx u a) (pfx u b) = (patch a b).map (Hk.map (fun t => u ++ t)) := patch_map _ (app_inj u) a b
  have hcm : comm (pfx u a) (pfx u b) = comm a b := comm_map _ (app_inj u) a b
  rw [hpm] at cL2
  rw [hcm] at cC2
  have hcl : (comm a b).length ≤ n := by
    rw [comm_eq]
    have := midQ_len a b
    have := suf_le a b
    have := pre_le a b
    simp only [List.length_append, diagP_len, sh, List.length_map]
    omega
  have hpl := patch_small a b
  have HN := Lib.hid hn
  have HM := Lib.hid hm
  have HP := Lib.hid hp
  have HQ := Lib.hid hq
  have HSA := Lib.hid hsa
  have HSB := Lib.hid hsb
  have HLA := Lib.hid hla
  have HLB := Lib.hid hlb
  clear hn hm hp hq hab hxy hpm hcm hsa hsb hla hlb
  go_enter Try.func9, Try.ntmps9
  go_wp2_with fail
  refine cW.mono ?_
  rintro e w1 ⟨rfl, hb1⟩
  have hs1 := hb1.size
  have HB1 := Lib.hid hb1
  clear cW hb1
  go_wp2_with fail
  go_loopg [7, 9] n (fun g v vi wr => ∃ k : Nat, k + g = n ∧ vi = .int .i64 k ∧ Below w.heap.size w wr ∧ Hid (wr.ownsRow w.heap.size 9 1 v k ((pfx u (a.take k)).map Value.string)))
  case atStart => exact ⟨0, by omega, rfl, HB1.out, World.ownsRow_nil _ _ _ _⟩
  case round =>
    obtain ⟨k, hk, rfl, hbr, HO⟩ := hrel
    have hsr := hbr.size
    by_cases hlt : k < n
    · have hlt' : k < a.length := by rw [HN.out]; exact hlt
      obtain ⟨b1, o1, rfl, h1c⟩ := HP.out.at k hlt'
      have g1 := h1c wr hbr
      have hsn := Lib.hid (pfx_snoc u a k hlt')
      have hsx := HSA.out a[k] (List.getElem_mem hlt')
      have hkI : (k : Int) < (n : Int) := by omega
      have hk0 : (0 : Int) ≤ (k : Int) := by omega
      generalize a[k] = x at *
      have hov : (9223372036854775807 < u.size + x.size) = False := eq_false (by omega)
      have hov2 : u.size + x.size ≤ 9223372036854775807 := by omega
      have ho := HO.out
      have HB := Lib.hid hbr
      clear h1c HO hbr
      go_wp2_with (at_builtin; refine wpList_append_own _ rfl _ _ 34 rfl w.heap.size 9 i0 (.string ⟨#[]⟩) 1 16 Try.underlying34 hi hz0 hz1 hz2 rfl (by decide) _ _ _ rfl (ho.alloc _) ⟨wr.heap.size, 0, none⟩ 1 1 [.string (u ++ x)] rfl rfl (cell_one_new _ _ _) (by simp [Value.oneCell']) (by unfold maxLen; omega) (by omega) (by simp; omega) ?_)
      intro v' w4 ho4 hgr4 _
      have hb4 : Below w.heap.size w w4 := (HB.out.alloc hsr _).grown hgr4 (by simp; omega) (fun g hg => (ho.lt g hg).1)
      have HO4 : Hid (w4.ownsRow w.heap.size 9 1 v' (k + 1) ((pfx u (a.take (k + 1))).map Value.string)) := by
        show World.ownsRow _ _ _ _ _ _ _
        rw [hsn.out, List.map_append]
        exact ho4
      have HB4 := Lib.hid hb4
      clear ho hgr4 ho4 hb4 HB hov hov2
      go_wp2_with fail
      go_roundg (gk - 1)
      case rel => exact ⟨k + 1, by omega, by go_num, HB4.out, HO4⟩
      case measure => omega
    · obtain rfl : k = n := by omega
      have hall : a.take k = a := by rw [← HN.out]; exact List.take_length
      have hox := HO.out
      rw [hall] at hox
      rw [← HLA.out] at hox
      obtain ⟨px, cx, rfl, hrx⟩ := row_owned hox
      obtain ⟨hxn, hxc⟩ := own_facts hox
      rw [HLA.out] at hxn hxc
      rw [HLA.out]
      have HRX := Lib.hid hrx
      have HBX := Lib.hid hbr
      clear hox hrx HO hbr hall
      generalize wr = wx at *
      go_wp2_with fail
      go_loopg [8, 10] m (fun g v vi wy => ∃ t : Nat, t + g = m ∧ vi = .int .i64 t ∧ Below wx.heap.size wx wy ∧ Hid (wy.ownsRow wx.heap.size 9 1 v t ((pfx u (b.take t)).map Value.string)))
      case atStart => exact ⟨0, by omega, rfl, Below.refl _ _, World.ownsRow_nil _ _ _ _⟩
      case round =>
        obtain ⟨t, ht, rfl, hby, HO⟩ := hrel
        have hsy := hby.size
        by_cases hlt2 : t < m
        · have hlt' : t < b.length := by rw [HM.out]; exact hlt2
          obtain ⟨b1, o1, rfl, h1c⟩ := HQ.out.at t hlt'
          have g1 := h1c _ (HBX.out.trans (hby.mono hsr))
          have hsn := Lib.hid (pfx_snoc u b t hlt')
          have hsx := HSB.out b[t] (List.getElem_mem hlt')
          have htI : (t : Int) < (m : Int) := by omega
          have ht0 : (0 : Int) ≤ (t : Int) := by omega
          generalize b[t] = y at *
          have hov : (9223372036854775807 < u.size + y.size) = False := eq_false (by omega)
          have hov2 : u.size + y.size ≤ 9223372036854775807 := by omega
          have ho := HO.out
          have HB := Lib.hid hby
          clear h1c HO hby
          go_wp2_with (at_builtin; refine wpList_append_own _ rfl _ _ 34 rfl wx.heap.size 9 i0 (.string ⟨#[]⟩) 1 16 Try.underlying34 hi hz0 hz1 hz2 rfl (by decide) _ _ _ rfl (ho.alloc _) ⟨wr.heap.size, 0, none⟩ 1 1 [.string (u ++ y)] rfl rfl (cell_one_new _ _ _) (by simp [Value.oneCell']) (by unfold maxLen; omega) (by omega) (by simp; omega) ?_)
          intro v' w4 ho4 hgr4 _
          have hb4 := (HB.out.alloc hsy (.cells #[.string (u ++ y)] 9)).grown hgr4 (by simp; omega) (fun g hg => (ho.lt g hg).1)
          have HO4 : Hid (w4.ownsRow wx.heap.size 9 1 v' (t + 1) ((pfx u (b.take (t + 1))).map Value.string)) := by
            show World.ownsRow _ _ _ _ _ _ _
            rw [hsn.out, List.map_append]
            exact ho4
          have HB4 := Lib.hid hb4
          clear ho hgr4 ho4 hb4 HB hov hov2
          go_wp2_with fail
          go_roundg (gk - 1)
          case rel => exact ⟨t + 1, by omega, by go_num, HB4.out, HO4⟩
          case measure => omega
        · obtain rfl : t = m := by omega
          have hall : b.take t = b := by rw [← HM.out]; exact List.take_length
          have hoy := HO.out
          rw [hall] at hoy
          rw [← HLB.out] at hoy
          obtain ⟨py, cy, rfl, hry⟩ := row_owned hoy
          obtain ⟨hyn, hyc⟩ := own_facts hoy
          rw [HLB.out] at hyn hyc
          rw [HLB.out]
          have hbY := HBX.out.trans (hby.mono hsr)
          have hsY := hbY.size
          have HRY := Lib.hid hry
          have HRX2 := Lib.hid (HRX.out.later hby)
          have HBY := Lib.hid hbY
          clear hoy hry HO hby hbY hall HRX HBX
          generalize wr = wy at *
          go_wp2_with fail
          refine (cL wy HBY.out).mono ?_
          rintro e w3 ⟨hb3, pl, cl, us, rfl, hrl, _⟩
          have hB3 := HBY.out.trans (hb3.mono hsY)
          have HB3 := Lib.hid hB3
          have HX3 := Lib.hid (HRX2.out.later hb3)
          have HY3 := Lib.hid (HRY.out.later hb3)
          have HRL := Lib.hid hrl
          clear cL hb3 hrl hB3 HRX2 HRY HBY
          go_wp2_with fail
          refine (cL2 w3 px py cx cy HX3.out HY3.out hxn hyn hxc hyc).mono ?_
          rintro e w4 ⟨hb4, pm, cm, us2, rfl, hrm, _⟩
          have hs3 := HB3.out.size
          have hB4 := HB3.out.trans (hb4.mono hs3)
          have hs4 := hB4.size
          have HB4 := Lib.hid hB4
          have HX4 := Lib.hid (HX3.out.later hb4)
          have HY4 := Lib.hid (HY3.out.later hb4)
          have HRL4 := Lib.hid (HRL.out.later hb4)
          have HRM := Lib.hid hrm
          clear cL2 hb4 hrm hB4 HX3 HY3 HRL HB3
          obtain ⟨hs, hhs⟩ : ∃ hs, patch a b = hs := ⟨_, rfl⟩
          rw [hhs] at hpl HRL4 HRM
          rw [List.length_map, hhs]
          have HPM := Lib.hid (fun h (hh : h ∈ hs) => (show h.new.length ≤ 8796093021952 ∧ ∀ t ∈ h.new, t.size ≤ 140737488355328 from by rw [← hhs] at hh; exact ⟨Nat.le_trans (patch_mem a b hh).2 (by rw [HM.out]; exact hmb), fun t ht => HSB.out t (hks_txt a b _ _ _ h hh t ht)⟩))
          clear hhs
          obtain ⟨H, hH⟩ : ∃ H, hs.length = H := ⟨_, rfl⟩
          rw [hH] at hpl
          rw [hH]
          go_wp2_with fail
          go_loopw [13] (fun v wz => ∃ h : Nat, h ≤ H ∧ v = .int .i64 h ∧ Below w4.heap.size w4 wz) (fun v _ => H - (intOf v).toNat)
          case atStart => exact ⟨0, by omega, rfl, Below.refl _ _⟩
          case round =>
            obtain ⟨h, hh, rfl, hbz⟩ := hrel
            by_cases hlt3 : h < H
            · have hlt' : h < hs.length := by rw [hH]; exact hlt3
              have hlt'' : h < (hs.map (Hk.map fun t => u ++ t)).length := by rw [List.length_map]; exact hlt'
              obtain ⟨b1, o1, p1, c1, p2, c2, rfl, r1, r2, hc1⟩ := HRL4.out.at h hlt'
              obtain ⟨b3, o3, p3, c3, p4, c4, rfl, r3, r4, hc2⟩ := HRM.out.at h hlt''
              obtain ⟨g1, g2, g3⟩ := hc1 wr hbz
              obtain ⟨g4, g5, g6⟩ := hc2 wr hbz
              have r2' := r2.later (Below.refl _ _)
              simp only [List.getElem_map, Hk.map, List.length_map] at g4 g5 g6 r4 hc2
              obtain ⟨hnl, hns⟩ := HPM.out hs[h] (List.getElem_mem hlt')
              generalize hs[h].new = nw at *
              generalize hs[h].old.length = ol at *
              generalize hs[h].pos = ps at *
              have hhI : (h : Int) < (H : Int) := by omega
              have hh0 : (0 : Int) ≤ (h : Int) := by omega
              have HBZ := Lib.hid hbz
              have R2 := Lib.hid r2
              have R4 := Lib.hid r4
              have HC1 := Lib.hid (fun W hW => (hc1 W hW).2.2)
              have HC2 := Lib.hid (fun W hW => (hc2 W hW).2.2)
              have HNS := Lib.hid hns
              clear hc1 hc2 r1 r2 r2' r3 r4 hbz hns
              obtain ⟨K, hK⟩ : ∃ K, nw.length = K := ⟨_, rfl⟩
              rw [hK] at g3 g6 hnl
              rw [hK] at HC1 HC2
              go_wp2_with fail
              go_quiet (fail)
              clear g1 g2 g3 g4 g5 g6
              go_wp2_with fail
              go_loopw [14] (fun v wi => ∃ t : Nat, t ≤ K ∧ v = .int .i64 t ∧ Below w4.heap.size w4 wi) (fun v _ => K - (intOf v).toNat)
              case atStart => exact ⟨0, by omega, rfl, belowDN HBZ.out _⟩
              case round =>
                obtain ⟨t, ht, rfl, hbi⟩ := hrel
                have q3 := HC1.out _ hbi
                have q6 := HC2.out _ hbi
                by_cases hlt4 : t < K
                · have hltx : t < nw.length := by rw [hK]; exact hlt4
                  have hlty : t < (nw.map fun s => u ++ s).length := by rw [List.length_map]; exact hltx
                  obtain ⟨b5, o5, rfl, f1⟩ := R2.out.at t hltx
                  obtain ⟨b6, o6, rfl, f2⟩ := R4.out.at t hlty
                  have e1 := f1 _ hbi
                  have e2 := f2 _ hbi
                  rw [List.getElem_map] at e2
                  have hsx := HNS.out nw[t] (List.getElem_mem hltx)
                  generalize nw[t] = x at *
                  have hov : (9223372036854775807 < u.size + x.size) = False := eq_false (by omega)
                  have hov2 : u.size + x.size ≤ 9223372036854775807 := by omega
                  have htI : (t : Int) < (K : Int) := by omega
                  have ht0 : (0 : Int) ≤ (t : Int) := by omega
                  have HBI := Lib.hid hbi
                  clear f1 f2 hbi
                  go_wp2_with fail
                  go_quiet (fail)
                  go_wp2
                  go_roundw
                  case rel => exact ⟨t + 1, by omega, by go_num, belowDN HBI.out _⟩
                  case measure => simp [intOf]; omega
                · obtain rfl : t = K := by omega
                  have HBI := Lib.hid hbi
                  clear hbi
                  go_wp2_with fail
                  go_roundw
                  case rel => exact ⟨h + 1, by omega, by go_num, HBI.out⟩
                  case measure => simp [intOf]; omega
            · obtain rfl : h = H := by omega
              have hbW := HB4.out.trans (hbz.mono hs4)
              have cC5 := cC _ hbW
              have HX5 := HX4.out.later hbz
              have HY5 := HY4.out.later hbz
              have HBW := Lib.hid hbW
              have hsW := hbW.size
              clear hbz hbW cC
              go_wp2_with fail
              refine cC5.mono ?_
              rintro e w5 ⟨hb5, p5, c5, rfl, hr5, _⟩
              have cC6 := cC2 w5 px py cx cy (HX5.later hb5) (HY5.later hb5) hxn hyn hxc hyc
              have hb05 := HBW.out.trans (hb5.mono hsW)
              have hs5 := hb05.size
              have HB05 := Lib.hid hb05
              have HR5 := Lib.hid hr5
              clear cC5 cC2 hb5 hb05 hr5 HX5 HY5
              go_wp2_with fail
              refine cC6.mono ?_
              rintro e w6 ⟨hb6, p6, c6, rfl, hr6, _⟩
              have cS := samePairs_any w6 p5 p6 _ _ c5 c6 (comm a b) (HR5.out.later hb6) hr6 rfl rfl (by omega)
              have hb06 := HB05.out.trans (hb6.mono hs5)
              have hs6 := hb06.size
              have HB06 := Lib.hid hb06
              clear cC6 hb6 hb06 hr6 HR5
              go_wp2_with fail
              refine cS.mono ?_
              rintro e w7 ⟨rfl, hb7⟩
              have HB7 := Lib.hid (HB06.out.trans (hb7.mono hs6))
              clear hb7 cS
              go_wp2_with fail
              go_ret
              exact ⟨rfl, HB7.out⟩
end Go.Proofs.Ytmkjeelmeicjjaa
