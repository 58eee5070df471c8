/- ViewPut, by a walk over the contracts. -/
import Derived.Test.YtdpikdkhemhmdaaViAwake
import Derived.Test.YtdpikdkhemhmdaaViPutC
namespace Go.Proofs.Ytdpikdkhemhmdaa
open Go Go.RowKit

theorem bang_ok {c : Nat} {x : Li} (hc : c < 18446744073709551616) (h : LiOk x) (hs : x.s.size ≤ reachBytes) : LiOk (bang c x) := ⟨hc, h.n, h.r, by
  show (x.s ++ (⟨#[33]⟩ : ByteArray)).size ≤ maxLen
  rw [ByteArray.size_append]
  have : (⟨#[33]⟩ : ByteArray).size = 1 := rfl
  unfold maxLen; simp only [reachBytes] at hs; omega⟩
set_option maxRecDepth 100000 in
set_option maxHeartbeats 8000000 in
theorem viewPut_any (w : World) (p : Option Addr) (n c : Nat) (xs : List Li) (a : Nat) (hn : xs.length = n) (hnm : n ≤ 3518437208780) (hr : LiRow w p xs) (hnil : p = none → n = 0 ∧ c = 0) (hf : ∀ x ∈ xs, LiOk x) (hsz : ∀ x ∈ xs, x.s.size ≤ reachBytes) (ha : a < 18446744073709551616) :
    Calls Try.prog 10 #[.slice p n c, .int .u64 a] w fun e w' => e = .returned (.bool true) ∧ Below w.heap.size w w' := by
  have hu : ∀ x ∈ xs, x.u < 18446744073709551616 := fun x hx => (hf x hx).u
  have cA := awake_any w
  obtain ⟨i0, hi, hz0, hz1, hz2⟩ := li_parts
  have hlm := filter_le xs (seenB a) (n := n) (by omega)
  have COf := Lib.hid (fun (W : World) (hW : Below w.heap.size w W) => of_any W p n c xs hn (by omega) (hr.later hW) hu a ha)
  have CHi := Lib.hid (fun (W : World) (hW : Below w.heap.size w W) => hidden_any W p n c xs hn (by omega) (hr.later hW) hu a ha)
  have CPut := Lib.hid (fun (W : World) (hW : Below w.heap.size w W) (q : Option Addr) (m d : Nat) (vs : List Li) (hm : vs.length = m) (hv : LiRow W q vs) (he : vs.length = (xs.filter (seenB a)).length) => put_yes W p q n c m d xs vs hn (by omega) hm (hr.later hW) hv hnil hu a ha he)
  have CEq := Lib.hid (fun (W : World) (q : Option Addr) (d : Nat) (hq : LiRow W q xs) (hW : Below w.heap.size w W) => refLines_any W q p n d c xs hn (by omega) hq (hr.later hW) hf)
  have PV := Lib.hid (putI_view (seenB a) xs)
  have HOK := Lib.hid (fun x (hx : x ∈ xs.filter (seenB a)) => bang_ok ha (hf x (List.mem_filter.1 hx).1) (hsz x (List.mem_filter.1 hx).1))
  have HSZ := Lib.hid (fun x (hx : x ∈ xs.filter (seenB a)) => hsz x (List.mem_filter.1 hx).1)
  have PS := Lib.hid (fun vs h hv => putI_seen (seenB a) xs vs h hv)
  have PH := Lib.hid (fun vs h hv => putI_hidden (seenB a) xs vs h hv)
  have PM := Lib.hid (fun vs h => putI_mem (f := seenB a) (xs := xs) (vs := vs) h)
  have PL := Lib.hid (fun vs => putI_len (seenB a) xs vs)
  have HN := Lib.hid hn
  have HU := Lib.hid hu
  have HF := Lib.hid hf
  clear hn hr hf hu hsz hnil
  go_enter Try.func10, Try.ntmps10
  go_wp2_with fail
  refine cA.mono ?_
  rintro e w1 ⟨rfl, hb1⟩
  have HB1 := Lib.hid hb1
  clear cA hb1
  go_wp2_with fail
  refine (COf.out _ HB1.out).mono ?_
  rintro e w2 ⟨hb2, p2, k2, rfl, hr2, ho2⟩
  have HB2 := Lib.hid (HB1.out.trans (hb2.mono HB1.out.size))
  have HR2 := Lib.hid hr2
  have HNL := Lib.hid (own_nil ho2)
  have CP2 := CPut.out w2 HB2.out p2 _ k2 _ rfl hr2 rfl
  rw [PV.out] at CP2
  clear hb2 hr2 HB1 ho2
  go_wp2_with fail
  refine CP2.mono ?_
  rintro e w3 ⟨hb3, p3, k3, rfl, _, hg3⟩
  obtain ⟨hr3, _⟩ := hg3 rfl
  have HB3 := Lib.hid (HB2.out.trans (hb3.mono HB2.out.size))
  have HR2' := Lib.hid (HR2.out.later hb3)
  have CE3 := CEq.out w3 p3 k3 hr3 HB3.out
  clear hg3 hr3 hb3 HB2 CP2 HR2
  rw [HN.out]
  simp only [if_true]
  go_wp2_with fail
  refine CE3.mono ?_
  rintro e w4 ⟨rfl, hb4⟩
  have HB4 := Lib.hid (HB3.out.trans (hb4.mono HB3.out.size))
  have HR4 := Lib.hid (HR2'.out.later hb4)
  clear hb4 HB3 CE3 HR2'
  generalize hvs : xs.filter (seenB a) = vs at *
  have HVS := Lib.hid hvs
  obtain ⟨m, hm⟩ : ∃ m, vs.length = m := ⟨_, rfl⟩
  rw [hm] at HNL hlm ⊢
  have HM := Lib.hid hm
  clear hvs hm
  have hown0 := World.ownsRow_made (e := 26) (size := 4) (base := w4.heap.size) w4 #[] 0 (Nat.le_refl _) (by unfold maxLen; omega) rfl
  have hbb0 : Below w4.heap.size w4 (w4.alloc (.cells #[] 26)) := (Below.refl _ w4).alloc (Nat.le_refl _) _
  go_wp2_with (first
    | (at_builtin; refine copy_li rfl _ _ 22 rfl w4.heap.size 26 i0 (.agg #[.int .u64 0, .int .i64 0, .int .i64 0, .string ⟨#[]⟩]) Try.underlying22 hi hz0 hz1 hz2 rfl _ rfl hown0 p2 m k2 vs rfl HM.out (HR4.out.later hbb0) HNL.out (by omega) (by simp) ?_; intro v5 w5 own5 hb5; obtain ⟨p5, k5, rfl, _⟩ := li_owned HM.out own5; have HO5 := Lib.hid own5; have HB5 := Lib.hid (HB4.out.trans ((hbb0.trans hb5).mono HB4.out.size)); have hbb5 : Below w4.heap.size w4 w5 := hbb0.trans hb5; clear hown0 own5 hb5))
  go_loopg [10] m (fun g vi wr => ∃ k : Nat, k + g = m ∧ vi = .int .i64 k ∧ Below w4.heap.size w4 wr ∧ Hid (wr.ownsRow w4.heap.size 26 4 (.slice p5 m k5) m (liCells (bangK a vs k))))
  case atStart => exact ⟨0, by omega, rfl, hbb5, by rw [bangK_zero]; exact HO5.out⟩
  case round =>
    obtain ⟨k, hk, rfl, hbr, HO⟩ := hrel
    by_cases hlt : k < m
    · have hlt' : k < vs.length := by rw [HM.out]; exact hlt
      have hkb : k < (bangK a vs k).length := by rw [bangK_len]; exact hlt'
      have hst := bangK_step (c := a) hlt'
      have hat := bangK_at (c := a) hlt'
      have hus := liCells_us (bangK a vs k) k a ((vs[k]).s ++ ⟨#[33]⟩) hkb
      rw [hat] at hus
      have hz := HSZ.out _ (List.getElem_mem hlt')
      have hst2 : (bangK a vs k).set k ⟨a, (vs[k]).n, (vs[k]).r, (vs[k]).s ++ ⟨#[33]⟩⟩ = bangK a vs (k + 1) := hst
      rw [hst2] at hus
      have hc3 := HO.out
      obtain ⟨gg, cap, hgv, hgB⟩ : ∃ gg cap, Value.slice p5 m k5 = .slice (some ⟨gg, 0, none⟩) m cap ∧ w4.heap.size ≤ gg := by
        rcases HO.out.2 with ⟨_, h0⟩ | ⟨gg, cap, cur, hv, hB, _⟩
        · omega
        · exact ⟨gg, cap, hv, hB⟩
      injection hgv with e1 e2 e3
      subst e1 e3
      have l3 : (liCells (bangK a vs k))[k * 4 + 3]? = some (.string (vs[k]).s) := by
        rw [liCells_at _ k 3 hkb (by omega), hat]; rfl
      have l0 : (liCells (bangK a vs k))[k * 4 + 0]? = some (.int .u64 (vs[k]).u) := by
        rw [liCells_at _ k 0 hkb (by omega), hat]; rfl
      have d3 := (HO.out.cellAt (k * 4 + 3) (by omega)).trans l3
      have d0 := (HO.out.cellAt (k * 4 + 0) (by omega)).trans l0
      rw [Nat.add_zero] at d0
      have f3 := HO.out.frozenAt (k * 4 + 3)
      have f0 := HO.out.frozenAt (k * 4)
      have hkI : (k : Int) < (m : Int) := by omega
      have hk0 : (0 : Int) ≤ (k : Int) := by omega
      have st0 := HO.out.stored (k * 4 + 3) (.string ((vs[k]).s ++ ⟨#[33]⟩))
      have st1 := st0.1.stored (k * 4) (.int .u64 a)
      have hrow := st1.1
      rw [hus] at hrow
      have HRW := Lib.hid hrow
      simp only [reachBytes] at hz
      have HBB := Lib.hid ((hbr.setCell (p := ⟨gg, k * 4 + 3, none⟩) hgB (.string ((vs[k]).s ++ ⟨#[33]⟩))).setCell (p := ⟨gg, k * 4, none⟩) hgB (.int .u64 a))
      generalize vs[k] = x at *
      clear hst hst2 hus hat l3 l0 st0 st1 hrow hbr HO hc3 hkb
      go_wp2_with fail
      go_roundg (gk - 1)
      case rel => exact ⟨k + 1, by omega, by go_num, HBB.out, HRW.out⟩
      case measure => omega
    · obtain rfl : k = m := by omega
      have hro := HO.out
      have hall := bangK_all a vs
      rw [HM.out] at hall
      rw [hall] at hro
      have hwl : (vs.map (bang a)).length = k := by rw [List.length_map]; exact HM.out
      have hws : ∀ x ∈ vs.map (bang a), seenB a x = true := fun x hx => by
        obtain ⟨y, _, rfl⟩ := List.mem_map.1 hx
        exact below_self a
      have hwo : ∀ x ∈ vs.map (bang a), LiOk x := fun x hx => by
        obtain ⟨y, hy, rfl⟩ := List.mem_map.1 hx
        exact HOK.out y hy
      have hwv : (vs.map (bang a)).length = vs.length := List.length_map ..
      generalize vs.map (bang a) = ws at *
      obtain ⟨p5', k5', hv5, hr5⟩ := li_owned hwl hro
      injection hv5 with e1 e2 e3
      subst e1 e3
      have HB5' := Lib.hid (HB4.out.trans (hbr.mono HB4.out.size))
      have CP6 := CPut.out wr HB5'.out p5 k k5 ws hwl hr5 hwv
      have hzs := PS.out ws hwv hws
      have hzh := PH.out ws hwv hws
      have hzm := PM.out ws hwv
      have hzl := PL.out ws
      have hzu : ∀ x ∈ putI (seenB a) xs ws, x.u < 18446744073709551616 := fun x hx => by
        rcases hzm x hx with h | h
        · exact HU.out x h
        · exact (hwo x h).u
      generalize putI (seenB a) xs ws = zs at *
      have HZ := Lib.hid hzs
      have HZH := Lib.hid hzh
      have HZL := Lib.hid hzl
      have HZU := Lib.hid hzu
      have HWO := Lib.hid hwo
      have HWL := Lib.hid hwl
      have HR5 := Lib.hid hr5
      clear hro hall hws hwo hwv hbr HO hzs hzh hzm hzl hzu PS PH PM PL CPut HOK HSZ hr5
      go_wp2_with fail
      refine CP6.mono ?_
      rintro e w6 ⟨hb6, p6, k6, rfl, _, hg6⟩
      obtain ⟨hr6, _⟩ := hg6 rfl
      have HB6 := Lib.hid (HB5'.out.trans (hb6.mono HB5'.out.size))
      have HR5b := Lib.hid (HR5.out.later hb6)
      have HR6 := Lib.hid hr6
      have hzn : zs.length = n := by rw [HZL.out, HN.out]
      have COf6 := of_any w6 p6 n k6 zs hzn (by omega) HR6.out HZU.out a ha
      rw [HZ.out] at COf6
      clear hg6 hr6 hb6 CP6 HB5' HR5
      simp only [if_true]
      go_wp2_with fail
      refine COf6.mono ?_
      rintro e w7 ⟨hb7, p7, k7, rfl, hr7, _⟩
      have HB7 := Lib.hid (HB6.out.trans (hb7.mono HB6.out.size))
      have HR7 := Lib.hid (HR6.out.later hb7)
      rw [HWL.out]
      have CE7 := refLines_any w7 p7 p5 k k7 k5 ws HWL.out (by omega) hr7 (HR5b.out.later hb7) HWO.out
      clear hb7 hr7 COf6 HB6 HR6 HR5b
      go_wp2_with fail
      refine CE7.mono ?_
      rintro e w8 ⟨rfl, hb8⟩
      have HB8 := Lib.hid (HB7.out.trans (hb8.mono HB7.out.size))
      have HR8 := Lib.hid (HR7.out.later hb8)
      have CH8 := hidden_any w8 p6 n k6 zs hzn (by omega) HR8.out HZU.out a ha
      rw [HZH.out] at CH8
      clear hb8 CE7 HB7 HR7 HR8
      go_wp2_with fail
      refine CH8.mono ?_
      rintro e w9 ⟨hb9, p9, k9, rfl, hr9, _⟩
      have HB9 := Lib.hid (HB8.out.trans (hb9.mono HB8.out.size))
      have HR9 := Lib.hid hr9
      have CH9 := CHi.out w9 HB9.out
      clear hb9 hr9 CH8 HB8 CHi
      go_wp2_with fail
      refine CH9.mono ?_
      rintro e w10 ⟨hb10, p10, k10, rfl, hr10, _⟩
      have HB10 := Lib.hid (HB9.out.trans (hb10.mono HB9.out.size))
      have CE10 := refLines_any w10 p9 p10 _ k9 k10 _ rfl (Nat.le_trans (List.length_filter_le _ _) (by rw [HN.out]; omega)) (HR9.out.later hb10) hr10 (filter_ok HF.out)
      clear hb10 hr10 CH9 HB9 HR9
      go_wp2_with fail
      refine CE10.mono ?_
      rintro e w11 ⟨rfl, hb11⟩
      have HB11 := Lib.hid (HB10.out.trans (hb11.mono HB10.out.size))
      clear hb11 CE10 HB10
      go_wp2_with fail
      go_ret
      exact ⟨rfl, HB11.out⟩
end Go.Proofs.Ytdpikdkhemhmdaa
