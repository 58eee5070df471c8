/- HunkChecks: a walk over contracts. -/
import Derived.Test.YtjmnbnlhahbcjaaHuMark
import Derived.Test.YtjmnbnlhahbcjaaHuRefFt
namespace Go.Proofs.Ytjmnbnlhahbcjaa
open Go Go.RowKit

set_option maxRecDepth 100000 in
set_option maxHeartbeats 8000000 in
theorem hunkChecks_any (w : World) (p : Option Addr) (n c : Nat) (hs : List Hu) (q : Option Addr) (m d : Nat) (a : List Tx) (hn : hs.length = n) (hnb : n ≤ 2513169434900) (hr : HuRow w p hs) (hB : HuB hs) (hm : a.length = m) (hmb : m ≤ 8796093021952) (hq : TxP w q d a) :
    Calls Try.prog 5 #[.slice p n c, .slice q m d] w fun e w' => e = .returned (.bool true) ∧ Below w.heap.size w w' := by
  obtain ⟨i0, hi, hz0, hz1, hz2⟩ := info_parts strInfo
  have cT := twin_any w p n c hs hn hnb hr hB
  have cA := fun W (hb : Below w.heap.size w W) => refCheck_any W p n c hs hn (by omega) (hr.later hb) hB
  have cF := fun W (hb : Below w.heap.size w W) => refFits_any W p n c hs q m d a hn (by omega) (hr.later hb) hB hm hmb (hq.later hb)
  have cB := fun W ph ch (hx : HuRow W ph hs) => check_any W ph n ch hs hn (by omega) hx hB
  have cG := fun W ph ch g dd (hx : HuRow W ph hs) (hy : TxP W (some ⟨g, 0, none⟩) dd a) => fits_any W ph n ch hs (some ⟨g, 0, none⟩) m dd a hn (by omega) hx hB hm hmb hy
  have cS := fun W ph ch (hb : Below w.heap.size w W) (hx : HuRow W ph hs) => refSameT_any W ph p n n ch c hs hx (hr.later hb) hn hn (by omega) (fun h hh => ⟨by have := (hB h hh).1; omega, by have := (hB h hh).2.1; omega⟩)
  have cX := fun W g dd (hb : Below w.heap.size w W) (hy : TxP W (some ⟨g, 0, none⟩) dd a) => refTexts_any W (some ⟨g, 0, none⟩) q m m dd d a a hy.1 (hq.later hb).1 hm hm (by omega) (by omega)
  simp only [decide_true] at cX
  have HM := Lib.hid hm
  have HQ := Lib.hid hq
  have hN := Lib.hid hn
  clear hn hr hB hm hq
  generalize (chkX hs).1 = k1 at *
  generalize (chkX hs).2 = k2 at *
  generalize (fitX a hs).1 = k3 at *
  generalize (fitX a hs).2 = k4 at *
  go_enter Try.func5, Try.ntmps5
  go_wp2_with fail
  refine cT.mono ?_
  rintro e w1 ⟨hb1, ph, ch, us, rfl, hrh, -⟩
  rw [hN.out]
  have hs1 := hb1.size
  have HB1 := Lib.hid hb1
  have l1 := World.ownsRow_lit (base := w1.heap.size) (e := 9) (size := 1) w1 #[] 0 (Nat.le_refl _) (Nat.zero_le _) rfl
  have hq1 := HQ.out.later (hb1.alloc hs1 (.cells #[] 9))
  clear cT hb1
  go_wp2_with (at_builtin; refine app_tx rfl _ _ 33 rfl w1.heap.size 9 i0 (.string ⟨#[]⟩) Try.underlying33 hi hz0 hz1 hz2 rfl _ 0 [] rfl l1 q m d a rfl HM.out hq1.1 (by rw [← HM.out]; exact hq1.2.1) (by omega) (by simp) ?_)
  intro v2 w2 ho2 hgr2 _
  have hb2 : Below w1.heap.size w1 w2 := ((Below.refl _ _).alloc (Nat.le_refl _) _).grown hgr2 (by simp) (fun g hg => by
    have : w1.heap.size = g := by simpa [Value.ownBlock] using hg
    omega)
  have hs12 := hb2.size
  have HB12 := Lib.hid hb2
  clear hgr2 hb2 l1 hq1
  go_wp2_with (at_builtin; refine app_tx rfl _ _ 33 rfl w1.heap.size 9 i0 (.string ⟨#[]⟩) Try.underlying33 hi hz0 hz1 hz2 rfl _ m a rfl (ho2.alloc _) (some ⟨w2.heap.size, 0, none⟩) 1 1 [tMark] rfl rfl (lit1 _ _ _) (fun e => by cases e) (by omega) (by simp; omega) ?_)
  intro v3 w3 ho3 hgr3 _
  have hb3 : Below w1.heap.size w1 w3 := (HB12.out.alloc hs12 _).grown hgr3 (by simp; omega) (fun g hg => (ho2.lt g hg).1)
  obtain ⟨g, cap, rfl, hcp, hg, hg2⟩ := own_ptr' ho3 (by omega)
  have hmk : MarkRow w3 w1.heap.size g cap a := ⟨by rw [HM.out, List.map_append]; exact ho3, by rw [HM.out]; exact hcp⟩
  have hbw3 := HB1.out.trans (hb3.mono hs1)
  have hs3 := hbw3.size
  have HB3 := Lib.hid hbw3
  have HRH3 := Lib.hid (hrh.later hb3)
  have HMK3 := Lib.hid hmk
  have hmc : (m : Int) ≤ (cap : Int) := by omega
  clear hgr3 hb3 hbw3 ho3 ho2 hmk hrh HB12
  go_wp2_with fail
  refine (cA w3 HB3.out).mono ?_
  rintro e w4 ⟨rfl, hb4⟩
  have hbw4 := HB3.out.trans (hb4.mono hs3)
  have hs4 := hbw4.size
  have HB4 := Lib.hid hbw4
  have HRH4 := Lib.hid (HRH3.out.later hb4)
  have HMK4 := Lib.hid (HMK3.out.later hb4)
  clear cA hb4 hbw4 HB3 HRH3 HMK3
  go_wp2_with fail
  refine (cB w4 ph ch HRH4.out).mono ?_
  rintro e w5 ⟨rfl, hb5⟩
  have hbw5 := HB4.out.trans (hb5.mono hs4)
  have hs5 := hbw5.size
  have HB5 := Lib.hid hbw5
  have HRH5 := Lib.hid (HRH4.out.later hb5)
  have HMK5 := Lib.hid (HMK4.out.later hb5)
  clear cB hb5 hbw5 HB4 HRH4 HMK4
  go_wp2_with fail
  refine (cF w5 HB5.out).mono ?_
  rintro e w6 ⟨rfl, hb6⟩
  have hbw6 := HB5.out.trans (hb6.mono hs5)
  have hs6 := hbw6.size
  have HB6 := Lib.hid hbw6
  have HRH6 := Lib.hid (HRH5.out.later hb6)
  have HMK6 := Lib.hid (HMK5.out.later hb6)
  clear cF hb6 hbw6 HB5 HRH5 HMK5
  go_wp2_with fail
  refine (cG w6 ph ch g cap HRH6.out HMK6.out.txp).mono ?_
  rintro e w7 ⟨rfl, hb7⟩
  have hbw7 := HB6.out.trans (hb7.mono hs6)
  have hs7 := hbw7.size
  have HB7 := Lib.hid hbw7
  have HRH7 := Lib.hid (HRH6.out.later hb7)
  have HMK7 := Lib.hid (HMK6.out.later hb7)
  clear cG hb7 hbw7 HB6 HRH6 HMK6
  go_wp2_with fail
  refine (cS w7 ph ch HB7.out HRH7.out).mono ?_
  rintro e w8 ⟨rfl, hb8⟩
  have hbw8 := HB7.out.trans (hb8.mono hs7)
  have hs8 := hbw8.size
  have HB8 := Lib.hid hbw8
  have HMK8 := Lib.hid (HMK7.out.later hb8)
  clear cS hb8 hbw8 HB7 HRH7 HMK7
  go_wp2_with fail
  refine (cX w8 g cap HB8.out HMK8.out.txp).mono ?_
  rintro e w9 ⟨rfl, hb9⟩
  have hbw9 := HB8.out.trans (hb9.mono hs8)
  have hmark := (HMK8.out.later hb9).mark
  rw [HM.out] at hmark
  have HB9 := Lib.hid hbw9
  have hm1 : (m : Int) + 1 ≤ (cap : Int) := by omega
  have hm2 : (m : Int) < (m : Int) + 1 := by omega
  have hm0 : (0 : Int) ≤ (m : Int) := by omega
  clear cX hb9 hbw9 HB8 HMK8
  unfold tMark at hmark
  go_wp2_with fail
  trace_state
  go_ret
  exact ⟨rfl, HB9.out⟩
end Go.Proofs.Ytjmnbnlhahbcjaa
