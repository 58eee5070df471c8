/- DiffFits: the patch makes the one of the other: a walk over contracts. -/
import Derived.Test.YtmkjeelmeicjjaaDfFit
import Derived.Test.YtmkjeelmeicjjaaDfApart
import Derived.Deep.CutBlock
namespace Go.Proofs.Ytmkjeelmeicjjaa
open Go Go.RowKit

set_option maxRecDepth 100000 in
set_option maxHeartbeats 8000000 in
theorem diffFits_any (w : World) (p q : Option Addr) (n m c d : Nat) (a b : List Tx) (hn : a.length = n) (hm : b.length = m) (hnb : n ≤ 8796093021952) (hmb : m ≤ 8796093021952) (hp : StrRow w p a) (hq : StrRow w q b) (hpn : p = none → n = 0 ∧ c = 0) (hqn : q = none → m = 0 ∧ d = 0) (hnc : n ≤ c) (hmd : m ≤ d) (hsa : ∀ t ∈ a, t.size ≤ 140737488355328) (hsb : ∀ t ∈ b, t.size ≤ 140737488355328) :
    Calls Try.prog 7 #[.slice p n c, .slice q m d] w fun e w' => e = .returned (.bool true) ∧ Below w.heap.size w w' := by
  obtain ⟨i0, hi, hz0, hz1, hz2⟩ := info_parts strInfo
  have cW := works_any w
  have hab : ∀ t ∈ a ++ b, t.size ≤ maxLen := fun t ht => by
    unfold maxLen
    rcases List.mem_append.1 ht with h | h
    · have := hsa t h; omega
    · have := hsb t h; omega
  have cC := fun W (hb : Below w.heap.size w W) => common_any W p q n m c d a b hn hm (by omega) (by omega) (hp.later hb) (hq.later hb) hpn hqn hnc hmd hab
  have cL := fun W px py cx cy (hx : StrRow W px a) (hy : StrRow W py b) hxn hyn hxc hyc => lines_any W px py n m cx cy a b hn hm (by omega) (by omega) hx hy hxn hyn hxc hyc hab
  have hpl := patch_small a b
  have cA := fun W ph ch us B (hb : Below w.heap.size w W) (hh : HkOwn B W (.slice ph (patch a b).length ch) (patch a b) us) => applied_any W p ph n c (patch a b).length ch a (patch a b) b hn rfl (by omega) (by omega) (hp.later hb) hpn hnc us B hh (patch_fit a b).1 (patch_fit a b).2 (by omega)
  have cS := fun W px nx cx (xs : List Tx) (hb : Below w.heap.size w W) (hx : StrRow W px xs) (hl : xs.length = nx) hbx => same_any W px q nx m cx d xs b hx (hq.later hb) hl hm hbx (by omega)
  have cS2 := fun W (hb : Below w.heap.size w W) => same_any W p q n m c d a b (hp.later hb) (hq.later hb) hn hm (by omega) (by omega)
  have hsum := patch_sums a b
  have hge := comm_ge a b
  have hnone := patch_none a b
  have HN := Lib.hid hn
  have HM := Lib.hid hm
  have HP := Lib.hid hp
  have HQ := Lib.hid hq
  rw [hn, hm] at hsum
  clear hn hm hp hq hab hsa hsb
  rw [HM.out] at cA
  go_enter Try.func7, Try.ntmps7
  go_wp2_with fail
  refine cW.mono ?_
  rintro e w1 ⟨rfl, hb1⟩
  have hs1 := hb1.size
  have HB1 := Lib.hid hb1
  have l1 := World.ownsRow_lit (base := w1.heap.size) (e := 9) (size := 1) w1 #[] 0 (Nat.le_refl _) (Nat.zero_le _) rfl
  have hp1 := HP.out.later (hb1.alloc hs1 (.cells #[] 9))
  clear cW hb1
  go_wp2_with (at_builtin; refine app_tx rfl _ _ 34 rfl w1.heap.size 9 i0 (.string ⟨#[]⟩) Try.underlying34 hi hz0 hz1 hz2 rfl _ 0 [] rfl l1 p n c a rfl HN.out hp1 hpn (by omega) (by simp) ?_)
  intro v2 w2 ho2 hgr2 _
  have hb2 : Below w1.heap.size w1 w2 := ((Below.refl _ _).alloc (Nat.le_refl _) _).grown hgr2 (by simp) (fun g hg => (l1.lt g hg).1)
  have ho2' : w2.ownsRow w1.heap.size 9 1 v2 a.length (a.map Value.string) := by rw [HN.out]; simpa using ho2
  obtain ⟨px, cx, rfl, hrx⟩ := row_owned ho2'
  obtain ⟨hxn, hxc⟩ := own_facts ho2'
  rw [HN.out] at hxn hxc
  rw [HN.out]
  have hbw2 := HB1.out.trans (hb2.mono hs1)
  have hs2 := hbw2.size
  have HB2 := Lib.hid hbw2
  have HRX := Lib.hid hrx
  have l2 := World.ownsRow_lit (base := w2.heap.size) (e := 9) (size := 1) w2 #[] 0 (Nat.le_refl _) (Nat.zero_le _) rfl
  have hq2 := HQ.out.later (hbw2.alloc hs2 (.cells #[] 9))
  clear ho2 ho2' hgr2 hb2 hbw2 l1 hp1 hrx HB1
  go_wp2_with (at_builtin; refine app_tx rfl _ _ 34 rfl w2.heap.size 9 i0 (.string ⟨#[]⟩) Try.underlying34 hi hz0 hz1 hz2 rfl _ 0 [] rfl l2 q m d b rfl HM.out hq2 hqn (by omega) (by simp) ?_)
  intro v3 w3 ho3 hgr3 _
  have hb3 : Below w2.heap.size w2 w3 := ((Below.refl _ _).alloc (Nat.le_refl _) _).grown hgr3 (by simp) (fun g hg => (l2.lt g hg).1)
  have ho3' : w3.ownsRow w2.heap.size 9 1 v3 b.length (b.map Value.string) := by rw [HM.out]; simpa using ho3
  obtain ⟨py, cy, rfl, hry⟩ := row_owned ho3'
  obtain ⟨hyn, hyc⟩ := own_facts ho3'
  rw [HM.out] at hyn hyc
  rw [HM.out]
  have hbw3 := HB2.out.trans (hb3.mono hs2)
  have hs3 := hbw3.size
  have HB3 := Lib.hid hbw3
  have HRX3 := Lib.hid (HRX.out.later hb3)
  have HRY := Lib.hid hry
  clear ho3 ho3' hgr3 hb3 hbw3 l2 hq2 hry HB2 HRX
  go_wp2_with fail
  refine (cL w3 px py cx cy HRX3.out HRY.out hxn hyn hxc hyc).mono ?_
  rintro e w4 ⟨hb4, ph, ch, us, rfl, hrh, hoh⟩
  have hbw4 := HB3.out.trans (hb4.mono hs3)
  have hs4 := hbw4.size
  have cA4 := cA w4 ph ch us _ hbw4 hoh
  have HB4 := Lib.hid hbw4
  have HRH := Lib.hid hrh
  clear cL cA hb4 hbw4 hrh hoh HB3 HRX3 HRY
  have cZ := fun W (hb : Below w4.heap.size w4 W) => size_sz W ph (patch a b).length ch _ (by rw [List.length_map]) (by omega) (sz_of (HRH.out.later hb))
  have e1 : ((patch a b).map fun x => (x.old.length, x.new.length)).map (·.1) = (patch a b).map (·.old.length) := by rw [List.map_map]; rfl
  have e2 : ((patch a b).map fun x => (x.old.length, x.new.length)).map (·.2) = (patch a b).map (·.new.length) := by rw [List.map_map]; rfl
  rw [e1, e2, sumI_small _ (by omega), sumI_small _ (by omega)] at cZ
  clear e1 e2
  have hE : (((patch a b).length : Int) == 0) = decide (a = b) := by
    by_cases h : a = b
    · rw [decide_eq_true h, hnone.2 h]; rfl
    · rw [decide_eq_false h]
      have : (patch a b).length ≠ 0 := fun e => h (hnone.1 (List.eq_nil_of_length_eq_zero e))
      exact beq_false_of_ne (fun e => this (by omega))
  clear hnone
  generalize ((patch a b).map (·.old.length)).sum = so at *
  generalize ((patch a b).map (·.new.length)).sum = sn at *
  generalize (patch a b).length = H at *
  generalize decide (a = b) = eqv at *
  go_wp2_with fail
  refine cA4.mono ?_
  rintro e w5 ⟨hb5, pb, cb, rfl, hrb⟩
  have hbw5 := HB4.out.trans (hb5.mono hs4)
  have hs5 := hbw5.size
  have HB45 := Lib.hid hb5
  have HB5 := Lib.hid hbw5
  have HRB := Lib.hid hrb
  have HP5 := Lib.hid (HP.out.later hbw5)
  have HQ5 := Lib.hid (HQ.out.later hbw5)
  clear cA4 hb5 hbw5 hrb HB4 HP HQ
  go_upto_block 0 with fail
  go_cut [8] (fun v wx => v = .int .i64 (pre a b : Nat) ∧ Below w5.heap.size w5 wx)
  case first =>
    go_wp2_with fail
    go_loopw [8] (fun i wr => ∃ k : Nat, k ≤ n ∧ k ≤ m ∧ i = .int .i64 k ∧ Below w5.heap.size w5 wr ∧ Hid (∀ j, j < k → a[j]? = b[j]?)) (fun i _ => n - (intOf i).toNat)
    case atStart => exact ⟨0, by omega, by omega, rfl, Below.refl _ _, fun j hj => absurd hj (Nat.not_lt_zero _)⟩
    case round =>
      obtain ⟨k, hkn0, hkm0, rfl, hbr, HS⟩ := hrel
      have hk0 : (0 : Int) ≤ (k : Int) := Int.natCast_nonneg _
      by_cases hlt : k < n
      · have hkn : (k : Int) < (n : Int) := by omega
        by_cases hlm : k < m
        · have hka : k < a.length := by rw [HN.out]; omega
          have hkb : k < b.length := by rw [HM.out]; omega
          obtain ⟨b1, o1, rfl, h1c⟩ := HP5.out.at k hka
          obtain ⟨b2, o2, rfl, h2c⟩ := HQ5.out.at k hkb
          have g1 := h1c wr hbr
          have g2 := h2c wr hbr
          have hkm : (k : Int) < (m : Int) := by omega
          have hyes := Lib.hid (fun (e : a[k] = b[k]) j (hj : j < k + 1) => (show a[j]? = b[j]? from by
            by_cases e' : j = k
            · rw [e']; exact (get_ne hka hkb).2 e
            · exact HS.out j (by omega)))
          have hno := Lib.hid (fun (e : ¬ a[k] = b[k]) => pre_is a b k (by omega) (by omega) HS.out (fun _ _ h => e ((get_ne hka hkb).1 h)))
          have HB := Lib.hid hbr
          clear h1c h2c HS hbr
          generalize a[k] = x at *
          generalize b[k] = y at *
          by_cases hxy : x = y
          · subst hxy
            have hy : Hid (∀ j, j < k + 1 → a[j]? = b[j]?) := hyes.out rfl
            clear hyes hno
            go_wp2_with fail
            go_quiet (fail)
            go_wp2
            go_roundw
            case rel => exact ⟨k + 1, by omega, by omega, by go_num, belowDN HB.out _, hy⟩
            case measure => simp [intOf]; omega
          · have hy := Lib.hid (hno.out hxy)
            clear hyes hno
            go_wp2_with fail
            go_quiet (fail)
            have hxf := tl_ne hxy
            simp only [hxf]
            go_wp2
            go_meet
            exact ⟨by rw [hy.out], belowDN HB.out _⟩
        · have hkm : ¬ (k : Int) < (m : Int) := by omega
          have hy := Lib.hid (pre_is a b k (by rw [HN.out]; omega) (by rw [HM.out]; omega) HS.out (fun h1 h2 => by rw [HM.out] at h2; omega))
          have HB := Lib.hid hbr
          clear HS hbr
          go_wp2_with fail
          go_quiet (fail)
          go_wp2
          go_meet
          exact ⟨by rw [hy.out], belowDN HB.out _⟩
      · have hkn : ¬ (k : Int) < (n : Int) := by omega
        have hy := Lib.hid (pre_is a b k (by rw [HN.out]; omega) (by rw [HM.out]; omega) HS.out (fun h1 h2 => by rw [HN.out] at h1; omega))
        have HB := Lib.hid hbr
        clear HS hbr
        go_wp2_with fail
        go_quiet (fail)
        go_wp2
        go_meet
        exact ⟨by rw [hy.out], belowDN HB.out _⟩
  case rest =>
    obtain ⟨rfl, hbc⟩ := hcut
    have HSI := Lib.hid (suf_is a b)
    have hsl := suf_le a b
    rw [HN.out, HM.out] at hsl
    generalize hP : pre a b = P at *
    clear hP
    go_upto_block 2 with fail
    go_cut [9] (fun v wx => v = .int .i64 (suf a b : Nat) ∧ Below w5.heap.size w5 wx)
    case first =>
      go_wp2_with fail
      go_loopw [9] (fun i wr => ∃ k : Nat, P + k ≤ n ∧ P + k ≤ m ∧ i = .int .i64 k ∧ Below w5.heap.size w5 wr ∧ Hid (∀ j, j < k → a[a.length - 1 - j]? = b[b.length - 1 - j]?)) (fun i _ => n - (intOf i).toNat)
      case atStart => exact ⟨0, by omega, by omega, rfl, hbc, fun j hj => absurd hj (Nat.not_lt_zero _)⟩
      case round =>
        obtain ⟨k, hkn0, hkm0, rfl, hbr, HS⟩ := hrel
        have hk0 : (0 : Int) ≤ (k : Int) := Int.natCast_nonneg _
        have hv1 : IntKind.i64.wrap ((n : Int) - P) = (n : Int) - P := by rw [Go.IntWalk.i64_left]; exact Go.IntWalk.wrap64_in _ ⟨by omega, by omega⟩
        have hv1b : IntKind.i64.wrap ((m : Int) - P) = (m : Int) - P := by rw [Go.IntWalk.i64_left]; exact Go.IntWalk.wrap64_in _ ⟨by omega, by omega⟩
        by_cases hlt : P + k < n
        · have hkn : (k : Int) < (n : Int) - (P : Int) := by omega
          by_cases hlm : P + k < m
          · have hkm : (k : Int) < (m : Int) - (P : Int) := by omega
            have hka : n - 1 - k < a.length := by rw [HN.out]; omega
            have hkb : m - 1 - k < b.length := by rw [HM.out]; omega
            obtain ⟨b1, o1, rfl, h1c⟩ := HP5.out.at (n - 1 - k) hka
            obtain ⟨b2, o2, rfl, h2c⟩ := HQ5.out.at (m - 1 - k) hkb
            have g1 := h1c wr hbr
            have g2 := h2c wr hbr
            have hv2 : IntKind.i64.wrap ((n : Int) - 1) = (n : Int) - 1 := by rw [Go.IntWalk.i64_left]; unfold wrap64; omega
            have hv3 : IntKind.i64.wrap ((m : Int) - 1) = (m : Int) - 1 := by rw [Go.IntWalk.i64_left]; unfold wrap64; omega
            have hv4 : IntKind.i64.wrap ((n : Int) - 1 - k) = ((n - 1 - k : Nat) : Int) := by rw [Go.IntWalk.i64_left]; unfold wrap64; omega
            have hv5 : IntKind.i64.wrap ((m : Int) - 1 - k) = ((m - 1 - k : Nat) : Int) := by rw [Go.IntWalk.i64_left]; unfold wrap64; omega
            have hb1 : ((n - 1 - k : Nat) : Int) < n := by omega
            have hb2 : ((m - 1 - k : Nat) : Int) < m := by omega
            have hyes := Lib.hid (fun (e : a[n - 1 - k] = b[m - 1 - k]) j (hj : j < k + 1) => (show a[a.length - 1 - j]? = b[b.length - 1 - j]? from by
              by_cases e' : j = k
              · rw [e', HN.out, HM.out]; exact (get_ne2 hka hkb).2 e
              · exact HS.out j (by omega)))
            have hno := Lib.hid (fun (e : ¬ a[n - 1 - k] = b[m - 1 - k]) => HSI.out k (by rw [HN.out]; omega) (by rw [HM.out]; omega) HS.out (fun _ _ h => e ((get_ne2 hka hkb).1 (by rw [HN.out, HM.out] at h; exact h))))
            have HB := Lib.hid hbr
            clear h1c h2c HS hbr
            generalize a[n - 1 - k] = x at *
            generalize b[m - 1 - k] = y at *
            generalize n - 1 - k = u at *
            generalize m - 1 - k = v at *
            by_cases hxy : x = y
            · subst hxy
              have hy : Hid (∀ j, j < k + 1 → a[a.length - 1 - j]? = b[b.length - 1 - j]?) := hyes.out rfl
              clear hyes hno
              go_wp2_with fail
              go_quiet (fail)
              go_wp2
              go_roundw
              case rel => exact ⟨k + 1, by omega, by omega, by go_num, belowDN HB.out _, hy⟩
              case measure => simp [intOf]; omega
            · have hy := Lib.hid (hno.out hxy)
              clear hyes hno
              go_wp2_with fail
              go_quiet (fail)
              have hxf := tl_ne hxy
              simp only [hxf]
              go_wp2
              go_meet
              exact ⟨by rw [hy.out], belowDN HB.out _⟩
          · have hkm : ((k : Int) < (m : Int) - (P : Int)) = False := eq_false (by omega)
            have hy := Lib.hid (HSI.out k (by rw [HN.out]; omega) (by rw [HM.out]; omega) HS.out (fun h1 h2 => by rw [HM.out] at h2; omega))
            have HB := Lib.hid hbr
            clear HS hbr
            go_wp2_with fail
            go_quiet (fail)
            go_wp2
            go_meet
            exact ⟨by rw [hy.out], belowDN HB.out _⟩
        · have hkn : ((k : Int) < (n : Int) - (P : Int)) = False := eq_false (by omega)
          have hy := Lib.hid (HSI.out k (by rw [HN.out]; omega) (by rw [HM.out]; omega) HS.out (fun h1 h2 => by rw [HN.out] at h1; omega))
          have HB := Lib.hid hbr
          clear HS hbr
          go_wp2_with fail
          go_quiet (fail)
          go_wp2
          go_meet
          exact ⟨by rw [hy.out], belowDN HB.out _⟩
    case rest =>
      obtain ⟨rfl, hbc2⟩ := hcut
      have hZb := HB45.out.trans (hbc2.mono HB45.out.size)
      have cZ6 := cZ wc hZb
      have hbw6 := HB5.out.trans (hbc2.mono hs5)
      have hs6 := hbw6.size
      have HB6 := Lib.hid hbw6
      have HRB6 := Lib.hid (HRB.out.later hbc2)
      clear cZ hbc hbc2 hZb hbw6 HB45 HRB HSI
      go_wp2_with fail
      refine cZ6.mono ?_
      rintro e w7 ⟨rfl, hb7⟩
      have hbw7 := HB6.out.trans (hb7.mono hs6)
      have hs7 := hbw7.size
      have cC7 := cC w7 hbw7
      have HB7 := Lib.hid hbw7
      have HRB7 := Lib.hid (HRB6.out.later hb7)
      clear cZ6 hb7 hbw7 HB6 HRB6 cC
      go_wp2_with fail
      refine cC7.mono ?_
      rintro e w8 ⟨hb8, pc, cc, rfl, _, _⟩
      have hbw8 := HB7.out.trans (hb8.mono hs7)
      have hs8 := hbw8.size
      have cS8 := cS w8 pb m cb b hbw8 (HRB7.out.later hb8) HM.out (by omega)
      rw [decide_eq_true rfl] at cS8
      have HB8 := Lib.hid hbw8
      clear cC7 hb8 hbw8 HB7 HRB7 cS
      obtain ⟨C, hC⟩ : ∃ C, (comm a b).length = C := ⟨_, rfl⟩
      obtain ⟨S, hS⟩ : ∃ S, suf a b = S := ⟨_, rfl⟩
      rw [hC] at hsum hge
      rw [hS] at hge hsl
      rw [hC, hS]
      clear hC hS
      have t1 : (so : Int) ≤ (n : Int) - P - S := by omega
      have t2 : (sn : Int) ≤ (m : Int) - P - S := by omega
      have t3 : (n : Int) - C = (so : Int) := by omega
      have t4 : (m : Int) - C = (sn : Int) := by omega
      go_wp2_with fail
      refine cS8.mono ?_
      rintro e w9 ⟨rfl, hb9⟩
      have hbw9 := HB8.out.trans (hb9.mono hs8)
      have hs9 := hbw9.size
      have cS9 := cS2 w9 hbw9
      have HB9 := Lib.hid hbw9
      clear cS8 hb9 hbw9 HB8 cS2
      go_wp2_with fail
      refine cS9.mono ?_
      rintro e wz ⟨rfl, hbz⟩
      have HBZ := Lib.hid (HB9.out.trans (hbz.mono hs9))
      clear cS9 hbz HB9
      cases eqv
      · go_wp2_with fail
        go_ret
        exact ⟨rfl, HBZ.out⟩
      · go_wp2_with fail
        go_ret
        exact ⟨rfl, HBZ.out⟩
end Go.Proofs.Ytmkjeelmeicjjaa
