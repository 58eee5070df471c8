/- IdentCounts, by a walk over the contracts. -/
import Derived.Test.YtbcfmckhgjcakaaIdTwo
import Derived.Test.YtbcfmckhgjcakaaIdCopyL
namespace Go.Proofs.Ytbcfmckhgjcakaa
open Go Go.RowKit Go.Maps

theorem nextV_two (f : Nat → Int) (a : Nat) : ∃ y z, nextV f a = .tuple #[.int .i64 y, .int .i64 z] := by
  unfold nextV
  split
  · exact ⟨_, _, rfl⟩
  · exact ⟨_, _, rfl⟩
set_option maxRecDepth 100000 in
set_option maxHeartbeats 4000000 in
theorem identCounts_any (w : World) (p pa : Option Addr) (n c na ca : Nat) (xs : List Li) (ks : List (Int × Nat)) (hn : xs.length = n) (hnm : n ≤ 3518437208780) (hr : LiRow w p xs) (hnil : p = none → n = 0 ∧ c = 0) (hf : ∀ x ∈ xs, LiOk x) (hka : ks.length = na) (hra : AskRow w pa ks) (hks : ∀ k ∈ ks, k.2 < 18446744073709551616) (hnam : na ≤ 9223372036854775807) :
    Calls Try.prog 3 #[.slice p n c, .slice pa na ca] w fun e w' => e = .returned (.bool true) ∧ Below w.heap.size w w' := by
  obtain ⟨i0, hi, hz0, hz1, hz2⟩ := info_parts liInfo
  have hown0 := World.ownsRow_made (e := 27) (size := 4) (base := w.heap.size) w #[] 0 (Nat.le_refl _) (by unfold maxLen; omega) rfl
  have hbb0 : Below w.heap.size w (w.alloc (.cells #[] 27)) := (Below.refl _ w).alloc (Nat.le_refl _) _
  have HN := Lib.hid hn
  have HKA := Lib.hid hka
  clear hn hka
  go_enter Try.func3, Try.ntmps3
  go_wp2_with (first
    | (at_builtin; refine copy_li rfl _ _ 22 rfl w.heap.size 27 i0 (.agg #[.int .u64 0, .int .i64 0, .int .i64 0, .string ⟨#[]⟩]) Try.underlying22 hi hz0 hz1 hz2 rfl _ rfl hown0 p n c xs rfl (by exact HN.out) (hr.later hbb0) hnil (by omega) (by simp) ?_; intro v1 w1 own1 hb1; clear hown0)
    | (at_builtin; refine wpList_append_own _ rfl _ _ 22 rfl w.heap.size 27 i0 (.agg #[.int .u64 0, .int .i64 0, .int .i64 0, .string ⟨#[]⟩]) 4 40 Try.underlying22 hi hz0 hz1 hz2 rfl (by decide) _ _ _ rfl (own1.alloc _) ⟨w1.heap.size, 0, none⟩ 1 1 seven.vals rfl rfl ?c1 ?c2 ?c3 ?c4 ?c5 ?_))
  case c1 => exact cells_four _ seven _
  case c2 => intro u hu; simp [Li.vals] at hu; rcases hu with rfl | rfl | rfl | rfl <;> rfl
  case c3 => unfold maxLen; omega
  case c4 => omega
  case c5 => have := hb1.size; simp at this; simp; omega
  intro v2 w2 own2' gr2 _
  have own2 : w2.ownsRow w.heap.size 27 4 v2 (n + 1) (liCells (xs ++ [seven])) := by rw [liCells_snoc]; exact own2'
  obtain ⟨p2, c2, rfl, hr2⟩ := li_owned (by rw [List.length_append, HN.out]; rfl) own2
  have hs1 : w.heap.size + 1 ≤ w1.heap.size := by have := hb1.size; simpa using this
  have hbw1 : Below w.heap.size w w1 := hbb0.trans hb1
  have hbw2 : Below w.heap.size w w2 := (hbw1.alloc (by omega) _).grown gr2 (by simp; omega) (fun g hg => (own1.lt g hg).1)
  have hin2 := liRow_prefix hr2
  have hcap : n + 1 ≤ c2 := by
    rcases own2.2 with ⟨hv, _⟩ | ⟨g, cap, cur, hv, _, _, hle, _⟩
    · simp at hv
    · simp at hv; omega
  obtain ⟨bs7, os7, e7, hlt7, hc7⟩ := hr2 n (by rw [List.length_append, HN.out]; simp)
  have e77 : (xs ++ [seven])[n]'(by rw [List.length_append, HN.out]; simp) = seven := by
    rw [List.getElem_append_right (by rw [HN.out]; exact Nat.le_refl _)]; simp
  rw [e77] at hc7
  subst e7
  have hcI : (n : Int) + 1 ≤ (c2 : Int) := by omega
  have hn0 : (0 : Int) ≤ (n : Int) := by omega
  have HB2 := Lib.hid hbw2
  have hs2 := hbw2.size
  clear own2' gr2 own2 hr2 e77 own1 hbw1 hbw2
  go_wp2_with fail
  refine (new_any w2 _ n c2 xs HN.out (by unfold maxLen; omega) hin2 hf).mono ?_
  rintro e w3 ⟨hb3, hres3⟩
  have hbw3 := HB2.out.trans (hb3.mono HB2.out.size)
  have hc73 := hc7.below hb3 hlt7
  have hin3 := hin2.later hb3
  have hs3 := hb3.size
  have hlt73 : bs7 < w3.heap.size := by omega
  have HB3 := Lib.hid hbw3
  have HR3 : Aside _ := hres3
  clear hb3 hbw3 hres3 hc7 hin2 HB2
  have hcN := refNew_any w3 p n c xs HN.out (by omega) (hr.later (HB3.out.mono (Nat.le_refl _))) hf
  by_cases hok : okN xs
  · rcases HR3.out with ⟨_, p1, b1, m1, hp1, hbb1, hm1, rfl, hI1⟩ | ⟨hno, _⟩
    rotate_left
    · exact absurd hok hno
    go_wp2_with fail
    refine hcN.mono ?_
    rintro e w4 ⟨hb4, ⟨_, q1, r1, r2, ls, rfl, hR1, hlk1, hll1⟩ | ⟨hno, _⟩⟩
    rotate_left
    · exact absurd hok hno
    have hT : Two w.heap.size w4 p1 b1 m1 (lastF xs) q1 n (lastF xs) := by
      refine ⟨hI1.later hb4, by omega, by omega, by have := hb4.size; omega, r1, r2, ls, hR1.base (by omega), hlk1, by rw [HN.out] at hll1; exact hll1, fun k hk => ?_⟩
      have := (hR1.own_lt hk).1
      have := hI1.lt
      have := hI1.ltb
      exact ⟨by omega, by omega⟩
    have hbw4 := HB3.out.trans (hb4.mono HB3.out.size)
    have hc74 := hc73.below hb4 hlt73
    have hin4 := hin3.later hb4
    obtain ⟨h70, h71, h72, h73⟩ := hc74
    have hr4 := hr.later hbw4
    have cL := refLines_any w4 (some ⟨bs7, os7, none⟩) p n c2 c xs HN.out (by omega) hin4 hr4 hf
    have HT : Aside _ := hT
    have HB4 := Lib.hid hbw4
    have h71' : w4.cell? ⟨bs7, os7 + n * 4 + 1, none⟩ = some (.int .i64 7) := h71
    have hlt74 : bs7 < w4.heap.size := by have := hb4.size; omega
    clear hI1 hR1 hlk1 hll1 hb4 hbw4 hcN hT hc73 hin3 hin4 hr4 h70 h71 h72 h73 hp1 hbb1
    go_wp2_with fail
    refine cL.mono ?_
    rintro e w5 ⟨rfl, hb5⟩
    have HT5 : Aside _ := HT.out.later hb5
    have HB5 := Lib.hid (HB4.out.trans (hb5.mono HB4.out.size))
    have h715 := (hb5.cell (p := ⟨bs7, os7 + n * 4 + 1, none⟩) hlt74).trans h71'
    clear cL HT HB4 h71' hb5
    go_wp2_with fail
    go_loopg [11] 300 (fun g vi wr => ∃ (k m : Nat) (f : Nat → Int), k + g = 300 ∧ k ≤ na ∧ vi = .int .i64 k ∧ m ≤ n + k ∧ Aside (Two w.heap.size wr p1 b1 m f q1 (n + 2 * k) f) ∧ Hid (Below w.heap.size w wr))
    case atStart => exact ⟨0, m1, lastF xs, by omega, by omega, rfl, by rw [HN.out] at hm1; omega, HT5, HB5⟩
    case round =>
      obtain ⟨k, m, f, hk, hkn, rfl, hm, HT6, HB6⟩ := hrel
      have hk0 : (0 : Int) ≤ (k : Int) := by omega
      by_cases hlt : k < na
      · by_cases h300 : k < 300
        · have hlt' : k < ks.length := by rw [HKA.out]; exact hlt
          obtain ⟨b9, o9, rfl, h9c⟩ := hra.at k hlt'
          have ha := hks ks[k] (List.getElem_mem hlt')
          have H9 := Lib.hid h9c
          generalize ks[k] = ask at *
          obtain ⟨kind, a⟩ := ask
          obtain ⟨g0, g1⟩ := H9.out wr HB6.out
          simp only at g0 g1 ha
          have hkI : (k : Int) < (na : Int) := by omega
          have h3I : (k : Int) < 300 := by omega
          clear h9c h715
          by_cases hkind0 : kind = 0
          · subst hkind0
            obtain ⟨y, z, hyz⟩ := nextV_two f a
            have cx := two_nextx w.heap.size wr p1 b1 m f q1 (n + 2 * k) f a ha (by unfold maxLen; omega) HT6.out
            rw [hyz] at cx
            have HYZ := Lib.hid hyz
            clear hyz
            go_wp2_with fail
            refine cx.mono ?_
            rintro e w6 ⟨rfl, hT6, hb6⟩
            have cy := two_nexty w.heap.size w6 p1 b1 (m + 1) (nextF f a) q1 (n + 2 * k) f a ha (by omega) (HT6.out.ids.lo a) hT6
            rw [HYZ.out] at cy
            have HB7 := Lib.hid (HB6.out.trans hb6)
            clear cx hT6 hb6 HB6
            go_wp2_with fail
            refine cy.mono ?_
            rintro e w7 ⟨rfl, hT7, hb7⟩
            have HT7 : Aside _ := hT7
            have HB8 := Lib.hid (HB7.out.trans hb7)
            clear cy hT7 hb7 HB7 HT6 HYZ
            obtain ⟨f', hf'⟩ : ∃ f', nextF f a = f' := ⟨_, rfl⟩
            rw [hf'] at HT7
            clear hf'
            have cl := last_any w7 p1 b1 (m + 1) f' a ha HT7.out.ids
            go_wp2_with fail
            refine cl.mono ?_
            rintro e w' ⟨rfl, rfl⟩
            clear cl
            have cm := two_lasty w.heap.size w7 p1 b1 (m + 1) f' q1 (n + 2 * k + 1) f' a ha (by omega) HT7.out
            generalize f' a = lv at *
            go_wp2_with fail
            refine cm.mono ?_
            rintro e wz ⟨rfl, hTz, hbz⟩
            have HTZ : Aside _ := hTz
            have HBZ := Lib.hid (HB8.out.trans hbz)
            clear cm hTz hbz
            go_wp2_with fail
            go_roundg (gk - 1)
            case rel => exact ⟨k + 1, (m + 1), f', by omega, by omega, by go_num, by omega, HTZ.out.le (by omega), HBZ.out⟩
            case measure => omega
          · have hb0 : (kind == 0) = false := beq_false_of_ne hkind0
            by_cases hkind2 : kind = 2
            · subst hkind2
              obtain ⟨y, z, hyz⟩ := nextV_two f a
              have HYZ := Lib.hid hyz
              have cx := two_copyx w.heap.size wr p1 b1 m f q1 (n + 2 * k) f (by unfold maxLen; omega) HT6.out
              clear hyz
              go_wp2_with fail
              refine cx.mono ?_
              rintro e w6 ⟨hb6, pc, bc, rfl, hpc, hbc, hI6⟩
              have HBx := Lib.hid hb6
              have cy := two_copyy w.heap.size w6 p1 b1 m f q1 (n + 2 * k) f (by omega) (HT6.out.later hb6) wr.heap.size pc bc hI6 hpc hbc hb6.size
              clear cx hb6 hI6 hpc hbc
              go_wp2_with fail
              refine cy.mono ?_
              rintro e w7 ⟨hb7, qd, rfl, hT7⟩
              have HBx7 := Lib.hid (HBx.out.trans (hb7.mono HBx.out.size))
              have cx := two_nextx wr.heap.size w7 pc bc m f qd (n + 2 * k) f a ha (by unfold maxLen; omega) hT7
              rw [HYZ.out] at cx
              clear cy hb7 hT7 HBx
              go_wp2_with fail
              refine cx.mono ?_
              rintro e w8 ⟨rfl, hT8, hb8⟩
              have cy := two_nexty wr.heap.size w8 pc bc (m + 1) (nextF f a) qd (n + 2 * k) f a ha (by omega) (HT6.out.ids.lo a) hT8
              rw [HYZ.out] at cy
              have HBx8 := Lib.hid (HBx7.out.trans hb8)
              clear cx hT8 hb8 HBx7
              go_wp2_with fail
              refine cy.mono ?_
              rintro e w9 ⟨rfl, _, hb9⟩
              have hbx := HBx8.out.trans hb9
              have HT9 : Aside _ := HT6.out.later hbx
              have HB9 := Lib.hid (HB6.out.trans (hbx.mono HB6.out.size))
              clear cy hb9 HBx8 HT6 HYZ hbx HB6
              have cl := last_any w9 p1 b1 m f a ha HT9.out.ids
              go_wp2_with fail
              refine cl.mono ?_
              rintro e w' ⟨rfl, rfl⟩
              clear cl
              have cm := two_lasty w.heap.size w9 p1 b1 m f q1 (n + 2 * k) f a ha (by omega) HT9.out
              generalize f a = lv at *
              go_wp2_with fail
              refine cm.mono ?_
              rintro e wz ⟨rfl, hTz, hbz⟩
              have HTZ : Aside _ := hTz
              have HBZ := Lib.hid (HB9.out.trans hbz)
              clear cm hTz hbz
              go_wp2_with fail
              go_roundg (gk - 1)
              case rel => exact ⟨k + 1, m, f, by omega, by omega, by go_num, by omega, HTZ.out.le (by omega), HBZ.out⟩
              case measure => omega
            · have hb2 : (kind == 2) = false := beq_false_of_ne hkind2
              clear hkind0 hkind2
              have cl := last_any wr p1 b1 m f a ha HT6.out.ids
              go_wp2_with fail
              refine cl.mono ?_
              rintro e w' ⟨rfl, rfl⟩
              clear cl
              have cm := two_lasty w.heap.size wr p1 b1 m f q1 (n + 2 * k) f a ha (by omega) HT6.out
              generalize f a = lv at *
              go_wp2_with fail
              refine cm.mono ?_
              rintro e wz ⟨rfl, hTz, hbz⟩
              have HTZ : Aside _ := hTz
              have HBZ := Lib.hid (HB6.out.trans hbz)
              clear cm hTz hbz
              go_wp2_with fail
              go_roundg (gk - 1)
              case rel => exact ⟨k + 1, m, f, by omega, by omega, by go_num, by omega, HTZ.out.le (by omega), HBZ.out⟩
              case measure => omega
        · have h3I : ¬ ((k : Int) < 300) := by omega
          have hkI : (k : Int) < (na : Int) := by omega
          clear h715
          go_wp2_with fail
          go_ret
          exact ⟨rfl, HB6.out⟩
      · have hkI : ¬ ((k : Int) < (na : Int)) := by omega
        clear h715
        go_wp2_with fail
        go_ret
        exact ⟨rfl, HB6.out⟩
  · rcases HR3.out with ⟨ho, _⟩ | ⟨_, rfl⟩
    · exact absurd ho hok
    go_wp2_with fail
    refine hcN.mono ?_
    rintro e w4 ⟨hb4, ⟨ho, _⟩ | ⟨_, rfl⟩⟩
    · exact absurd ho hok
    have hbw4 := HB3.out.trans (hb4.mono HB3.out.size)
    have hc74 := hc73.below hb4 hlt73
    have hin4 := hin3.later hb4
    obtain ⟨h70, h71, h72, h73⟩ := hc74
    have hr4 := hr.later hbw4
    have cL := refLines_any w4 (some ⟨bs7, os7, none⟩) p n c2 c xs HN.out (by omega) hin4 hr4 hf
    have HB4 := Lib.hid hbw4
    have h71' : w4.cell? ⟨bs7, os7 + n * 4 + 1, none⟩ = some (.int .i64 7) := h71
    have hlt74 : bs7 < w4.heap.size := by have := hb4.size; omega
    clear hb4 hbw4 hcN hc73 hin3 hin4 hr4 h70 h71 h72 h73
    go_wp2_with fail
    refine cL.mono ?_
    rintro e w5 ⟨rfl, hb5⟩
    have HB5 := Lib.hid (HB4.out.trans (hb5.mono HB4.out.size))
    have h715 := (hb5.cell (p := ⟨bs7, os7 + n * 4 + 1, none⟩) hlt74).trans h71'
    clear cL HB4 h71' hb5
    go_wp2_with fail
    go_loopg [11] 300 (fun g vi wr => ∃ k : Nat, k + g = 300 ∧ k ≤ na ∧ vi = .int .i64 k ∧ Hid (Below w.heap.size w wr))
    case atStart => exact ⟨0, by omega, by omega, rfl, HB5⟩
    case round =>
      obtain ⟨k, hk, hkn, rfl, HB6⟩ := hrel
      have hk0 : (0 : Int) ≤ (k : Int) := by omega
      by_cases hlt : k < na
      · by_cases h300 : k < 300
        · have hlt' : k < ks.length := by rw [HKA.out]; exact hlt
          obtain ⟨b9, o9, rfl, h9c⟩ := hra.at k hlt'
          have H9 := Lib.hid h9c
          generalize ks[k] = ask at *
          obtain ⟨kind, a⟩ := ask
          obtain ⟨g0, g1⟩ := H9.out wr HB6.out
          simp only at g0 g1
          have hkI : (k : Int) < (na : Int) := by omega
          have h3I : (k : Int) < 300 := by omega
          clear h9c h715
          by_cases hkind0 : kind = 0
          · subst hkind0
            go_wp2_with fail
            refine (next_nil a _).mono ?_
            rintro e w' ⟨rfl, rfl⟩
            go_wp2_with fail
            refine (refNext_nil a _).mono ?_
            rintro e w' ⟨rfl, rfl⟩
            go_wp2_with fail
            refine (last_nil a _).mono ?_
            rintro e w' ⟨rfl, rfl⟩
            go_wp2_with fail
            refine (refLast_nil a _).mono ?_
            rintro e w' ⟨rfl, rfl⟩
            go_wp2_with fail
            go_roundg (gk - 1)
            case rel => exact ⟨k + 1, by omega, by omega, by go_num, HB6.out⟩
            case measure => omega
          · have hb0 : (kind == 0) = false := beq_false_of_ne hkind0
            by_cases hkind2 : kind = 2
            · subst hkind2
              go_wp2_with fail
              refine (copy_nil _).mono ?_
              rintro e w' ⟨rfl, rfl⟩
              go_wp2_with fail
              refine (refCopy_nil _).mono ?_
              rintro e w' ⟨rfl, rfl⟩
              go_wp2_with fail
              refine (next_nil a _).mono ?_
              rintro e w' ⟨rfl, rfl⟩
              go_wp2_with fail
              refine (refNext_nil a _).mono ?_
              rintro e w' ⟨rfl, rfl⟩
              go_wp2_with fail
              refine (last_nil a _).mono ?_
              rintro e w' ⟨rfl, rfl⟩
              go_wp2_with fail
              refine (refLast_nil a _).mono ?_
              rintro e w' ⟨rfl, rfl⟩
              go_wp2_with fail
              go_roundg (gk - 1)
              case rel => exact ⟨k + 1, by omega, by omega, by go_num, HB6.out⟩
              case measure => omega
            · have hb2 : (kind == 2) = false := beq_false_of_ne hkind2
              clear hkind0 hkind2
              go_wp2_with fail
              refine (last_nil a _).mono ?_
              rintro e w' ⟨rfl, rfl⟩
              go_wp2_with fail
              refine (refLast_nil a _).mono ?_
              rintro e w' ⟨rfl, rfl⟩
              go_wp2_with fail
              go_roundg (gk - 1)
              case rel => exact ⟨k + 1, by omega, by omega, by go_num, HB6.out⟩
              case measure => omega
        · have h3I : ¬ ((k : Int) < 300) := by omega
          have hkI : (k : Int) < (na : Int) := by omega
          clear h715
          go_wp2_with fail
          go_ret
          exact ⟨rfl, HB6.out⟩
      · have hkI : ¬ ((k : Int) < (na : Int)) := by omega
        clear h715
        go_wp2_with fail
        go_ret
        exact ⟨rfl, HB6.out⟩
end Go.Proofs.Ytbcfmckhgjcakaa
