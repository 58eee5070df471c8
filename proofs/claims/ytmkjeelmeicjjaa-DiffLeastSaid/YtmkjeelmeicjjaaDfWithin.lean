/- diff.within: what stays of two middles. -/
import Derived.Test.YtmkjeelmeicjjaaDfMost
namespace Go.Proofs.Ytmkjeelmeicjjaa
open Go Go.RowKit

theorem wlk_at (x y : List Tx) (i j : Nat) (hi : i < x.length) (hj : j < y.length) : wlk i j (x.drop i) (y.drop j) = if x[i]? = y[j]? then (i, j) :: wlk (i + 1) (j + 1) (x.drop (i + 1)) (y.drop (j + 1)) else if Lc x y i (j + 1) ≤ Lc x y (i + 1) j then wlk (i + 1) j (x.drop (i + 1)) (y.drop j) else wlk i (j + 1) (x.drop i) (y.drop (j + 1)) := by
  unfold Lc
  rw [List.drop_eq_getElem_cons hi, List.drop_eq_getElem_cons hj, wlk_cons, List.getElem?_eq_getElem hi, List.getElem?_eq_getElem hj]
  simp only [Option.some.injEq]
theorem wlk_end (x y : List Tx) (i j : Nat) (h : x.length ≤ i ∨ y.length ≤ j) : wlk i j (x.drop i) (y.drop j) = [] := by
  rcases h with h | h
  · rw [List.drop_of_length_le h, wlk_nil']
  · rw [List.drop_of_length_le h, wlk_nil]
theorem pr_cells_new (w : World) (i j : Int) (T : TypeId) : ∀ k u, [Value.int .i64 i, .int .i64 j][k]? = some u → (w.alloc (.cells #[.int .i64 i, .int .i64 j] T)).cell? ((⟨w.heap.size, 0, none⟩ : Addr).add k) = some u := by
  intro k u hk
  match k, hk with
  | 0, hk => simp at hk; subst hk; simp [Addr.add]
  | 1, hk => simp at hk; subst hk; simp [Addr.add]
theorem work_le {n m : Nat} (hm : 0 < m) : (1048576 : Int) / (m : Int) < (n : Int) ↔ ¬ n * m ≤ maxWork := by
  have h : (1048576 : Int) / (m : Int) = ((1048576 / m : Nat) : Int) := rfl
  rw [h]
  unfold maxWork
  rw [Nat.le_div_iff_mul_le hm |>.symm]
  omega
set_option maxRecDepth 100000 in
set_option maxHeartbeats 4000000 in
theorem within_any (w : World) (p q : Option Addr) (n m c d : Nat) (x y : List Tx) (hn : x.length = n) (hm : y.length = m) (hnb : n ≤ 8796093022208) (hmb : m ≤ 8796093022208) (hp : StrRow w p x) (hq : StrRow w q y) (hpn : p = none → n = 0 ∧ c = 0) (hqn : q = none → m = 0 ∧ d = 0) (hsz : ∀ t ∈ x ++ y, t.size ≤ maxLen) :
    Calls Try.prog 39 #[.slice p n c, .slice q m d] w (GivesPr w (midPairs x y)) := by
  have hgive0 : midPairs x y = [] → GivesPr w (midPairs x y) (.returned (.slice none 0 0)) w := fun e => by
    rw [e]
    exact ⟨Below.refl _ _, none, 0, rfl, fun i hi => absurd hi (Nat.not_lt_zero _), World.ownsRow_nil _ _ _ _⟩
  have HG0 := Lib.hid hgive0
  clear hgive0
  by_cases hn0 : n = 0
  · have he : Hid (midPairs x y = []) := by
      have : x = [] := List.eq_nil_of_length_eq_zero (by omega)
      show _ = _
      rw [this]; unfold midPairs; split
      · exact wlk_nil' _ _ _
      · rfl
    subst hn0
    clear hn hm hp hq hsz
    go_enter Try.func39, Try.ntmps39
    go_wp2_with fail
    go_ret
    exact HG0.out he.out
  · by_cases hm0 : m = 0
    · have he : Hid (midPairs x y = []) := by
        have : y = [] := List.eq_nil_of_length_eq_zero (by omega)
        show _ = _
        rw [this]; unfold midPairs; split
        · exact wlk_nil _ _ _
        · rfl
      subst hm0
      have hne : ((n : Int) == 0) = false := by simp; omega
      have hne' : ¬ (n : Int) = 0 := by omega
      clear hn hm hp hq hsz
      go_enter Try.func39, Try.ntmps39
      go_wp2_with fail
      go_ret
      exact HG0.out he.out
    · have hne : ((n : Int) == 0) = false := by simp; omega
      have hne' : ¬ (n : Int) = 0 := by omega
      have hme : ((m : Int) == 0) = false := by simp; omega
      have hme' : ¬ (m : Int) = 0 := by omega
      have hwk := @work_le n m (by omega)
      by_cases hbig : n * m ≤ maxWork
      · obtain ⟨i0, hi, hz0, hz1, hz2⟩ := info_parts prInfo
        have hle : ¬ (1048576 : Int) / (m : Int) < (n : Int) := fun h => hwk.1 h hbig
        have hle' : (n : Int) ≤ (1048576 : Int) / (m : Int) := by omega
        unfold maxWork at hbig
        have hn20 : n ≤ 1048576 := by
          have : n * 1 ≤ n * m := Nat.mul_le_mul_left _ (by omega)
          omega
        have hm20 : m ≤ 1048576 := by
          have : 1 * m ≤ n * m := Nat.mul_le_mul_right _ (by omega)
          omega
        have hb4 : (n + 1) * (m + 1) ≤ 4194304 := by
          rw [Nat.add_mul, Nat.mul_add]; omega
        have cL := likeness_any w p q n m c d x y hn hm (by omega) hp hq hpn hqn hsz
        have eg : ∀ args W, (callFunc 50 args).run Try.prog W = .ok (.enter 50 args) W := enters_of Try.func50 (by kernel_rfl) rfl
        have cG := fun W cb hs => greatest_any W n m 50 cb x y hn hm hb4 eg hs
        have hres : Hid (midPairs x y = wlk 0 0 x y) := by show _ = _; unfold midPairs maxWork; rw [hn, hm, if_pos hbig]
        have hlen : Hid ((wlk 0 0 x y).length ≤ 1048576) := by
          show _ ≤ _
          rw [wlk_length]
          exact Nat.le_trans (by have := Lc_le x y 0 0; unfold Lc at this; rwa [List.drop_zero, List.drop_zero] at this) (by rw [hn]; exact hn20)
        have HN := Lib.hid hn
        have HM := Lib.hid hm
        clear hwk hbig hn hm hp hq hsz hb4 HG0 hnb hmb
        go_enter Try.func39, Try.ntmps39
        go_wp2_with fail
        refine cL.mono ?_
        rintro e w1 ⟨hb1, cb, rfl, hs1⟩
        have HB1 := Lib.hid hb1
        have hS1 := hs1
        have cG1 := cG w1 cb hs1
        clear cL cG hb1 hs1
        go_wp2_with fail
        refine cG1.mono ?_
        rintro e w2 ⟨hb2, cb2, rfl, hs2⟩
        have hB2 := HB1.out.trans (hb2.mono HB1.out.size)
        have hS : SaysB w2 50 cb (fun i j => decide (x[i]? = y[j]?)) n m := fun W i j hW => hS1 W i j (hb2.trans (hW.mono hb2.size))
        have HS := Lib.hid hS
        have HT := Lib.hid hs2
        have HB2 := Lib.hid hB2
        clear cG1 hb2 hB2 hS hS1 hs2 HB1
        go_wp2_with fail
        go_loopw [7, 8, 9] (fun v a b wr => ∃ i j : Nat, ∃ done : List (Nat × Nat), i ≤ n ∧ j ≤ m ∧ a = .int .i64 i ∧ b = .int .i64 j ∧ Below w2.heap.size w2 wr ∧ Hid (done ++ wlk i j (x.drop i) (y.drop j) = wlk 0 0 x y) ∧ Hid (wr.ownsRow w2.heap.size 50 2 v done.length (prCells done))) (fun _ a b _ => (n - (intOf a).toNat) + (m - (intOf b).toNat))
        case atStart => exact ⟨0, 0, [], by omega, by omega, rfl, rfl, Below.refl _ _, rfl, World.ownsRow_nil _ _ _ _⟩
        case round =>
          obtain ⟨i, j, done, hin, hjm, rfl, rfl, hbr, hw, HO⟩ := hrel
          have hi0 : (0 : Int) ≤ (i : Int) := by omega
          have hj0 : (0 : Int) ≤ (j : Int) := by omega
          have hbw := HB2.out.trans (hbr.mono HB2.out.size)
          have hsr := hbw.size
          have hs2r := hbr.size
          by_cases hlt : i < n
          · by_cases hlt2 : j < m
            · have hiI : (i : Int) < (n : Int) := by omega
              have hjI : (j : Int) < (m : Int) := by omega
              have cS := HS.out wr i j hbr hlt hlt2
              simp only at cS
              have hat := wlk_at x y i j (by rw [HN.out]; exact hlt) (by rw [HM.out]; exact hlt2)
              have hdl : done.length ≤ 1048576 := by
                have := hlen.out
                rw [← hw.out, List.length_append] at this
                omega
              by_cases hd : x[i]? = y[j]?
              · rw [decide_eq_true hd] at cS
                rw [if_pos hd] at hat
                have hnx : Hid ((done ++ [(i, j)]) ++ wlk (i + 1) (j + 1) (x.drop (i + 1)) (y.drop (j + 1)) = wlk 0 0 x y) := by
                  show _ = _
                  rw [← hw.out, hat, List.append_assoc]; rfl
                have ho := HO.out
                have HBR := Lib.hid hbr
                have HBW := Lib.hid hbw
                clear hat hd hw HO hbr hbw
                go_wp2_with (first
                  | (go_at_call 50; refine cS.mono ?_; rintro e wv ⟨rfl, qv, rfl⟩; have ho2 := row_later ho (belowDN (Below.refl _ _) qv); have hsv : wr.heap.size = (wr.drewN qv).heap.size := rfl)
                  | (at_builtin; refine wpList_append_own _ rfl _ _ 42 rfl w2.heap.size 50 i0 (.agg #[.int .i64 0, .int .i64 0]) 2 16 Try.underlying42 hi hz0 hz1 hz2 rfl (by decide) _ _ _ rfl (ho2.alloc _) ⟨(wr.drewN qv).heap.size, 0, none⟩ 1 1 [.int .i64 (i : Nat), .int .i64 (j : Nat)] rfl rfl (pr_cells_new _ _ _ _) (by simp [Value.oneCell']) (by unfold maxLen; omega) (by omega) (by simp; omega) ?_))
                intro v' w4 ho4 hgr4 _
                have hbv : Below w2.heap.size w2 (wr.drewN qv) := belowDN HBR.out qv
                have hb4 : Below w2.heap.size w2 w4 := (hbv.alloc (by have := HBR.out.size; omega) _).grown hgr4 (by have := HBR.out.size; simp; omega) (fun g hg => (ho.lt g hg).1)
                have HO4 : Hid (w4.ownsRow w2.heap.size 50 2 v' (done ++ [(i, j)]).length (prCells (done ++ [(i, j)]))) := by
                  show World.ownsRow _ _ _ _ _ _ _
                  rw [prCells_app, List.length_append]
                  exact ho4
                have HB4 := Lib.hid hb4
                clear ho ho2 hgr4 ho4 hbv hb4 HBR HBW hsv
                go_wp2_with fail
                go_roundw
                case rel => exact ⟨i + 1, j + 1, done ++ [(i, j)], by omega, by omega, by go_num, by go_num, HB4.out, hnx.out, HO4⟩
                case measure => simp [intOf]; omega
              · rw [decide_eq_false hd] at cS
                rw [if_neg hd] at hat
                have cT1 := fun q => HT.out (wr.drewN q) (i + 1) j (belowDN hbr q) (by omega) (by omega)
                have cT2 := fun q => HT.out (wr.drewN q) i (j + 1) (belowDN hbr q) (by omega) (by omega)
                push_cast at cT1 cT2
                have HBR := Lib.hid hbr
                by_cases hge : Lc x y i (j + 1) ≤ Lc x y (i + 1) j
                · rw [if_pos hge] at hat
                  have hgI : ((Lc x y i (j + 1) : Nat) : Int) ≤ ((Lc x y (i + 1) j : Nat) : Int) := by omega
                  have hnx : Hid (done ++ wlk (i + 1) j (x.drop (i + 1)) (y.drop j) = wlk 0 0 x y) := by
                    show _ = _
                    rw [← hw.out, hat]
                  clear hat hd hw hbr hbw hge
                  generalize (Lc x y i (j + 1) : Int) = L2 at *
                  generalize (Lc x y (i + 1) j : Int) = L1 at *
                  go_wp2_with fail
                  refine cS.mono ?_
                  rintro e wv ⟨rfl, qv, rfl⟩
                  go_wp2_with fail
                  refine (cT1 qv).mono ?_
                  rintro e wu ⟨rfl, rfl⟩
                  go_wp2_with fail
                  refine (cT2 qv).mono ?_
                  rintro e wu ⟨rfl, rfl⟩
                  go_wp2_with fail
                  go_roundw
                  case rel => exact ⟨i + 1, j, done, by omega, by omega, by go_num, rfl, belowDN HBR.out qv, hnx.out, by show World.ownsRow _ _ _ _ _ _ _; exact row_later HO.out (belowDN (Below.refl _ _) qv)⟩
                  case measure => simp [intOf]; omega
                · rw [if_neg hge] at hat
                  have hgI : ((Lc x y (i + 1) j : Nat) : Int) < ((Lc x y i (j + 1) : Nat) : Int) := by omega
                  have hnx : Hid (done ++ wlk i (j + 1) (x.drop i) (y.drop (j + 1)) = wlk 0 0 x y) := by
                    show _ = _
                    rw [← hw.out, hat]
                  clear hat hd hw hbr hbw hge
                  generalize (Lc x y i (j + 1) : Int) = L2 at *
                  generalize (Lc x y (i + 1) j : Int) = L1 at *
                  go_wp2_with fail
                  refine cS.mono ?_
                  rintro e wv ⟨rfl, qv, rfl⟩
                  go_wp2_with fail
                  refine (cT1 qv).mono ?_
                  rintro e wu ⟨rfl, rfl⟩
                  go_wp2_with fail
                  refine (cT2 qv).mono ?_
                  rintro e wu ⟨rfl, rfl⟩
                  go_wp2_with fail
                  go_roundw
                  case rel => exact ⟨i, j + 1, done, by omega, by omega, rfl, by go_num, belowDN HBR.out qv, hnx.out, by show World.ownsRow _ _ _ _ _ _ _; exact row_later HO.out (belowDN (Below.refl _ _) qv)⟩
                  case measure => simp [intOf]; omega
            · have hjI : ¬ (j : Int) < (m : Int) := by omega
              have hiI : (i : Int) < (n : Int) := by omega
              have hend := wlk_end x y i j (.inr (by rw [HM.out]; omega))
              have hdone : done = midPairs x y := by rw [hres.out, ← hw.out, hend, List.append_nil]
              have ho := HO.out
              rw [hdone] at ho
              obtain ⟨pv, cv, rfl, hrow⟩ := pr_owned rfl ho
              have HGV : Hid (GivesPr w (midPairs x y) (.returned (.slice pv (midPairs x y).length cv)) wr) := ⟨hbw, pv, cv, rfl, hrow, own_mono ho HB2.out.size⟩
              clear hend hdone ho hrow HO hw hbr hbw
              go_wp2_with fail
              go_ret
              exact HGV.out
          · have hiI : ¬ (i : Int) < (n : Int) := by omega
            have hend := wlk_end x y i j (.inl (by rw [HN.out]; omega))
            have hdone : done = midPairs x y := by rw [hres.out, ← hw.out, hend, List.append_nil]
            have ho := HO.out
            rw [hdone] at ho
            obtain ⟨pv, cv, rfl, hrow⟩ := pr_owned rfl ho
            have HGV : Hid (GivesPr w (midPairs x y) (.returned (.slice pv (midPairs x y).length cv)) wr) := ⟨hbw, pv, cv, rfl, hrow, own_mono ho HB2.out.size⟩
            clear hend hdone ho hrow HO hw hbr hbw
            go_wp2_with fail
            go_ret
            exact HGV.out
      · have he : Hid (midPairs x y = []) := by show _ = _; unfold midPairs; rw [hn, hm, if_neg hbig]
        have hgt := hwk.2 hbig
        clear hwk hbig hn hm hp hq hsz
        go_enter Try.func39, Try.ntmps39
        go_wp2_with fail
        go_ret
        exact HG0.out he.out
end Go.Proofs.Ytmkjeelmeicjjaa
