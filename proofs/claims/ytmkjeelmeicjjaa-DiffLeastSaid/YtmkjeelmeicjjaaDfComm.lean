/- diff.Common: what stays of two lists. -/
import Derived.Test.YtmkjeelmeicjjaaDfWithin
import Derived.Test.YtmkjeelmeicjjaaDfEdges
namespace Go.Proofs.Ytmkjeelmeicjjaa
open Go Go.RowKit

def diagP (u v k : Nat) : List (Nat × Nat) := (List.range k).map fun i => (u + i, v + i)
theorem diagP_succ (u v k : Nat) : diagP u v (k + 1) = diagP u v k ++ [(u + k, v + k)] := by
  unfold diagP
  rw [List.range_succ, List.map_append]; rfl
theorem diagP_len (u v k : Nat) : (diagP u v k).length = k := by simp [diagP]
def midQ (a b : List Tx) : List (Nat × Nat) := midPairs (mid a (pre a b) (suf a b)) (mid b (pre a b) (suf a b))
def sh (p : Nat) (qs : List (Nat × Nat)) : List (Nat × Nat) := qs.map fun q => (p + q.1, p + q.2)
theorem comm_eq (a b : List Tx) : comm a b = diagP 0 0 (pre a b) ++ (sh (pre a b) (midQ a b) ++ diagP (a.length - suf a b) (b.length - suf a b) (suf a b)) := by
  unfold comm diagP midQ sh
  simp
theorem sh_snoc (p : Nat) (qs : List (Nat × Nat)) (k : Nat) (h : k < qs.length) : sh p (qs.take (k + 1)) = sh p (qs.take k) ++ [(p + qs[k].1, p + qs[k].2)] := by
  unfold sh
  rw [List.take_succ_eq_append_getElem h, List.map_append]; rfl
/-- A part of a row. -/
theorem StrRow.part {w : World} {b off : Nat} {xs : List Tx} (h : StrRow w (some ⟨b, off, none⟩) xs) (i k : Nat) : StrRow w (some ⟨b, off + i, none⟩) ((xs.drop i).take k) := fun j hj => by
  have hj' : i + j < xs.length := by simp only [List.length_take, List.length_drop] at hj; omega
  obtain ⟨b', off', e, hb, hc⟩ := h (i + j) hj'
  cases e
  refine ⟨b, off + i, rfl, hb, ?_⟩
  rw [List.getElem_take, List.getElem_drop, show off + i + j = off + (i + j) by omega]
  exact hc
theorem midQ_in (a b : List Tx) {q : Nat × Nat} (hq : q ∈ midQ a b) : q.1 < a.length - pre a b - suf a b ∧ q.2 < b.length - pre a b - suf a b := by
  unfold midQ midPairs at hq
  split at hq
  · have := wlk_within _ _ _ _ q hq
    rw [mid_len, mid_len, Nat.zero_add, Nat.zero_add] at this
    exact this
  · cases hq
theorem midQ_len (a b : List Tx) : (midQ a b).length ≤ a.length - pre a b - suf a b := by
  unfold midQ midPairs
  split
  · rw [wlk_length, ← mid_len]
    have := Lc_le (mid a (pre a b) (suf a b)) (mid b (pre a b) (suf a b)) 0 0
    unfold Lc at this
    rwa [List.drop_zero, List.drop_zero] at this
  · simp
theorem pr_cells_g (w : World) (i j : Int) (T : TypeId) (g : Nat) (hg : w.heap.size = g) : ∀ k u, [Value.int .i64 i, .int .i64 j][k]? = some u → (w.alloc (.cells #[.int .i64 i, .int .i64 j] T)).cell? ((⟨g, 0, none⟩ : Addr).add k) = some u := by
  subst hg
  exact pr_cells_new w i j T
theorem three_snoc (A B : List (Nat × Nat)) (u v r : Nat) : prCells (A ++ (B ++ diagP u v (r + 1))) = prCells (A ++ (B ++ diagP u v r)) ++ [.int .i64 ((u : Int) + (r : Int)), .int .i64 ((v : Int) + (r : Int))] := by
  rw [diagP_succ, ← List.append_assoc, ← List.append_assoc, prCells_app (A ++ B ++ diagP u v r), List.append_assoc]; rfl
/-- Where a part of a list begins. -/
def cutA (p : Option Addr) (c i : Nat) : Option Addr := if c = i then p else p.map (fun x => x.add i)
theorem cut_row {w : World} {p : Option Addr} {xs : List Tx} {n c : Nat} (h : StrRow w p xs) (hn : xs.length = n) (hnc : n ≤ c) (i k : Nat) (hk : i + k ≤ n) : StrRow w (cutA p c i) ((xs.drop i).take k) := by
  unfold cutA
  split
  · intro j hj
    simp only [List.length_take, List.length_drop] at hj
    omega
  · cases p with
    | none =>
      intro j hj
      simp only [List.length_take, List.length_drop] at hj
      obtain ⟨b, off, e, _⟩ := h (i + j) (by omega)
      cases e
    | some ad =>
      obtain ⟨b, off, spot⟩ := ad
      intro j hj
      have hj' : j < k ∧ i + j < xs.length := by simp only [List.length_take, List.length_drop] at hj; omega
      obtain ⟨b', off', e, _⟩ := h (i + j) hj'.2
      cases e
      have := h.part i k j hj
      rwa [Option.map_some, addrAdd]
theorem cut_nil {p : Option Addr} {n c i : Nat} (h : p = none → n = 0 ∧ c = 0) (k : Nat) (hk : i + k ≤ n) (e : cutA p c i = none) : k = 0 ∧ c - i = 0 := by
  have : p = none := by
    unfold cutA at e
    split at e
    · exact e
    · cases p with
      | none => rfl
      | some ad => cases e
  obtain ⟨h1, h2⟩ := h this
  omega
theorem mid_take (a : List Tx) (P S EA : Nat) (h : a.length = EA + S) : mid a P S = (a.drop P).take (EA - P) := by
  unfold mid
  congr 1; omega
set_option maxRecDepth 100000 in
set_option maxHeartbeats 4000000 in
theorem common_any (w : World) (p q : Option Addr) (n m c d : Nat) (a b : List Tx) (hn : a.length = n) (hm : b.length = m) (hnb : n ≤ 8796093022207) (hmb : m ≤ 8796093022207) (hp : StrRow w p a) (hq : StrRow w q b) (hpn : p = none → n = 0 ∧ c = 0) (hqn : q = none → m = 0 ∧ d = 0) (hnc : n ≤ c) (hmd : m ≤ d) (hsz : ∀ t ∈ a ++ b, t.size ≤ maxLen) :
    Calls Try.prog 22 #[.slice p n c, .slice q m d] w (GivesPr w (comm a b)) := by
  obtain ⟨i0, hi, hz0, hz1, hz2⟩ := info_parts prInfo
  have cE := edges_any w p q n m c d a b hn hm (by omega) (by omega) hp hq
  have hsl := suf_le a b
  rw [hn, hm] at hsl
  have HN := Lib.hid hn
  have HM := Lib.hid hm
  have HP := Lib.hid hp
  have HQ := Lib.hid hq
  have HSZ := Lib.hid hsz
  have HCE := Lib.hid (comm_eq a b)
  clear hn hm hp hq hsz
  generalize hP : pre a b = P at *
  generalize hS : suf a b = S at *
  have HPP := Lib.hid hP
  have HSS := Lib.hid hS
  clear hP hS
  go_enter Try.func22, Try.ntmps22
  go_wp2_with fail
  refine cE.mono ?_
  rintro e w1 ⟨rfl, hb1⟩
  have hs1 := hb1.size
  obtain ⟨w2, hmk, ho2, hgr2⟩ := run_make_own (P := Try.prog) w1 w.heap.size 42 50 i0 (.agg #[.int .i64 0, .int .i64 0]) 2 Try.underlying42 hi hz0 hz1 .i64 .i64 (P + S) (by rw [hz2]; omega) (by unfold maxLen; omega) hs1
  rw [Int.natCast_add] at hmk
  have hb2 : Below w.heap.size w w2 := hb1.grown hgr2 hs1 (fun g hg => by cases hg)
  have HO2 := Lib.hid ho2
  have HB2 := Lib.hid hb2
  clear cE hb1 ho2 hgr2 hb2
  go_upto_region 4 with fail
  clear hmk
  generalize w1.heap.size = g0 at *
  have hEA : (n : Int) - (S : Int) = ((n - S : Nat) : Int) := by omega
  have hEB : (m : Int) - (S : Int) = ((m - S : Nat) : Int) := by omega
  rw [hEA, hEB]
  have hEA' : n - S ≤ n := by omega
  have hEB' : m - S ≤ m := by omega
  have hPA : P ≤ n - S := by omega
  have hPB : P ≤ m - S := by omega
  have HEA := Lib.hid (show n = n - S + S by omega)
  have HEB := Lib.hid (show m = m - S + S by omega)
  rw [HN.out, HM.out] at HCE
  clear hEA hEB
  generalize n - S = EA at *
  generalize m - S = EB at *
  have hsb := HB2.out.size
  go_wp2_with fail
  go_loopg [9, 33] P (fun g v vi wr => ∃ k : Nat, k + g = P ∧ vi = .int .i64 k ∧ Below w.heap.size w wr ∧ Hid (wr.ownsRow w.heap.size 50 2 v k (prCells (diagP 0 0 k))))
  case atStart => exact ⟨0, by omega, rfl, HB2.out, HO2.out⟩
  case round =>
    obtain ⟨k, hk, rfl, hbr, HO⟩ := hrel
    have hsr := hbr.size
    by_cases hlt : k < P
    · have hkI : (k : Int) < (P : Int) := by omega
      have hk0 : (0 : Int) ≤ (k : Int) := by omega
      have ho := HO.out
      have HB := Lib.hid hbr
      clear HO hbr
      go_wp2_with (at_builtin; refine wpList_append_own _ rfl _ _ 42 rfl w.heap.size 50 i0 (.agg #[.int .i64 0, .int .i64 0]) 2 16 Try.underlying42 hi hz0 hz1 hz2 rfl (by decide) _ _ _ rfl (ho.alloc _) ⟨wr.heap.size, 0, none⟩ 1 1 [.int .i64 (k : Nat), .int .i64 (k : Nat)] rfl rfl (pr_cells_new _ _ _ _) (by simp [Value.oneCell']) (by unfold maxLen; omega) (by omega) (by simp; omega) ?_)
      intro v' w4 ho4 hgr4 _
      have hb4 : Below w.heap.size w w4 := (HB.out.alloc hsr _).grown hgr4 (by simp; omega) (fun g hg => (ho.lt g hg).1)
      have HO4 : Hid (w4.ownsRow w.heap.size 50 2 v' (k + 1) (prCells (diagP 0 0 (k + 1)))) := by
        show World.ownsRow _ _ _ _ _ _ _
        rw [diagP_succ, prCells_app, Nat.zero_add]
        exact ho4
      have HB4 := Lib.hid hb4
      clear ho hgr4 ho4 hb4 HB
      go_wp2_with fail
      go_roundg (gk - 1)
      case rel => exact ⟨k + 1, by omega, by go_num, HB4.out, HO4⟩
      case measure => omega
    · obtain rfl : k = P := by omega
      have hmq : Hid (midPairs ((a.drop k).take (EA - k)) ((b.drop k).take (EB - k)) = midQ a b) := by
        show _ = _
        unfold midQ
        rw [HPP.out, HSS.out, mid_take a k S EA (by rw [HN.out]; exact HEA.out), mid_take b k S EB (by rw [HM.out]; exact HEB.out)]
      have cW : ∀ W, Below wr.heap.size wr W → Calls Try.prog 39 #[.slice (cutA p c k) (EA - k) (c - k), .slice (cutA q d k) (EB - k) (d - k)] W (GivesPr W (midQ a b)) := fun W hW => by
        have hbW := hbr.trans (hW.mono hsr)
        have := within_any W (cutA p c k) (cutA q d k) (EA - k) (EB - k) (c - k) (d - k) ((a.drop k).take (EA - k)) ((b.drop k).take (EB - k)) (by have := HN.out; simp only [List.length_take, List.length_drop]; omega) (by have := HM.out; simp only [List.length_take, List.length_drop]; omega) (by omega) (by omega)
          (cut_row (HP.out.later hbW) HN.out hnc k (EA - k) (by omega)) (cut_row (HQ.out.later hbW) HM.out hmd k (EB - k) (by omega)) (fun e => cut_nil hpn (EA - k) (by omega) e) (fun e => cut_nil hqn (EB - k) (by omega) e) (fun t ht => HSZ.out t (by
            rw [List.mem_append] at ht ⊢
            rcases ht with ht | ht
            · exact .inl (List.mem_of_mem_drop (List.mem_of_mem_take ht))
            · exact .inr (List.mem_of_mem_drop (List.mem_of_mem_take ht))))
        rw [hmq.out] at this
        exact this
      unfold cutA at cW
      have hkE : (k : Int) ≤ (EA : Int) := by omega
      have hkE2 : (k : Int) ≤ (EB : Int) := by omega
      have hEc : (EA : Int) ≤ (c : Int) := by omega
      have hEd : (EB : Int) ≤ (d : Int) := by omega
      have HB := Lib.hid hbr
      clear hbr
      go_upto_region 9 with fail
      go_cut [51, 52, 53] (fun v l z wx => ∃ pm cm, v = .slice pm (midQ a b).length cm ∧ l = .int .i64 ((midQ a b).length : Nat) ∧ z = .int .i64 0 ∧ Below wr.heap.size wr wx ∧ Hid (PrRow wx pm (midQ a b)) ∧ Hid (∀ bb off, pm = some ⟨bb, off, none⟩ → wr.heap.size ≤ bb))
      case first =>
        by_cases h1 : c = k
        · by_cases h2 : d = k
          · subst h1 h2
            simp only [Nat.sub_self, if_true] at cW
            go_region_held3 (fun W => Below wr.heap.size wr W) (first | assumption | exact Below.drew (Below.refl _ _) | exact Below.drew ‹_› | go_keep) (first | (go_at_call 39; refine (cW _ ‹_›).mono ?_; rintro e w' ⟨hbm, pm, cm, rfl, hrm, hom⟩; have hbm2 := Below.trans ‹Below wr.heap.size wr _› (hbm.mono (Below.size ‹Below wr.heap.size wr _›)); have HRM := Lib.hid hrm; have HOM : Hid (∀ bb off, pm = some ⟨bb, off, none⟩ → wr.heap.size ≤ bb) := (fun bb off e => Nat.le_trans (Below.size ‹Below wr.heap.size wr _›) (own_iv hom bb off e).1); clear hrm hom hbm))
            all_goals go_wp2
            go_meet
            exact ⟨pm, cm, rfl, rfl, rfl, by assumption, by assumption, by assumption⟩
          · subst h1
            simp only [Nat.sub_self, if_true, if_neg h2] at cW
            go_region_held3 (fun W => Below wr.heap.size wr W) (first | assumption | exact Below.drew (Below.refl _ _) | exact Below.drew ‹_› | go_keep) (first | (go_at_call 39; refine (cW _ ‹_›).mono ?_; rintro e w' ⟨hbm, pm, cm, rfl, hrm, hom⟩; have hbm2 := Below.trans ‹Below wr.heap.size wr _› (hbm.mono (Below.size ‹Below wr.heap.size wr _›)); have HRM := Lib.hid hrm; have HOM : Hid (∀ bb off, pm = some ⟨bb, off, none⟩ → wr.heap.size ≤ bb) := (fun bb off e => Nat.le_trans (Below.size ‹Below wr.heap.size wr _›) (own_iv hom bb off e).1); clear hrm hom hbm))
            all_goals go_wp2
            go_meet
            exact ⟨pm, cm, rfl, rfl, rfl, by assumption, by assumption, by assumption⟩
        · by_cases h2 : d = k
          · subst h2
            simp only [Nat.sub_self, if_true, if_neg h1] at cW
            go_region_held3 (fun W => Below wr.heap.size wr W) (first | assumption | exact Below.drew (Below.refl _ _) | exact Below.drew ‹_› | go_keep) (first | (go_at_call 39; refine (cW _ ‹_›).mono ?_; rintro e w' ⟨hbm, pm, cm, rfl, hrm, hom⟩; have hbm2 := Below.trans ‹Below wr.heap.size wr _› (hbm.mono (Below.size ‹Below wr.heap.size wr _›)); have HRM := Lib.hid hrm; have HOM : Hid (∀ bb off, pm = some ⟨bb, off, none⟩ → wr.heap.size ≤ bb) := (fun bb off e => Nat.le_trans (Below.size ‹Below wr.heap.size wr _›) (own_iv hom bb off e).1); clear hrm hom hbm))
            all_goals go_wp2
            go_meet
            exact ⟨pm, cm, rfl, rfl, rfl, by assumption, by assumption, by assumption⟩
          · simp only [if_neg h1, if_neg h2] at cW
            go_region_held3 (fun W => Below wr.heap.size wr W) (first | assumption | exact Below.drew (Below.refl _ _) | exact Below.drew ‹_› | go_keep) (first | (go_at_call 39; refine (cW _ ‹_›).mono ?_; rintro e w' ⟨hbm, pm, cm, rfl, hrm, hom⟩; have hbm2 := Below.trans ‹Below wr.heap.size wr _› (hbm.mono (Below.size ‹Below wr.heap.size wr _›)); have HRM := Lib.hid hrm; have HOM : Hid (∀ bb off, pm = some ⟨bb, off, none⟩ → wr.heap.size ≤ bb) := (fun bb off e => Nat.le_trans (Below.size ‹Below wr.heap.size wr _›) (own_iv hom bb off e).1); clear hrm hom hbm))
            all_goals go_wp2
            go_meet
            exact ⟨pm, cm, rfl, rfl, rfl, by assumption, by assumption, by assumption⟩
      case rest =>
        obtain ⟨pm, cm, rfl, rfl, rfl, hbx, HRM, HOM⟩ := hcut
        have hml := midQ_len a b
        have hmi := Lib.hid (fun t (h : t < (midQ a b).length) => midQ_in a b (List.getElem_mem h))
        rw [HN.out, HPP.out, HSS.out] at hml
        have hoc := HO.out
        have hoc2 := row_later hoc hbx
        have hbc := HB.out.trans (hbx.mono hsr)
        have hsc := hbc.size
        have HOC := Lib.hid hoc2
        have HBC := Lib.hid hbc
        have hne := Lib.hid (fun bb off (e : pm = some ⟨bb, off, none⟩) (h : u9.ownBlock = some bb) => (by
          have h1 := HOM.out bb off e
          have h2 := (hoc.lt bb h).2
          omega : False))
        have hl9 := Lib.hid (fun g (h : u9.ownBlock = some g) => (hoc.lt g h).1)
        clear cW hmq HO HB hbx hoc hoc2 hbc HOM
        obtain ⟨M, hM⟩ : ∃ M, (midQ a b).length = M := ⟨_, rfl⟩
        rw [hM] at hml
        rw [hM]
        go_wp2_with fail
        go_loopg [9, 53] M (fun g v vi wx => ∃ t : Nat, t + g = M ∧ vi = .int .i64 t ∧ KeptBut (fun bb => u9.ownBlock = some bb) wc wx ∧ Hid (wx.ownsRow w.heap.size 50 2 v (k + t) (prCells (diagP 0 0 k ++ sh k ((midQ a b).take t)))) ∧ Hid (∀ g, v.ownBlock = some g → u9.ownBlock = some g ∨ wc.heap.size ≤ g))
        case atStart => exact ⟨0, by omega, rfl, KeptBut.refl _ _, by show World.ownsRow _ _ _ _ _ _ _; simpa [sh] using HOC.out, fun g hg => .inl hg⟩
        case round =>
          obtain ⟨t, ht, rfl, hkp, HO, HV⟩ := hrel
          have hsx := hkp.size
          have hbx : Below w.heap.size w wr := hkp.below HBC.out hsc (fun g hg => hl9.out g hg)
          by_cases hlt : t < M
          · have hlt' : t < (midQ a b).length := by rw [hM]; exact hlt
            obtain ⟨hq1, hq2⟩ := hmi.out t hlt'
            rw [HN.out, HPP.out, HSS.out] at hq1
            rw [HM.out, HPP.out, HSS.out] at hq2
            have hrow := HRM.out.but hkp (fun bb off e h => hne.out bb off e h)
            obtain ⟨b1, o1, rfl, hb1, h1c⟩ := hrow.at t hlt'
            obtain ⟨g1, g2⟩ := h1c wr (Below.refl _ _)
            have hsn : Hid (prCells (diagP 0 0 k ++ sh k ((midQ a b).take (t + 1))) = prCells (diagP 0 0 k ++ sh k ((midQ a b).take t)) ++ [.int .i64 ((k + (midQ a b)[t].1 : Nat) : Int), .int .i64 ((k + (midQ a b)[t].2 : Nat) : Int)]) := by
              show _ = _
              rw [sh_snoc k _ t hlt', ← List.append_assoc, prCells_app (diagP 0 0 k ++ sh k ((midQ a b).take t))]; rfl
            have htI : (t : Int) < (M : Int) := by omega
            have ht0 : (0 : Int) ≤ (t : Int) := by omega
            have hx1 : (k : Int) + ((midQ a b)[t].1 : Int) ≤ 8796093022208 := by omega
            have hx2 : (k : Int) + ((midQ a b)[t].2 : Int) ≤ 8796093022208 := by omega
            have hx3 : (0 : Int) ≤ (k : Int) + ((midQ a b)[t].1 : Int) := by omega
            have hx4 : (0 : Int) ≤ (k : Int) + ((midQ a b)[t].2 : Int) := by omega
            rw [Int.natCast_add, Int.natCast_add] at hsn
            generalize ((midQ a b)[t].1 : Int) = q1 at *
            generalize ((midQ a b)[t].2 : Int) = q2 at *
            have ho := HO.out
            have HK := Lib.hid hkp
            clear h1c hrow hmi HO hkp hbx hq1 hq2
            go_wp2_with (at_builtin; refine wpList_append_blk _ rfl _ _ 42 rfl w.heap.size 50 i0 (.agg #[.int .i64 0, .int .i64 0]) 2 16 Try.underlying42 hi hz0 hz1 hz2 rfl (by decide) _ _ _ rfl ((ho.alloc _).alloc _) ⟨wr.heap.size + 1, 0, none⟩ 1 1 [.int .i64 ((k : Int) + q1), .int .i64 ((k : Int) + q2)] rfl rfl (pr_cells_g _ _ _ _ _ (by simp)) (by simp [Value.oneCell']) (by unfold maxLen; omega) (by omega) (by simp; omega) ?_)
            intro v' w4 ho4 hgr4 hbk4
            have hV' : Hid (∀ g, v'.ownBlock = some g → (Value.ownBlock _ = some g) ∨ wc.heap.size ≤ g) := fun g hg => by
              rcases hbk4 with e | e
              · exact HV.out g (e ▸ hg)
              · rw [e] at hg
                injection hg with hg
                exact .inr (by omega)
            have hK4 := Lib.hid (((HK.out.alloc (.cells #[.int .i64 q1, .int .i64 q2] 50)).alloc (.cells #[.int .i64 ((k : Int) + q1), .int .i64 ((k : Int) + q2)] 50)).grown hgr4 (fun g hg => HV.out g hg))
            have HO4 : Hid (w4.ownsRow w.heap.size 50 2 v' (k + (t + 1)) (prCells (diagP 0 0 k ++ sh k ((midQ a b).take (t + 1))))) := by
              show World.ownsRow _ _ _ _ _ _ _
              rw [hsn.out]
              exact ho4
            clear ho hgr4 ho4 hbk4 HK hsn g1 g2
            go_wp2_with fail
            go_roundg (gk - 1)
            case rel => exact ⟨t + 1, by omega, by go_num, hK4.out, HO4, hV'⟩
            case measure => omega
          · obtain rfl : t = M := by omega
            have hall : (midQ a b).take t = midQ a b := by rw [← hM]; exact List.take_length
            have ho := HO.out
            rw [hall] at ho
            have HO3 := Lib.hid ho
            have HBX := Lib.hid hbx
            clear ho HO hall hkp HV hbx
            go_wp2_with fail
            go_loopg [9, 71] S (fun g v vi wx => ∃ r : Nat, r + g = S ∧ vi = .int .i64 r ∧ Below w.heap.size w wx ∧ Hid (wx.ownsRow w.heap.size 50 2 v (k + t + r) (prCells (diagP 0 0 k ++ (sh k (midQ a b) ++ diagP EA EB r)))))
            case atStart => exact ⟨0, by omega, rfl, HBX.out, by show World.ownsRow _ _ _ _ _ _ _; rw [show diagP EA EB 0 = [] from rfl, List.append_nil]; exact HO3.out⟩
            case round =>
              obtain ⟨r, hr, rfl, hbr, HO⟩ := hrel
              have hsr3 := hbr.size
              by_cases hltr : r < S
              · have hrI : (r : Int) < (S : Int) := by omega
                have hr0 : (0 : Int) ≤ (r : Int) := by omega
                have hnE : EA + S ≤ n := by have := HEA.out; omega
                have hmE : EB + S ≤ m := by have := HEB.out; omega
                have ho := HO.out
                have HB := Lib.hid hbr
                clear HO hbr
                go_wp2_with (at_builtin; refine wpList_append_own _ rfl _ _ 42 rfl w.heap.size 50 i0 (.agg #[.int .i64 0, .int .i64 0]) 2 16 Try.underlying42 hi hz0 hz1 hz2 rfl (by decide) _ _ _ rfl (ho.alloc _) ⟨wr.heap.size, 0, none⟩ 1 1 [.int .i64 ((EA : Int) + (r : Int)), .int .i64 ((EB : Int) + (r : Int))] rfl rfl (pr_cells_new _ _ _ _) (by simp [Value.oneCell']) (by unfold maxLen; omega) (by omega) (by simp; omega) ?_)
                intro v' w4 ho4 hgr4 _
                have hb4 : Below w.heap.size w w4 := (HB.out.alloc hsr3 _).grown hgr4 (by simp; omega) (fun g hg => (ho.lt g hg).1)
                have HO4 : Hid (w4.ownsRow w.heap.size 50 2 v' (k + t + (r + 1)) (prCells (diagP 0 0 k ++ (sh k (midQ a b) ++ diagP EA EB (r + 1))))) := by
                  show World.ownsRow _ _ _ _ _ _ _
                  rw [three_snoc]
                  exact ho4
                have HB4 := Lib.hid hb4
                clear ho hgr4 ho4 hb4 HB hnE hmE
                go_wp2_with fail
                go_roundg (gk - 1)
                case rel => exact ⟨r + 1, by omega, by go_num, HB4.out, HO4⟩
                case measure => omega
              · obtain rfl : r = S := by omega
                have hcl : (comm a b).length = k + t + r := by
                  rw [HCE.out]
                  simp only [List.length_append, diagP_len, sh, List.length_map]
                  omega
                have ho := HO.out
                rw [← HCE.out, ← hcl] at ho
                obtain ⟨pv, cv, rfl, hrow⟩ := pr_owned rfl ho
                have HGV : Hid (GivesPr w (comm a b) (.returned (.slice pv (comm a b).length cv)) wr) := ⟨hbr, pv, cv, rfl, hrow, ho⟩
                clear ho hrow HO hbr
                go_wp2_with fail
                go_ret
                exact HGV.out
end Go.Proofs.Ytmkjeelmeicjjaa
