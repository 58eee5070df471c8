/- same, applied: by contracts. -/
import Derived.Test.YtmkjeelmeicjjaaDfFitP
import Derived.Test.YtmkjeelmeicjjaaDfSame
import Derived.Test.YtmkjeelmeicjjaaDfWorks
import Derived.Deep.DeepCutAuto
namespace Go.Proofs.Ytmkjeelmeicjjaa
open Go Go.RowKit

theorem list_ne {xs ys : List Tx} (k : Nat) (h1 : k < xs.length) (h2 : k < ys.length) (h : ¬ xs[k] = ys[k]) : ¬ xs = ys := fun e => by subst e; exact h rfl
theorem list_eq {xs ys : List Tx} (hl : xs.length = ys.length) (h : ∀ j, j < xs.length → xs[j]? = ys[j]?) : xs = ys := by
  apply List.ext_getElem?
  intro i
  by_cases hi : i < xs.length
  · exact h i hi
  · rw [List.getElem?_eq_none (by omega), List.getElem?_eq_none (by omega)]
set_option maxRecDepth 100000 in
set_option maxHeartbeats 2000000 in
theorem same_any (w : World) (p q : Option Addr) (n m c d : Nat) (xs ys : List Tx) (hp : StrRow w p xs) (hq : StrRow w q ys) (hn : xs.length = n) (hm : ys.length = m) (hnb : n ≤ 8796093022208) (hmb : m ≤ 8796093022208) :
    Calls Try.prog 33 #[.slice p n c, .slice q m d] w fun e w' => e = .returned (.bool (decide (xs = ys))) ∧ Below w.heap.size w w' := by
  by_cases hnm : n = m
  · subst hnm
    have HN := Lib.hid hn
    have HM := Lib.hid hm
    have HP := Lib.hid hp
    have HQ := Lib.hid hq
    clear hn hm hp hq
    go_enter Try.func33, Try.ntmps33
    go_wp2_with fail
    go_loopw [5] (fun i wr => ∃ k : Nat, k ≤ n ∧ i = .int .i64 k ∧ Below w.heap.size w wr ∧ Hid (∀ j, j < k → xs[j]? = ys[j]?)) (fun i _ => n - (intOf i).toNat)
    case atStart => exact ⟨0, by omega, rfl, Below.refl _ _, fun j hj => absurd hj (Nat.not_lt_zero _)⟩
    case round =>
      obtain ⟨k, hk, rfl, hbr, HS⟩ := hrel
      have hk0 : (0 : Int) ≤ (k : Int) := Int.natCast_nonneg _
      by_cases hlt : k < n
      · have hlx : k < xs.length := by rw [HN.out]; exact hlt
        have hly : k < ys.length := by rw [HM.out]; exact hlt
        obtain ⟨b1, o1, rfl, h1c⟩ := HP.out.at k hlx
        obtain ⟨b2, o2, rfl, h2c⟩ := HQ.out.at k hly
        have g1 := h1c wr hbr
        have g2 := h2c wr hbr
        have hkm : (k : Int) < (n : Int) := by omega
        have hyes := Lib.hid (fun (e : xs[k] = ys[k]) j (hj : j < k + 1) => (show xs[j]? = ys[j]? from by
          by_cases e' : j = k
          · rw [e']; exact (get_ne hlx hly).2 e
          · exact HS.out j (by omega)))
        have hno := Lib.hid (fun (e : ¬ xs[k] = ys[k]) => decide_eq_false (list_ne k hlx hly e))
        have HB := Lib.hid hbr
        clear h1c h2c HS hbr
        generalize xs[k] = x at *
        generalize ys[k] = y at *
        by_cases hxy : x = y
        · subst hxy
          have hy : Hid (∀ j, j < k + 1 → xs[j]? = ys[j]?) := hyes.out rfl
          clear hyes hno
          go_wp2_with fail
          go_quiet (fail)
          go_wp2
          go_roundw
          case rel => exact ⟨k + 1, by omega, by go_num, belowDN HB.out _, hy⟩
          case measure => simp [intOf]; omega
        · have hy := Lib.hid (hno.out hxy)
          clear hyes hno
          go_wp2_with fail
          go_quiet (fail)
          have hxf := tl_ne hxy
          simp only [hxf, Bool.not_false]
          go_wp2
          go_ret
          exact ⟨by rw [hy.out]; rfl, belowDN HB.out _⟩
      · obtain rfl : n = k := by omega
        have hy := Lib.hid (decide_eq_true (list_eq (HN.out.trans HM.out.symm) (fun j hj => HS.out j (by rw [HN.out] at hj; exact hj))))
        have HB := Lib.hid hbr
        clear HS hbr
        go_wp2_with fail
        go_ret
        exact ⟨by rw [hy.out]; rfl, HB.out⟩
  · have hne : decide (xs = ys) = false := decide_eq_false (fun e => hnm (by rw [← hn, ← hm, e]))
    rw [hne]
    have h1 : ((n : Int) == (m : Int)) = false := by simp; omega
    have h2 : ¬ (n : Int) = (m : Int) := by omega
    clear hne hp hq hn hm
    go_enter Try.func33, Try.ntmps33
    go_wp2_with fail
    go_ret
    exact ⟨rfl, Below.refl _ _⟩
theorem HkOwn.at {B : Nat} {w : World} {ph : Option Addr} {H ch : Nat} {hs : List (Hk Tx)} {us : List (Value × Value)} (h : HkOwn B w (.slice ph H ch) hs us) (hH : hs.length = H) (i : Nat) (hi : i < hs.length) : ∃ b off p1 c1 p2 c2, ph = some ⟨b, off, none⟩ ∧ StrRow w p1 hs[i].old ∧ StrRow w p2 hs[i].new ∧ (p1 = none → hs[i].old.length = 0 ∧ c1 = 0) ∧ (p2 = none → hs[i].new.length = 0 ∧ c2 = 0) ∧ ∀ W, Below w.heap.size w W →
    W.cell? ⟨b, off + i * 3, none⟩ = some (.int .i64 hs[i].pos) ∧ W.cell? ⟨b, off + i * 3 + 1, none⟩ = some (.slice p1 hs[i].old.length c1) ∧ W.cell? ⟨b, off + i * 3 + 2, none⟩ = some (.slice p2 hs[i].new.length c2) := by
  have hi' : i < us.length := by rw [← h.len]; exact hi
  obtain ⟨s1, s2⟩ := h.subs i hi hi'
  obtain ⟨p1, c1, e1, r1⟩ := row_owned s1
  obtain ⟨p2, c2, e2, r2⟩ := row_owned s2
  rw [e1] at s1
  rw [e2] at s2
  obtain ⟨a0, a1, a2⟩ := hkCells_at hs us i hi hi'
  rw [e1] at a1
  rw [e2] at a2
  rcases h.row.2 with ⟨hv, h0⟩ | ⟨g, cap, cur, hv, _⟩
  · omega
  · have hr := h.row
    rw [hv] at hr
    injection hv with e3 e4 e5
    have k0 := (hr.cellAt (i * 3) (by omega)).trans a0
    have k1 := (hr.cellAt (i * 3 + 1) (by omega)).trans a1
    have k2 := (hr.cellAt (i * 3 + 2) (by omega)).trans a2
    have hlt := World.block_lt_of_cell? w _ (show w.cell? ⟨g, i * 3, none⟩ = some (.int .i64 hs[i].pos) from k0)
    refine ⟨g, 0, p1, c1, p2, c2, e3, r1, r2, (own_facts s1).1, (own_facts s2).1, fun W hW => ?_⟩
    rw [Nat.zero_add]
    exact ⟨(hW.cell (p := ⟨g, i * 3, none⟩) hlt).trans k0, (hW.cell (p := ⟨g, i * 3 + 1, none⟩) hlt).trans k1, (hW.cell (p := ⟨g, i * 3 + 2, none⟩) hlt).trans k2⟩
/-- A hunk's box. -/
def BoxH (W : World) (g ps lo ln : Nat) (p1 : Option Addr) (c1 : Nat) (p2 : Option Addr) (c2 : Nat) : Prop := W.heap[g]? = some (.cells #[.int .i64 (ps : Nat), .slice p1 lo c1, .slice p2 ln c2] 41 (0, 0))
theorem boxH_new (w : World) (ps lo ln : Nat) (p1 : Option Addr) (c1 : Nat) (p2 : Option Addr) (c2 g : Nat) (hg : w.heap.size = g := by rfl) : BoxH (w.alloc (.cells #[.int .i64 (ps : Nat), .slice p1 lo c1, .slice p2 ln c2] 41)) g ps lo ln p1 c1 p2 c2 := by
  subst hg
  exact heap_alloc_new w _
theorem BoxH.kept {W W' : World} {g ps lo ln : Nat} {p1 : Option Addr} {c1 : Nat} {p2 : Option Addr} {c2 : Nat} {row : Option Nat} (h : BoxH W g ps lo ln p1 c1 p2 c2) (hg : W.grownBy W' row) (hne : some g ≠ row) : BoxH W' g ps lo ln p1 c1 p2 c2 := (hg.block g (Array.getElem?_eq_some_iff.1 h).1 hne).trans h
theorem BoxH.later {W W' : World} {g ps lo ln : Nat} {p1 : Option Addr} {c1 : Nat} {p2 : Option Addr} {c2 : Nat} (h : BoxH W g ps lo ln p1 c1 p2 c2) (hb : Below W.heap.size W W') : BoxH W' g ps lo ln p1 c1 p2 c2 := (hb.block g (Array.getElem?_eq_some_iff.1 h).1).trans h
theorem BoxH.cells {W : World} {g ps lo ln : Nat} {p1 : Option Addr} {c1 : Nat} {p2 : Option Addr} {c2 : Nat} (h : BoxH W g ps lo ln p1 c1 p2 c2) : W.cell? ⟨g, 0, none⟩ = some (.int .i64 (ps : Nat)) ∧ W.cell? ⟨g, 1, none⟩ = some (.slice p1 lo c1) ∧ W.cell? ⟨g, 2, none⟩ = some (.slice p2 ln c2) := by
  refine ⟨?_, ?_, ?_⟩ <;> simp [World.cell?, show W.heap[g]? = _ from h]
theorem drop_cut {w : World} {p : Option Addr} {xs : List Tx} {n c : Nat} (h : StrRow w p xs) (hn : xs.length = n) (hnc : n ≤ c) (i : Nat) (hi : i ≤ n) : StrRow w (cutA p c i) (xs.drop i) := by
  have := cut_row h hn hnc i (n - i) (by omega)
  rwa [List.take_of_length_le (by simp; omega)] at this
set_option maxRecDepth 100000 in
set_option maxHeartbeats 8000000 in
theorem applied_any (w : World) (p ph : Option Addr) (n c H ch : Nat) (a : List Tx) (hs : List (Hk Tx)) (bb : List Tx) (hn : a.length = n) (hH : hs.length = H) (hnb : n ≤ 8796093022100) (hHb : H ≤ 8796093022100) (hp : StrRow w p a) (hpn : p = none → n = 0 ∧ c = 0) (hnc : n ≤ c) (us : List (Value × Value)) (B : Nat) (hr : HkOwn B w (.slice ph H ch) hs us)
    (hf : Fit a 0 true hs) (ha : apl a 0 hs = bb) (hbb : bb.length ≤ 8796093022100) :
    Calls Try.prog 32 #[.slice p n c, .slice ph H ch] w fun e w' => Below w.heap.size w w' ∧ ∃ pb cb, e = .returned (.tuple #[.slice pb bb.length cb, .bool true]) ∧ StrRow w' pb bb := by
  obtain ⟨i0, hi, hz0, hz1, hz2⟩ := info_parts strInfo
  have HN := Lib.hid hn
  have HH := Lib.hid hH
  have HP := Lib.hid hp
  have HR := Lib.hid hr
  have HF := Lib.hid hf
  have HA := Lib.hid ha
  clear hn hH hp hr hf ha
  go_enter Try.func32, Try.ntmps32
  go_wp2_with fail
  go_loopw [6, 7, 8] (fun v kv iv wr => ∃ (t k : Nat) (O : List Tx), t ≤ H ∧ iv = .int .i64 t ∧ kv = .int .i64 k ∧ k ≤ n ∧ Below w.heap.size w wr ∧ Hid (wr.ownsRow w.heap.size 9 1 v O.length (O.map Value.string)) ∧ Hid (Fit a k (t == 0) (hs.drop t)) ∧ Hid (O ++ apl a k (hs.drop t) = bb)) (fun _ _ iv _ => H - (intOf iv).toNat)
  case atStart => exact ⟨0, 0, [], by omega, rfl, rfl, by omega, Below.refl _ _, World.ownsRow_nil _ _ _ _, HF.out, HA.out⟩
  case round =>
    obtain ⟨t, k, O, ht, rfl, rfl, hkn, hbr, HO, HF, HA⟩ := hrel
    have hsr := hbr.size
    by_cases hlt : t < H
    · have hlt' : t < hs.length := by rw [HH.out]; exact hlt
      obtain ⟨b1, o1, p1, c1, p2, c2, hpe, r1, r2, z1, z2, hc⟩ := HR.out.at HH.out t hlt'
      obtain ⟨g1, g2, g3⟩ := hc wr hbr
      have hF := HF.out
      have hA := HA.out
      rw [List.drop_eq_getElem_cons hlt'] at hF hA
      obtain ⟨f1, f2, f3, f4, f5, f6⟩ := hF
      have hAe : O ++ (seg a k hs[t].pos ++ (hs[t].new ++ apl a (hs[t].pos + hs[t].old.length) (hs.drop (t + 1)))) = bb := hA
      have hlo : hs[t].old.length ≤ 8796093022100 := by rw [HN.out] at f4; omega
      have hold := Lib.hid f5
      have HF6 := Lib.hid f6
      have HAE := Lib.hid hAe
      rw [HN.out] at f4
      have htI : (t : Int) < (H : Int) := by omega
      have ht0 : (0 : Int) ≤ (t : Int) := by omega
      have R1 := Lib.hid r1
      have R2 := Lib.hid r2
      subst hpe
      have hbl := congrArg List.length hAe
      simp only [List.length_append] at hbl
      have hsl : (seg a k hs[t].pos).length = hs[t].pos - k := seg_len a k _ (by rw [HN.out]; omega)
      have hbd : O.length + (hs[t].pos - k) + hs[t].new.length ≤ 8796093022100 := by omega
      have HSL := Lib.hid hsl
      clear hc hA hAe f5 f6 r1 r2 hbl hsl HA HF
      generalize hs[t].old = old at *
      generalize hs[t].new = nw at *
      generalize hs[t].pos = ps at *
      obtain ⟨lo, hlo1⟩ : ∃ lo, old.length = lo := ⟨_, rfl⟩
      obtain ⟨ln, hln1⟩ : ∃ ln, nw.length = ln := ⟨_, rfl⟩
      have HLO := Lib.hid hlo1
      have HLN := Lib.hid hln1
      rw [hlo1] at g2 f3 f4 z1 HF6 HAE hlo hold
      rw [hln1] at g3 f3 z2 hbd
      clear hlo1 hln1
      have rA := fun W (hb : Below w.heap.size w W) => (show StrRow W (cutA p c k) (seg a k ps) by rw [seg_eq]; exact cut_row (HP.out.later hb) HN.out hnc k (ps - k) (by omega))
      have zA := fun e => cut_nil (i := k) hpn (ps - k) (by omega) e
      obtain ⟨A, hA⟩ : ∃ A, cutA p c k = A := ⟨_, rfl⟩
      obtain ⟨n1, hn1⟩ : ∃ n1, ps - k = n1 := ⟨_, rfl⟩
      obtain ⟨k1, hk1⟩ : ∃ k1, c - k = k1 := ⟨_, rfl⟩
      rw [hA] at rA
      rw [hA, hn1, hk1] at zA
      rw [hn1] at HSL hbd
      unfold cutA at hA
      have q1 : ¬ (ps : Int) < (k : Int) := by omega
      have q2 : (k : Int) ≤ (ps : Int) := by omega
      have q3 : (ps : Int) ≤ (n : Int) := by omega
      have q4 : ((lo : Int) + (ln : Int) == 0) = false := by simp; omega
      have q4' : ¬ (lo : Int) + (ln : Int) = 0 := by omega
      have q5 : ((n : Int) - (ps : Int) < (lo : Int)) = False := eq_false (by omega)
      have q6 : (ps : Int) ≤ (c : Int) := by omega
      have q7 := Lib.hid (fun (h : 0 < t) => (show ((ps : Int) == (k : Int)) = false from by
        have := f2 (by simp; omega)
        simp; omega))
      have HB0 : Hid (BoxH (wr.alloc (.cells #[.int .i64 (ps : Nat), .slice p1 lo c1, .slice p2 ln c2] 41)) wr.heap.size ps lo ln p1 c1 p2 c2) := boxH_new _ _ _ _ _ _ _ _ _
      have HB9 := Lib.hid (hbr.alloc hsr (.cells #[.int .i64 (ps : Nat), .slice p1 lo c1, .slice p2 ln c2] 41))
      have HNE : Hid (some wr.heap.size ≠ u6.ownBlock) := fun e => by have := (HO.out.lt _ e.symm).2; omega
      clear f2
      go_upto_region 7 with fail
      go_cut [62] (fun v wx => v = .bool false ∧ wx = wr.alloc (.cells #[.int .i64 (ps : Nat), .slice p1 lo c1, .slice p2 ln c2] 41))
      case first =>
        by_cases h0 : t = 0
        · subst h0
          go_wp2_with fail
          go_meet
          exact ⟨by congr 1; exact decide_eq_false (by omega), rfl⟩
        · have q8 := q7.out (by omega)
          have q9 : (0 : Int) < (t : Int) := by omega
          go_wp2_with fail
          go_meet
          exact ⟨by congr 1; exact decide_eq_false (by omega), rfl⟩
      case rest =>
        obtain ⟨rfl, rfl⟩ := hcut
        have hbA := HB0.out
        have ho := HO.out
        have hne := HNE.out
        have hb9 := HB9.out
        clear HO q7
        go_wp2_with (at_builtin; refine app_tx rfl _ _ 34 rfl w.heap.size 9 i0 (.string ⟨#[]⟩) Try.underlying34 hi hz0 hz1 hz2 rfl _ O.length O rfl (ho.alloc _) A n1 k1 (seg a k ps) rfl HSL.out (rA _ hb9) zA (by omega) hb9.size ?_)
        intro v5 w5 ho5 hgr5 hbk5
        have hbx := (hbA.kept hgr5 hne)
        have hb5 := hb9.grown hgr5 hb9.size (fun g hg => (ho.lt g hg).1)
        have hbe : BoxH w5 wr.heap.size ps lo ln p1 c1 p2 c2 := hbx
        have HB5 := Lib.hid hb5
        have ho5' : w5.ownsRow w.heap.size 9 1 v5 (O.length + n1) ((O ++ seg a k ps).map Value.string) := by rw [List.map_append]; simpa using ho5
        have HO5 := Lib.hid ho5'
        have HBX := Lib.hid hbx
        have hne5 : Hid (v5.ownBlock ≠ some wr.heap.size) := fun e => by
          rcases hbk5 with e' | e'
          · rw [e'] at e; exact hne e.symm
          · rw [e'] at e; injection e with e; omega
        clear hbA ho hne hb9 ho5 ho5' hgr5 hbk5 hbx hb5 hbe HB0 HB9 HNE rA zA hA q1 q2 q4 q4' q5 q6 g1 g2 g3
        generalize wr.heap.size = gb at *
        go_wp2_with fail
        go_loopw [10] (fun v wi => ∃ x : Nat, x ≤ lo ∧ v = .int .i64 x ∧ Below w5.heap.size w5 wi) (fun v _ => lo - (intOf v).toNat)
        case atStart => exact ⟨0, by omega, rfl, Below.refl _ _⟩
        case round =>
          obtain ⟨x, hx, rfl, hbi⟩ := hrel
          obtain ⟨y0, y1, y2⟩ := (HBX.out.later hbi).cells
          have hb5i := HB5.out.trans (hbi.mono HB5.out.size)
          by_cases hlx : x < lo
          · have hpx : ps + x < a.length := by rw [HN.out]; omega
            have hox : x < old.length := by rw [HLO.out]; exact hlx
            obtain ⟨b7, o7, rfl, e7⟩ := HP.out.at (ps + x) hpx
            obtain ⟨b8, o8, rfl, e8⟩ := R1.out.at x hox
            have d7 := e7 _ hb5i
            have d8 := e8 _ hb5i
            have hxy : a[ps + x] = old[x] := by
              have h1 : old[x]? = (seg a ps (ps + lo))[x]? := by rw [hold.out]
              unfold seg at h1
              rw [List.getElem?_drop, List.getElem?_take, if_pos (by omega), List.getElem?_eq_getElem hox, List.getElem?_eq_getElem hpx] at h1
              injection h1 with h1
              exact h1.symm
            rw [hxy] at d7
            generalize old[x] = tx at *
            have hxI : (x : Int) < (lo : Int) := by omega
            have hx0 : (0 : Int) ≤ (x : Int) := by omega
            obtain ⟨px, hpe⟩ : ∃ px, ps + x = px := ⟨_, rfl⟩
            have s1 : ((ps : Int) + (x : Int)) = (px : Int) := by omega
            have s2 : (px : Int) < (n : Int) := by rw [HN.out] at hpx; omega
            have s3 : (0 : Int) ≤ (px : Int) := by omega
            rw [hpe] at d7
            have HBI := Lib.hid hbi
            clear e7 e8 hbi hb5i hxy hpx hox hpe
            go_wp2_with fail
            go_quiet (fail)
            go_wp2
            go_roundw
            case rel => exact ⟨x + 1, by omega, by go_num, belowDN HBI.out _⟩
            case measure => simp [intOf]; omega
          · obtain rfl : x = lo := by omega
            have ho6 := row_later HO5.out hbi
            have h6 := HBX.out.later hbi
            have r6 := R2.out.later hb5i
            have HB6 := Lib.hid hb5i
            have s5 := hb5i.size
            clear hbi hb5i
            go_wp2_with (at_builtin; refine app_tx rfl _ _ 34 rfl w.heap.size 9 i0 (.string ⟨#[]⟩) Try.underlying34 hi hz0 hz1 hz2 rfl _ (O.length + n1) (O ++ seg a k ps) rfl ho6 p2 ln c2 nw rfl HLN.out r6 z2 (by omega) s5 ?_)
            intro v7 w7 ho7 hgr7 _
            have hb7 := HB6.out.grown hgr7 s5 (fun g hg => (ho6.lt g hg).1)
            have hne6 : some gb ≠ v5.ownBlock := fun e => hne5.out e.symm
            obtain ⟨y3, y4, y5⟩ := (h6.kept hgr7 hne6).cells
            have ho7' : w7.ownsRow w.heap.size 9 1 v7 (O.length + n1 + ln) ((O ++ seg a k ps ++ nw).map Value.string) := by simpa using ho7
            have ho8 : w7.ownsRow w.heap.size 9 1 v7 (O ++ seg a k ps ++ nw).length ((O ++ seg a k ps ++ nw).map Value.string) := by
              have e : (O ++ seg a k ps ++ nw).length = O.length + n1 + ln := by rw [List.length_append, List.length_append, HSL.out, HLN.out]
              rw [e]; exact ho7'
            have HB7 := Lib.hid hb7
            have HO8 := Lib.hid ho8
            have hA8 : Hid ((O ++ seg a k ps ++ nw) ++ apl a (ps + x) (hs.drop (t + 1)) = bb) := by
              show _ = _
              rw [List.append_assoc, List.append_assoc]; exact HAE.out
            have hF8 : Hid (Fit a (ps + x) ((t + 1) == 0) (hs.drop (t + 1))) := HF6.out
            clear ho7 ho7' hgr7 hb7 ho6 h6 r6 ho8 hne6 y0 y1 y2
            go_wp2_with fail
            go_roundw
            case rel => exact ⟨t + 1, ps + x, O ++ seg a k ps ++ nw, by omega, by go_num, by go_num, by omega, HB7.out, HO8.out, hF8.out, hA8.out⟩
            case measure => simp [intOf]; omega
    · obtain rfl : t = H := by omega
      have hdr : hs.drop t = [] := by rw [← HH.out]; exact List.drop_length
      have hA := HA.out
      rw [hdr] at hA
      have hAe : O ++ a.drop k = bb := hA
      have hbl := congrArg List.length hAe
      rw [List.length_append, List.length_drop, HN.out] at hbl
      have rA := drop_cut (HP.out.later hbr) HN.out hnc k hkn
      have zA := fun e => cut_nil (i := k) hpn (n - k) (by omega) e
      have hdl : (a.drop k).length = n - k := by rw [List.length_drop, HN.out]
      obtain ⟨A, hA'⟩ : ∃ A, cutA p c k = A := ⟨_, rfl⟩
      obtain ⟨n1, hn1⟩ : ∃ n1, n - k = n1 := ⟨_, rfl⟩
      obtain ⟨k1, hk1⟩ : ∃ k1, c - k = k1 := ⟨_, rfl⟩
      rw [hA'] at rA
      rw [hA', hn1, hk1] at zA
      rw [hn1] at hdl hbl
      unfold cutA at hA'
      have ho := HO.out
      have HB := Lib.hid hbr
      have HAE := Lib.hid hAe
      have q1 : (k : Int) ≤ (n : Int) := by omega
      clear HO hbr hA hAe HA HF hdr
      go_wp2_with (at_builtin; refine app_tx rfl _ _ 34 rfl w.heap.size 9 i0 (.string ⟨#[]⟩) Try.underlying34 hi hz0 hz1 hz2 rfl _ O.length O rfl ho A n1 k1 (a.drop k) rfl hdl rA zA (by omega) hsr ?_)
      intro v5 w5 ho5 hgr5 _
      have hb5 := HB.out.grown hgr5 hsr (fun g hg => (ho.lt g hg).1)
      have hme := congrArg (List.map Value.string) HAE.out
      have ho5' : w5.ownsRow w.heap.size 9 1 v5 bb.length (bb.map Value.string) := by rw [← hme, List.map_append]; simpa using ho5
      obtain ⟨pb, cb, rfl, hrb⟩ := row_owned ho5'
      have HB5 := Lib.hid hb5
      have HRB := Lib.hid hrb
      clear ho ho5 ho5' hme hgr5 hb5 rA zA hA' hrb
      go_wp2_with fail
      go_ret2
      exact ⟨HB5.out, pb, cb, rfl, HRB.out⟩
end Go.Proofs.Ytmkjeelmeicjjaa
