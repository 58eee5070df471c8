/- The document's Fits: by its contract. -/
import Derived.Test.YtjmnbnlhahbcjaaHuRefCk
import Derived.Test.YtjmnbnlhahbcjaaHuFits
namespace Go.Proofs.Ytjmnbnlhahbcjaa
open Go Go.RowKit

theorem seg_at (a : List Tx) (P E j : Nat) (hj : P + j < E) : (seg a P E)[j]? = a[P + j]? := by
  unfold seg
  rw [List.getElem?_drop, List.getElem?_take, if_pos hj]
theorem seg_is {a old : List Tx} {P lo : Nat} (hl : old.length = lo) (hE : P + lo ≤ a.length) (h : ∀ j, j < lo → a[P + j]? = old[j]?) : seg a P (P + lo) = old := by
  refine list_eq (by rw [seg_len _ _ _ hE, hl]; omega) fun j hj => ?_
  rw [seg_len _ _ _ hE] at hj
  rw [seg_at _ _ _ _ (by omega)]
  exact h j (by omega)
theorem seg_isnt {a old : List Tx} {P lo k : Nat} (hk : k < lo) (h1 : P + k < a.length) (h2 : k < old.length) (h : ¬ old[k] = a[P + k]) : ¬ seg a P (P + lo) = old := fun e => h (by
  have : (seg a P (P + lo))[k]? = old[k]? := by rw [e]
  rw [seg_at _ _ _ _ (by omega), List.getElem?_eq_getElem h1, List.getElem?_eq_getElem h2] at this
  injection this with this
  exact this.symm)
set_option maxRecDepth 100000 in
set_option maxHeartbeats 4000000 in
theorem refFits_any (w : World) (p : Option Addr) (n c : Nat) (hs : List Hu) (q : Option Addr) (m d : Nat) (a : List Tx) (hn : hs.length = n) (hnb : n ≤ 2513169434917) (hr : HuRow w p hs) (hB : HuB hs) (hm : a.length = m) (hmb : m ≤ 8796093021952) (hq : TxP w q d a) :
    Calls Try.prog 36 #[.slice p n c, .slice q m d] w fun e w' => e = .returned (.tuple #[.int .i64 (fitX a hs).1, .int .i64 (fitX a hs).2]) ∧ Below w.heap.size w w' := by
  have cC := refCheck_any w p n c hs hn hnb hr hB
  have HN := Lib.hid hn
  have HM := Lib.hid hm
  have HR := Lib.hid hr
  have HHB := Lib.hid hB
  have HQ := Lib.hid hq.1
  clear hn hm hr hB hq
  by_cases hbad : may 0 hs < hs.length
  · rw [chkX_bad hbad] at cC
    rw [fitX_bad hbad]
    go_enter Try.func36, Try.ntmps36
    go_wp2_with fail
    refine cC.mono ?_
    rintro e w1 ⟨rfl, hb1⟩
    clear cC
    go_wp2_with fail
    go_ret2
    exact ⟨rfl, hb1⟩
  · rw [chkX_ok (by have := may_le 0 hs; omega)] at cC
    have HG := Lib.hid (Good.of_may hbad)
    rw [fitX_ok hbad]
    clear hbad
    obtain ⟨X, hX⟩ : ∃ X, fitG a 0 hs = X := ⟨_, rfl⟩
    rw [hX]
    have HX0 := Lib.hid hX
    clear hX
    go_enter Try.func36, Try.ntmps36
    go_wp2_with fail
    refine cC.mono ?_
    rintro e w1 ⟨rfl, hb1⟩
    have HB1 := Lib.hid hb1
    clear cC hb1
    go_wp2_with fail
    go_loopg [8] n (fun g vi wr => ∃ k : Nat, k + g = n ∧ vi = .int .i64 k ∧ Below w.heap.size w wr ∧ Hid (fitG a k (hs.drop k) = X))
    case atStart => exact ⟨0, by omega, rfl, HB1.out, HX0.out⟩
    case round =>
      obtain ⟨k, hk, rfl, hbr, HX⟩ := hrel
      have hsr := hbr.size
      by_cases hlt : k < n
      · have hlt' : k < hs.length := by rw [HN.out]; exact hlt
        obtain ⟨b, off, p1, c1, p2, c2, rfl, t1, t2, hc⟩ := HR.out.at k hlt'
        obtain ⟨g0, g1, g2⟩ := hc wr hbr
        obtain ⟨bo, bn, so, sn⟩ := HHB.out.at k hlt'
        obtain ⟨q0, q1, q2⟩ := HG.out.at (Int.le_refl _) k hlt'
        have hstep := Lib.hid (fun e => fitG_step hlt' HX.out e)
        have hstop := Lib.hid (fun e => fitG_stop hlt' HX.out e)
        have hkI : (k : Int) < (n : Int) := by omega
        have hk0 : (0 : Int) ≤ (k : Int) := by omega
        clear HX
        generalize hs[k] = h at *
        obtain ⟨ps, old, new⟩ := h
        dsimp only at *
        obtain ⟨P, rfl⟩ : ∃ P : Nat, ps = (P : Int) := ⟨ps.toNat, by omega⟩
        have f81 := Lib.hid (fun e => fit1_range (a := a) (h := ⟨(P : Int), old, new⟩) e)
        have f0 := Lib.hid (fun e s => fit1_same (a := a) (h := ⟨(P : Int), old, new⟩) (P := P) rfl e s)
        have f82 := Lib.hid (fun e s => fit1_text (a := a) (h := ⟨(P : Int), old, new⟩) (P := P) rfl e s)
        dsimp only at f81 f0 f82
        rw [HM.out] at f81 f0 f82
        generalize fit1 a ⟨(P : Int), old, new⟩ = F at *
        obtain ⟨lo, hlo'⟩ : ∃ lo, old.length = lo := ⟨_, rfl⟩
        obtain ⟨ln, hln'⟩ : ∃ ln, new.length = ln := ⟨_, rfl⟩
        rw [hlo'] at g1 bo f81 f0 f82 hc
        rw [hln'] at g2 bn
        have HLO := Lib.hid hlo'
        have HT := Lib.hid t1.1
        have HC := Lib.hid hc
        have HB := Lib.hid hbr
        clear hlo' hln' q2 hc hbr t1 t2 so sn
        by_cases hA : m < P
        · have hx := Lib.hid (f81.out (by omega))
          have hy := Lib.hid (hstop.out (by rw [hx.out]; decide))
          have hrI : ((m : Int) < (P : Int)) = True := eq_true (by omega)
          clear f81 f0 f82 hstep hstop
          go_wp2_with fail
          go_quiet (fail)
          go_wp2
          go_ret2
          exact ⟨by rw [hy.out, hx.out] <;> rfl, belowDN HB.out _⟩
        · have hrI : ((m : Int) < (P : Int)) = False := eq_false (by omega)
          have hw1 : IntKind.i64.wrap ((m : Int) - (P : Int)) = (m : Int) - (P : Int) := by rw [Go.IntWalk.i64_left]; unfold wrap64; omega
          by_cases hE : m < P + lo
          · have hx := Lib.hid (f81.out (by omega))
            have hy := Lib.hid (hstop.out (by rw [hx.out]; decide))
            have hrE : ((m : Int) - (P : Int) < (lo : Int)) = True := eq_true (by omega)
            clear f81 f0 f82 hstep hstop
            go_wp2_with fail
            go_quiet (fail)
            go_wp2
            go_ret2
            exact ⟨by rw [hy.out, hx.out] <;> rfl, belowDN HB.out _⟩
          · have hrE : ((m : Int) - (P : Int) < (lo : Int)) = False := eq_false (by omega)
            have f0' := Lib.hid (fun s => hstep.out (f0.out (by omega) s))
            have f82' := Lib.hid (fun s => (hstop.out (by rw [f82.out (by omega) s]; decide)).trans (by rw [f82.out (by omega) s]))
            clear f81 f0 f82 hstep hstop
            go_wp2_with fail
            go_quiet (fail)
            have hbd := belowDN HB.out nq
            have HBD := Lib.hid hbd
            have hsd := hbd.size
            clear hbd
            generalize wr.drewN nq = wd at *
            obtain ⟨gO, hgO⟩ : ∃ x, x = gk := ⟨_, rfl⟩
            clear hrE hw1 hrI
            go_wp2
            go_loopg [9] lo (fun g v wi => ∃ y : Nat, y + g = lo ∧ v = .int .i64 y ∧ Below w.heap.size w wi ∧ Hid (∀ j, j < y → a[P + j]? = old[j]?))
            case atStart => exact ⟨0, by omega, rfl, HBD.out, fun j hj => absurd hj (by omega)⟩
            case round =>
              obtain ⟨y, hy, rfl, hbi, HF⟩ := hrel
              obtain ⟨d0, d1, -⟩ := HC.out _ hbi
              by_cases hyl : y < lo
              · have hyo : y < old.length := by rw [HLO.out]; exact hyl
                have hya : P + y < a.length := by rw [HM.out]; omega
                obtain ⟨b3, o3, rfl, h3⟩ := HT.out.at y hyo
                obtain ⟨b4, o4, rfl, h4⟩ := HQ.out.at (P + y) hya
                have g3 := h3 _ hbi
                have g4 := h4 _ hbi
                have hyI : (y : Int) < (lo : Int) := by omega
                have hy0 : (0 : Int) ≤ (y : Int) := by omega
                obtain ⟨px, hpx⟩ : ∃ px, P + y = px := ⟨_, rfl⟩
                have w1 : IntKind.i64.wrap ((P : Int) + (y : Int)) = (px : Int) := by rw [Go.IntWalk.i64_left]; unfold wrap64; omega
                have w2 : IntKind.i64.wrap (px : Int) = (px : Int) := by rw [Go.IntWalk.i64_left]; unfold wrap64; omega
                have hpI : (px : Int) < (m : Int) := by rw [HM.out] at hya; omega
                have hp0 : (0 : Int) ≤ (px : Int) := by omega
                have hyes := Lib.hid (fun (e : old[y] = a[P + y]) j (hj : j < y + 1) => (show a[P + j]? = old[j]? from by
                  by_cases e' : j = y
                  · rw [e', List.getElem?_eq_getElem hya, List.getElem?_eq_getElem hyo, e]
                  · exact HF.out j (by omega)))
                have hno := Lib.hid (fun (e : ¬ old[y] = a[P + y]) => f82'.out (seg_isnt hyl hya hyo e))
                have HBI := Lib.hid hbi
                clear h3 h4 HF hbi
                generalize old[y] = tx at *
                generalize a[P + y] = ty at *
                rw [hpx] at g4
                by_cases hxy : tx = ty
                · subst hxy
                  have hx := Lib.hid (hyes.out rfl)
                  clear hyes hno hpx
                  go_wp2_with fail
                  go_quiet (fail)
                  go_wp2
                  go_roundg (gk - 1)
                  case rel => exact ⟨y + 1, by omega, by go_num, belowDN HBI.out _, hx.out⟩
                  case measure => omega
                · have hx := Lib.hid (hno.out hxy)
                  clear hyes hno hpx
                  go_wp2_with fail
                  go_quiet (fail)
                  have hxf := tl_ne hxy
                  simp only [hxf, Bool.not_false]
                  go_wp2
                  go_ret2
                  exact ⟨by rw [hx.out] <;> rfl, belowDN HBI.out _⟩
              · obtain rfl : lo = y := by omega
                have hx := Lib.hid (f0'.out (seg_is HLO.out (by rw [HM.out]; omega) HF.out))
                have HBI := Lib.hid hbi
                clear HF hbi
                go_wp2_with fail
                go_roundg (gO - 1)
                case rel => exact ⟨k + 1, by omega, by go_num, HBI.out, hx.out⟩
                case measure => omega
      · obtain rfl : k = n := by omega
        have hx := HX.out
        rw [List.drop_eq_nil_of_le (by have := HN.out; omega)] at hx
        have hx' := Lib.hid hx.symm
        have HBR := Lib.hid hbr
        clear HX hbr hx
        go_wp2_with fail
        go_ret2
        exact ⟨by rw [hx'.out] <;> rfl, HBR.out⟩
end Go.Proofs.Ytjmnbnlhahbcjaa
