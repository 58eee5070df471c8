/- hunk.Touched: by its contract. -/
import Derived.Test.YtjmnbnlhahbcjaaHuSizes
import Derived.Test.YtjmnbnlhahbcjaaHuFits
import Derived.Laws.MakeOwn
namespace Go.Proofs.Ytjmnbnlhahbcjaa
open Go Go.RowKit

/-- Places from i on, k of them, are marked. -/
def setR (l : List Bool) (i : Nat) : Nat → List Bool
  | 0 => l
  | k + 1 => (setR l i k).set (i + k) true
theorem setR_len (l : List Bool) (i : Nat) : ∀ k, (setR l i k).length = l.length
  | 0 => rfl
  | k + 1 => by unfold setR; rw [List.length_set, setR_len l i k]
def tch (n : Nat) : List Hu → List Bool → Option (List Bool)
  | [], l => some l
  | h :: hs, l => if n < h.pos.toNat + h.old.length then none else tch n hs (setR l h.pos.toNat h.old.length)
/-- What Touched answers: an error's number, and the marks. -/
def tchX (hs : List Hu) (n : Int) : Int × List Bool := if may 0 hs < hs.length ∨ n < 0 ∨ 1048576 < n then (80, []) else match tch n.toNat hs (List.replicate n.toNat false) with
  | none => (81, [])
  | some l => (0, l)
theorem tch_step {n : Nat} {hs : List Hu} {l : List Bool} {X : Option (List Bool)} {k P : Nat} (hk : k < hs.length) (e : tch n (hs.drop k) l = X) (hP : hs[k].pos = (P : Int)) (h : ¬ n < P + hs[k].old.length) : tch n (hs.drop (k + 1)) (setR l P hs[k].old.length) = X := by
  rw [List.drop_eq_getElem_cons hk] at e
  simpa [tch, hP, h] using e
theorem tch_stop {n : Nat} {hs : List Hu} {l : List Bool} {X : Option (List Bool)} {k P : Nat} (hk : k < hs.length) (e : tch n (hs.drop k) l = X) (hP : hs[k].pos = (P : Int)) (h : n < P + hs[k].old.length) : X = none := by
  rw [List.drop_eq_getElem_cons hk] at e
  simpa [tch, hP, h] using e.symm
theorem boolInfo : (Try.prog.info? 4).map (fun i => (i.zero, i.size, i.bytes)) = some (some (.bool false), 1, 1) := by kernel_rfl
/-- A list of marks handed out, or an error. -/
def GivesB (w : World) (x : Int × List Bool) (e : Ending) (w' : World) : Prop := Below w.heap.size w w' ∧ ∃ v, e = .returned (.tuple #[v, .int .i64 x.1]) ∧ w'.ownsRow w.heap.size 4 1 v x.2.length (x.2.map Value.bool)
theorem GivesB.none {w w' : World} {e : Int} (hb : Below w.heap.size w w') : GivesB w (e, []) (.returned (.tuple #[.slice none 0 0, .int .i64 e])) w' := ⟨hb, _, rfl, World.ownsRow_nil _ _ _ _⟩
set_option maxRecDepth 100000 in
set_option maxHeartbeats 4000000 in
theorem touched_any (w : World) (p : Option Addr) (n c : Nat) (hs : List Hu) (N : Int) (hn : hs.length = n) (hnb : n ≤ 2513169434917) (hr : HuRow w p hs) (hB : HuB hs) :
    Calls Try.prog 53 #[.slice p n c, .int .i64 N] w (GivesB w (tchX hs N)) := by
  obtain ⟨i0, hi, hz0, hz1, hz2⟩ := info_parts boolInfo
  have cC := check_any w p n c hs hn hnb hr hB
  have HN := Lib.hid hn
  have HR := Lib.hid hr
  have HHB := Lib.hid hB
  unfold tchX
  clear hn hr hB
  by_cases hbad : may 0 hs < hs.length
  · rw [chkX_bad hbad] at cC
    rw [if_pos (.inl hbad)]
    go_enter Try.func53, Try.ntmps53
    go_wp2_with fail
    refine cC.mono ?_
    rintro e w1 ⟨rfl, hb1⟩
    clear cC
    go_wp2_with fail
    go_ret2
    exact GivesB.none hb1
  · rw [chkX_ok (by have := may_le 0 hs; omega)] at cC
    by_cases hN0 : N < 0
    · rw [if_pos (.inr (.inl hN0))]
      go_enter Try.func53, Try.ntmps53
      go_wp2_with fail
      refine cC.mono ?_
      rintro e w1 ⟨rfl, hb1⟩
      clear cC
      go_wp2_with fail
      go_ret2
      exact GivesB.none hb1
    · by_cases hN1 : 1048576 < N
      · rw [if_pos (.inr (.inr hN1))]
        go_enter Try.func53, Try.ntmps53
        go_wp2_with fail
        refine cC.mono ?_
        rintro e w1 ⟨rfl, hb1⟩
        clear cC
        go_wp2_with fail
        go_ret2
        exact GivesB.none hb1
      · rw [if_neg (fun h => by rcases h with h | h | h; exact hbad h; exact hN0 h; exact hN1 h)]
        obtain ⟨nn, rfl⟩ : ∃ nn : Nat, N = (nn : Int) := ⟨N.toNat, by omega⟩
        rw [Int.toNat_natCast]
        have hnn : nn ≤ 1048576 := by omega
        have HG := Lib.hid (Good.of_may hbad)
        obtain ⟨X, hX⟩ : ∃ X, tch nn hs (List.replicate nn false) = X := ⟨_, rfl⟩
        rw [hX]
        have HX0 := Lib.hid hX
        clear hX hbad
        go_enter Try.func53, Try.ntmps53
        go_wp2_with fail
        refine cC.mono ?_
        rintro e w1 ⟨rfl, hb1⟩
        obtain ⟨w2, hmk, ho2, hgr2⟩ := run_make_full (P := Try.prog) w1 w.heap.size 66 _ i0 (.bool false) 1 Try.underlying66 hi hz0 hz1 .i64 .i64 nn (by rw [hz2]; omega) (by unfold maxLen; omega) hb1.size
        have hb2 := hb1.grown hgr2 hb1.size (fun g hg => by cases hg)
        rw [show (.bool false : Value).cells = #[.bool false] from rfl, Nat.mul_one, toList_madeCells_one] at ho2
        have HO2 : Hid (w2.ownsRow w.heap.size 4 1 (.slice (some ⟨w1.heap.size, 0, none⟩) nn nn) nn ((List.replicate nn false).map Value.bool)) := by show World.ownsRow _ _ _ _ _ _ _; rw [List.map_replicate]; exact ho2
        have HB2 := Lib.hid hb2
        have hg8 := hb1.size
        clear cC hb1 hb2 ho2 hgr2
        go_wp2_with fail
        clear hmk
        generalize w1.heap.size = g8 at *
        go_loopg [31] n (fun g vi wr => ∃ (k : Nat) (l : List Bool), k + g = n ∧ vi = .int .i64 k ∧ Below w.heap.size w wr ∧ l.length = nn ∧ Hid (wr.ownsRow w.heap.size 4 1 (.slice (some ⟨g8, 0, none⟩) nn nn) nn (l.map Value.bool)) ∧ Hid (tch nn (hs.drop k) l = X))
        case atStart => exact ⟨0, _, by omega, rfl, HB2.out, by simp, HO2.out, HX0.out⟩
        case round =>
          obtain ⟨k, l, hk, rfl, hbr, hll, HO, HX⟩ := hrel
          have hsr := hbr.size
          by_cases hlt : k < n
          · have hlt' : k < hs.length := by rw [HN.out]; exact hlt
            obtain ⟨b, off, p1, c1, p2, c2, rfl, t1, t2, hc⟩ := HR.out.at k hlt'
            obtain ⟨g0, g1, g2⟩ := hc wr hbr
            obtain ⟨bo, bn, so, sn⟩ := HHB.out.at k hlt'
            obtain ⟨q0, q1, q2⟩ := HG.out.at (Int.le_refl _) k hlt'
            obtain ⟨P, hP⟩ : ∃ P : Nat, hs[k].pos = (P : Int) := ⟨hs[k].pos.toNat, by omega⟩
            have hstep := Lib.hid (fun h => tch_step hlt' HX.out hP h)
            have hstop := Lib.hid (fun h => tch_stop hlt' HX.out hP h)
            rw [hP] at g0 q0 q1
            have hkI : (k : Int) < (n : Int) := by omega
            have hk0 : (0 : Int) ≤ (k : Int) := by omega
            obtain ⟨lo, hlo⟩ : ∃ lo, hs[k].old.length = lo := ⟨_, rfl⟩
            obtain ⟨ln, hln⟩ : ∃ ln, hs[k].new.length = ln := ⟨_, rfl⟩
            rw [hlo] at g1 bo hstep hstop
            rw [hln] at g2 bn
            have hgb : g8 ≠ wr.heap.size := by
              have := (HO.out.lt g8 rfl).2
              omega
            have hbx := boxU_new wr (P : Int) p1 lo c1 p2 ln c2 wr.heap.size
            have hbw := hbr.alloc hsr (.cells #[.int .i64 (P : Int), .slice p1 lo c1, .slice p2 ln c2] 47)
            have how := HO.out.alloc (.cells #[.int .i64 (P : Int), .slice p1 lo c1, .slice p2 ln c2] 47)
            clear hc HX q2 hlo hln HO hP t1 t2 so sn
            go_upto_region 8 with fail
            generalize wr.alloc (.cells #[.int .i64 (P : Int), .slice p1 lo c1, .slice p2 ln c2] 47) = wb at *
            obtain ⟨y0, y1, y2⟩ := hbx.cells
            have hsb := hbw.size
            have HBW := Lib.hid hbw
            have HBX := Lib.hid hbx
            have HOW := Lib.hid how
            obtain ⟨E, hE⟩ : ∃ E : Nat, P + lo = E := ⟨_, rfl⟩
            have hwE : wrap64 ((P : Int) + (lo : Int)) = (E : Int) := by unfold wrap64; omega
            have cH := Lib.hid (fun W => behind_any W (P : Int) p1 p2 lo ln c1 c2)
            rw [hwE] at cH
            rw [hE] at hstep hstop
            clear hbx hbw hbr hwE how g0 g1 g2
            generalize wr.heap.size = gb at *
            by_cases hr : nn < E
            · have hx := hstop.out hr
              subst hx
              have hrI : (nn : Int) < (E : Int) := by omega
              clear hstep hstop
              have cH1 := cH.out wb
              go_wp2_with fail
              refine cH1.mono ?_
              rintro e w3 ⟨rfl, hb3⟩
              have hbw3 := HBW.out.trans (hb3.mono hsb)
              clear cH1 hb3
              go_wp2_with fail
              go_ret2
              exact GivesB.none hbw3
            · have hrI : ¬ (nn : Int) < (E : Int) := by omega
              have hst := Lib.hid (hstep.out hr)
              clear hstep hstop
              have cH1 := cH.out wb
              go_wp2_with fail
              refine cH1.mono ?_
              rintro e w3 ⟨rfl, hb3⟩
              have hbw3 := HBW.out.trans (hb3.mono hsb)
              have HBX3 := Lib.hid (HBX.out.later hb3)
              have HO3 := Lib.hid (row_later HOW.out hb3)
              have HB3 := Lib.hid hbw3
              obtain ⟨z0, z1, z2⟩ := (HBX.out.later hb3).cells
              clear cH1 hb3 hbw3 y0 y1 y2 HBX HOW HBW
              obtain ⟨gO, hgO⟩ : ∃ x, x = gk := ⟨_, rfl⟩
              go_wp2_with fail
              go_loopg [11] lo (fun g v wi => ∃ y : Nat, y + g = lo ∧ v = .int .i64 ((P + y : Nat) : Int) ∧ Below w.heap.size w wi ∧ Hid (BoxU wi gb (P : Int) p1 lo c1 p2 ln c2) ∧ Hid (wi.ownsRow w.heap.size 4 1 (.slice (some ⟨g8, 0, none⟩) nn nn) nn ((setR l P y).map Value.bool)))
              case atStart => exact ⟨0, by omega, by simp, HB3.out, HBX3.out, HO3.out⟩
              case round =>
                obtain ⟨y, hy, rfl, hbi, HBXi, HOi⟩ := hrel
                have hsi := hbi.size
                obtain ⟨z0, z1, z2⟩ := HBXi.out.cells
                have cH2 := cH.out wr
                obtain ⟨px, hpx⟩ : ∃ px, P + y = px := ⟨_, rfl⟩
                rw [hpx]
                have HBI := Lib.hid hbi
                clear hbi
                by_cases hyl : y < lo
                · have hpE : (px : Int) < (E : Int) := by omega
                  have hpn : (px : Int) < (nn : Int) := by omega
                  have hp0 : (0 : Int) ≤ (px : Int) := by omega
                  go_wp2_with fail
                  refine cH2.mono ?_
                  rintro e w5 ⟨rfl, hb5⟩
                  have HB5 := Lib.hid (HBI.out.trans (hb5.mono hsi))
                  have HBX5 := Lib.hid (HBXi.out.later hb5)
                  have ho5 := row_later HOi.out hb5
                  have fz := ho5.frozenAt px
                  have cz := ho5.cellAt px (by omega)
                  obtain ⟨uz, hz⟩ : ∃ u, ((setR l P y).map Value.bool)[px]? = some u := ⟨_, List.getElem?_eq_getElem (by rw [List.length_map, setR_len]; omega)⟩
                  rw [hz] at cz
                  have HO5 := Lib.hid ho5
                  clear ho5 hb5 hz cH2
                  go_wp2_with fail
                  obtain ⟨rs, gs⟩ := HO5.out.stored px (.bool true)
                  have hb6 := HB5.out.grown gs HB5.out.size (fun g hg => by injection hg with hg; subst hg; exact hg8)
                  have hx6 : BoxU (w5.setCell ⟨g8, px, none⟩ (.bool true)) gb (P : Int) p1 lo c1 p2 ln c2 := HBX5.out.kept gs (fun e => hgb (Option.some.inj e).symm)
                  have hr6 : (w5.setCell ⟨g8, px, none⟩ (.bool true)).ownsRow w.heap.size 4 1 (.slice (some ⟨g8, 0, none⟩) nn nn) nn ((setR l P (y + 1)).map Value.bool) := by
                    rw [setR, List.map_set, hpx]; exact rs
                  have e1 : (px : Int) + 1 = ((P + (y + 1) : Nat) : Int) := by omega
                  rw [e1]
                  go_roundg (gk - 1)
                  case rel => exact ⟨y + 1, by omega, rfl, hb6, hx6, hr6⟩
                  case measure => omega
                · obtain rfl : lo = y := by omega
                  have hpE : ¬ (px : Int) < (E : Int) := by omega
                  have hl2 : (setR l P lo).length = nn := by rw [setR_len]; exact hll
                  go_wp2_with fail
                  refine cH2.mono ?_
                  rintro e w5 ⟨rfl, hb5⟩
                  have HB5 := Lib.hid (HBI.out.trans (hb5.mono hsi))
                  have HO5 := Lib.hid (row_later HOi.out hb5)
                  clear hb5 cH2
                  go_wp2_with fail
                  go_roundg (gO - 1)
                  case rel => exact ⟨k + 1, setR l P lo, by omega, by go_num, HB5.out, hl2, HO5.out, hst.out⟩
                  case measure => omega
          · obtain rfl : k = n := by omega
            have hx := HX.out
            rw [List.drop_eq_nil_of_le (by have := HN.out; omega)] at hx
            have hx' : X = some l := hx.symm
            subst hx'
            have HGV : Hid (GivesB w (0, l) (.returned (.tuple #[.slice (some ⟨g8, 0, none⟩) nn nn, .int .i64 0])) wr) := ⟨hbr, _, rfl, by show World.ownsRow _ _ _ _ _ l.length _; rw [hll]; exact HO.out⟩
            clear HX hbr HO
            go_wp2_with fail
            go_ret2
            exact HGV.out
end Go.Proofs.Ytjmnbnlhahbcjaa
