/- The law LabelBack by a walk over the contracts. -/
import Derived.Test.YtglpkadpohbfmaaDoorAwake
import Derived.Test.YtglpkadpohbfmaaDoorLbHiW
import Derived.Test.YtglpkadpohbfmaaDoorLbParse
import Derived.Test.YtglpkadpohbfmaaDoorLbRefParse
import Derived.BigQuiet
import Derived.Deep.DeepCutAuto
import Derived.Deep.CutBlock
namespace Go.Proofs.YtglpkadpohbfmaaDoor
open Go.RowKit

theorem text_short {a : Nat} (ha : a < 18446744073709551616) : (textN a).length ≤ 200 := by
  rcases Nat.lt_or_ge 200 (textN a).length with h | h
  · exact absurd (readAs_one (.inl ⟨rfl, ha, rfl⟩ : ReadAs (textN a) a 0) (scan_long h)).2 (by decide)
  · exact h
theorem parse_text (a : Nat) (ha : a < 18446744073709551616) (W : World) (hT : BTab W) (hE : EvW W) :
    Calls Tryd.prog 23 #[.string ⟨(textN a).toArray⟩] W fun e w' => e = .returned (.tuple #[.int .u64 a, .int .i64 0]) ∧ Below W.heap.size W w' := by
  have hs := text_short ha
  refine (parse_any _ W (by show (textN a).toArray.size ≤ _; simp; omega) hT hE).mono ?_
  rintro e w' ⟨x, er, h1, h2, h3⟩
  obtain ⟨rfl, rfl⟩ := readAs_one h2 (.inl ⟨rfl, ha, rfl⟩)
  exact ⟨h1, h3⟩
theorem text_back {x : Nat} {s : ByteArray} (hx : x < 18446744073709551616) (h : textN x = s.data.toList) (W : World) (hT : BTab W) :
    Calls Tryd.prog 24 #[.int .u64 x] W fun e w' => e = .returned (.string s) ∧ Below W.heap.size W w' := by
  have := text_any x W hx hT
  rw [h] at this
  exact this
theorem below_flip (a b : Nat) (w : World) (ha : a < 18446744073709551616) (hb : b < 18446744073709551616) :
    Calls Tryd.prog 16 #[.int .u64 a, .int .u64 b] w fun e w' => e = .returned (.bool (belowB a b)) ∧ w' = w :=
  (below_any a b w ha hb).mono fun _ _ ⟨h1, h2⟩ => ⟨h1, h2.symm⟩
/-- Of over List's row. -/
theorem of_back (a : Nat) (ha : a < 18446744073709551616) (W W' : World) (e : Ending) (h : IntRow W (listTo a 64) e W') : ∃ p c, e = .returned (.slice p (listTo a 64).length c) ∧ Below W.heap.size W W' ∧
    Calls Tryd.prog 11 #[.slice p (listTo a 64).length c] W' fun e w' => e = .returned (.tuple #[.int .u64 a, .int .i64 0]) ∧ W' = w' := by
  obtain ⟨p, c, h1, h2, h3⟩ := h
  obtain ⟨p', c', h4, h5⟩ := of_list_row h3
  injection h4 with e1 _ e3
  subst e1
  refine ⟨p, c, h1, h2, ?_⟩
  have hl := listTo_len a 64
  have := of_any W' p (listTo a 64).length c _ h5 (by simp) (by omega)
  rw [(of_list a ha).1, (of_list a ha).2] at this
  exact this
theorem rowL_owned {W : World} {B : Nat} {v : Value} {l : List Nat64} (h : W.ownsRow B 24 1 v l.length (l.map encL)) : ∃ p c, v = .slice p l.length c ∧ RowL W p l := by
  rcases h.2 with ⟨hv, h0⟩ | ⟨g, cap, cur, hv, hb, hg, hn, hm, hs, ht⟩
  · refine ⟨none, 0, by rw [hv, h0], fun i x hx => ?_⟩
    rw [List.length_eq_zero_iff.1 h0] at hx
    cases hx
  · refine ⟨some ⟨g, 0, none⟩, cap, hv, fun i x hx => ⟨g, 0, rfl, ?_⟩⟩
    have := h.cells (g := g) (by rw [hv]; rfl) i (encL x) (by rw [List.getElem?_map, hx]; rfl)
    have e : (⟨g, 0, none⟩ : Addr).add i = ⟨g, 0 + i, none⟩ := by
      unfold Addr.add
      split
      · rename_i h0; subst h0; rfl
      · rfl
    rw [e] at this
    exact this
theorem RowL.later {w W : World} {p : Option Addr} {l : List Nat64} (h : RowL w p l) (hb : Below w.heap.size w W) : RowL W p l := fun i x hx => by
  obtain ⟨b, off, e, hc⟩ := h i x hx
  exact ⟨b, off, e, (hb.cell (p := ⟨b, off + i, none⟩) (World.block_lt_of_cell? w _ hc)).trans hc⟩

set_option maxRecDepth 100000 in
set_option maxHeartbeats 4000000 in
theorem labelBack_any (a : Nat) (s : ByteArray) (p : Option Addr) (n c : Nat) (ns : List Nat64) (w : World) (ha : a < 18446744073709551616) (hs : s.size ≤ 281474976710656) (hp : RowL w p ns) (hn : ns.length = n) (hT : BTab w) (hE : EvW w) :
    Calls Tryd.prog 8 #[.int .u64 a, .string s, .slice p n c] w fun e w' => e = .returned (.bool true) ∧ Below w.heap.size w w' := by
  have cA := awake_any w hT
  have cT := fun W hT => text_any a W ha hT
  have cP := fun W hT hE => parse_text a ha W hT hE
  have cL := fun W hT => list_any a W ha hT
  have cO := fun W W' e h => of_back a ha W W' e h
  have cQ := fun W hT hE => parse_any s W hs hT hE
  generalize (⟨(textN a).toArray⟩ : ByteArray) = tx at *
  generalize listTo a 64 = la at *
  have HN := Lib.hid hn
  have HP := Lib.hid hp
  clear hn hp
  obtain ⟨i0, hi, hz0, hz1, hz2⟩ := info_parts hi_labInfo
  go_enter Tryd.func8, Tryd.ntmps8
  go_wp2_with fail
  refine cA.mono ?_
  rintro e w1 ⟨rfl, hb1⟩
  have hT1 := hT.below hb1
  clear cA
  go_wp2_with fail
  refine (cT w1 hT1).mono ?_
  rintro e w2 ⟨rfl, hb2⟩
  have hbw2 := hb1.trans (hb2.mono hb1.size)
  have hT2 := hT.below hbw2
  have hE2 := hE.below hbw2
  clear cT hb1 hb2 hT1
  go_wp2_with fail
  refine (cP w2 hT2 hE2).mono ?_
  rintro e w3 ⟨rfl, hb3⟩
  have hbw3 := hbw2.trans (hb3.mono hbw2.size)
  have hT3 := hT.below hbw3
  clear cP hbw2 hb3 hT2 hE2
  go_wp2_with fail
  refine (cL w3 hT3).mono ?_
  intro e w4 h4
  obtain ⟨p4, c4, rfl, hb4, cOf⟩ := cO w3 w4 e h4
  have hbw4 := hbw3.trans (hb4.mono hbw3.size)
  have hT4 := hT.below hbw4
  have hE4 := hE.below hbw4
  clear cL cO h4 hbw3 hb4 hT3
  go_wp2_with fail
  refine cOf.mono ?_
  rintro e w' ⟨rfl, rfl⟩
  clear cOf
  go_wp2_with fail
  refine (cQ w4 hT4 hE4).mono ?_
  rintro e w5 ⟨x, er, rfl, hr, hb5⟩
  have hbw5 := hbw4.trans (hb5.mono hbw4.size)
  have hT5 := hT.below hbw5
  clear cQ hbw4 hb5 hT4 hE4
  go_upto_region 9 with fail
  go_cut [64] (fun t wx => t = .bool false ∧ Below w.heap.size w wx)
  case first =>
    rcases hr with ⟨rfl, hx, ht⟩ | ⟨rfl, rfl, _⟩
    · have cT5 := text_back hx ht w5 hT5
      clear ht hT5
      go_wp2_with (go_at_call 24; refine cT5.mono ?_; rintro e w6 ⟨rfl, hb6⟩)
      go_meet
      exact ⟨rfl, hbw5.trans (hb6.mono hbw5.size)⟩
    · go_wp2_with fail
      go_meet
      exact ⟨rfl, hbw5⟩
  case rest =>
    obtain ⟨rfl, hbwc⟩ := hcut
    clear hr hbw5 hT5
    have hsz := hbwc.size
    go_upto_block 0 with fail
    go_cut [13] (fun v wx => Below w.heap.size w wx ∧ ∃ m, m ≤ 100 ∧ wx.ownsRow w.heap.size 24 1 v (ns.take m).length ((ns.take m).map encL))
    case first =>
      go_wp2_with fail
      go_loopg [13, 14] (min n 100) (fun g v i wr => ∃ (k : Nat), k + g = min n 100 ∧ i = .int .i64 k ∧ Below w.heap.size w wr ∧ Hid (wr.ownsRow w.heap.size 24 1 v (ns.take k).length ((ns.take k).map encL)))
      case atStart => exact ⟨0, by omega, rfl, hbwc, World.ownsRow_nil _ _ _ _⟩
      case round =>
        obtain ⟨k, hk, rfl, hbr, ho⟩ := hrel
        have hkk : (0 : Int) ≤ (k : Int) := Int.natCast_nonneg _
        by_cases h0 : k < n
        · have hkn : (k : Int) < (n : Int) := by omega
          by_cases h1 : k < 100
          · have hk100 : (k : Int) < 100 := by omega
            obtain ⟨y, hy⟩ : ∃ y, ns[k]? = some y := ⟨ns[k]'(by rw [HN.out]; exact h0), List.getElem?_eq_getElem _⟩
            obtain ⟨b, off, rfl, hcw⟩ := HP.out k y hy
            have hblt := World.block_lt_of_cell? w _ hcw
            have hcx : wr.cell? ⟨b, off + k, none⟩ = some (.int .u64 (y.val : Nat)) := (hbr.cell (p := ⟨b, off + k, none⟩) hblt).trans hcw
            have hlen : (ns.take k).length = k := by rw [List.length_take, HN.out]; omega
            have HS : Hid (ns.take (k + 1) = ns.take k ++ [y]) := by show _ = _; rw [List.take_add_one, hy]; rfl
            have ho0 := ho.out
            have hrsz := hbr.size
            rw [hlen] at ho0
            clear ho hy hcw
            go_wp2_with (at_builtin; refine wpList_append_own _ rfl _ _ 47 rfl w.heap.size 24 i0 (.int .u64 0) 1 8 Tryd.underlying47 hi hz0 hz1 hz2 rfl (by decide) _ _ _ rfl (ho0.alloc _) ⟨wr.heap.size, 0, none⟩ 1 1 [.int .u64 (y.val : Nat)] rfl rfl ?c1 ?c2 ?c3 ?c4 ?c5 ?_)
            case c2 => rfl
            case c3 => unfold maxLen; omega
            case c4 => omega
            case c5 => first | omega | (simp; omega)
            intro v' w7 hown' hgrow _
            have hb7 : Below w.heap.size w w7 := (hbr.alloc (by omega) _).grown hgrow (by simp; omega) (fun g hg => (ho0.lt g hg).1)
            have HO : Hid (w7.ownsRow w.heap.size 24 1 v' (ns.take (k + 1)).length ((ns.take (k + 1)).map encL)) := by
              rw [HS.out, List.length_append, List.length_singleton, List.map_append, hlen, List.map_take]
              exact hown'
            clear ho0 hown' hgrow HS hlen
            go_wp2_with fail
            go_roundg (gk - 1)
            case rel => exact ⟨k + 1, by omega, by go_num, hb7, HO⟩
            case measure => omega
          · have hk100 : ¬ (k : Int) < 100 := by omega
            go_wp2_with fail
            go_meet
            exact ⟨hbr, k, by omega, ho.out⟩
        · have hkn : ¬ (k : Int) < (n : Int) := by omega
          go_wp2_with fail
          go_meet
          exact ⟨hbr, k, by omega, ho.out⟩
    case rest =>
      obtain ⟨hbd, m, hm, ho⟩ := hcut
      obtain ⟨pN, cN, rfl, hrN⟩ := rowL_owned ho
      have cH := highest_any _ pN (ns.take m).length cN (ns.take m) hrN rfl (by rw [List.length_take]; omega)
      have hgood := hi_good (ns.take m)
      have hNl : (ns.take m).length ≤ 100 := by rw [List.length_take]; omega
      have hHl : (hiAll (ns.take m)).length ≤ 100 := by
        have := hi_len (ns.take m) (ns.take m).length
        rw [List.take_length] at this
        omega
      clear ho HP HN
      generalize ns.take m = N at *
      generalize hiAll N = H at *
      go_wp2_with fail
      refine cH.mono ?_
      rintro e w8 ⟨v8, rfl, hb8, ho8⟩
      obtain ⟨pH, cH8, rfl, hrH⟩ := rowL_owned ho8
      have hrN8 := hrN.later hb8
      have hbw8 := hbd.trans (hb8.mono hbd.size)
      clear ho8 hrN hb8 cH hbd
      have HG1 := Lib.hid hgood.1
      have HG2 := Lib.hid hgood.2
      clear hgood
      go_wp2_with fail
      go_loopg [16] N.length (fun g i wr => ∃ (k : Nat), k + g = N.length ∧ i = .int .i64 k ∧ Below w8.heap.size w8 wr)
      case atStart => exact ⟨0, by omega, rfl, Below.refl _ _⟩
      case round =>
        obtain ⟨wo, hwo⟩ : ∃ wo, wo = wr := ⟨_, rfl⟩
        obtain ⟨k, hk, rfl, hbr⟩ := hrel
        have hkk : (0 : Int) ≤ (k : Int) := Int.natCast_nonneg _
        by_cases h0 : k < N.length
        · have hkn : (k : Int) < (N.length : Int) := by omega
          obtain ⟨x1, hx1⟩ : ∃ x1, N[k]? = some x1 := ⟨N[k], List.getElem?_eq_getElem _⟩
          obtain ⟨b1, o1, rfl, hc1⟩ := hrN8 k x1 hx1
          have hany : Hid (H.any (fun y => belowB x1.val y.val) = true) := by
            obtain ⟨y, hy, hxy⟩ := HG1.out x1 (List.mem_of_getElem? hx1)
            exact List.any_eq_true.2 ⟨y, hy, hxy⟩
          have hl1 := World.block_lt_of_cell? w8 _ hc1
          clear hx1
          go_wp2_with fail
          go_loopg [17, 18] H.length (fun g so i wx => ∃ (j : Nat), j + g = H.length ∧ i = .int .i64 j ∧ so = .bool ((H.take j).any fun y => belowB x1.val y.val) ∧ Below w8.heap.size w8 wx)
          case atStart => exact ⟨0, by omega, rfl, rfl, hbr⟩
          case round =>
            obtain ⟨j, hj, rfl, rfl, hbx⟩ := hrel
            have hjj : (0 : Int) ≤ (j : Int) := Int.natCast_nonneg _
            by_cases h1 : j < H.length
            · have hjn : (j : Int) < (H.length : Int) := by omega
              obtain ⟨y1, hy1⟩ : ∃ y1, H[j]? = some y1 := ⟨H[j], List.getElem?_eq_getElem _⟩
              obtain ⟨b2, o2, rfl, hc2⟩ := hrH j y1 hy1
              have hl2 := World.block_lt_of_cell? w8 _ hc2
              have g1 : wr.cell? ⟨b1, o1 + k, none⟩ = some (.int .u64 (x1.val : Nat)) := (hbx.cell (p := ⟨b1, o1 + k, none⟩) hl1).trans hc1
              have g2 : wr.cell? ⟨b2, o2 + j, none⟩ = some (.int .u64 (y1.val : Nat)) := (hbx.cell (p := ⟨b2, o2 + j, none⟩) hl2).trans hc2
              have HJ : Hid ((H.take (j + 1)).any (fun y => belowB x1.val y.val) = ((H.take j).any (fun y => belowB x1.val y.val) || belowB x1.val y1.val)) := by
                show _ = _
                rw [List.take_add_one, hy1, List.any_append]; simp
              have cB := fun W => below_flip x1.val y1.val W x1.lt y1.lt
              clear hc1 hc2 hy1 hbr
              generalize (H.take j).any (fun y => belowB x1.val y.val) = so at *
              generalize belowB x1.val y1.val = bb at *
              cases so
              · go_wp2_with fail
                go_quiet ((go_at_call 16; refine Calls.quiet_of_same (cB _)))
                go_wp2_with fail
                go_roundg (gk - 1)
                case rel => exact ⟨j + 1, by omega, by go_num, by rw [HJ.out]; rfl, below_drewN' hbx _⟩
                case measure => omega
              · go_wp2_with fail
                go_quiet (fail)
                go_wp2_with fail
                go_roundg (gk - 1)
                case rel => exact ⟨j + 1, by omega, by go_num, by rw [HJ.out]; rfl, below_drewN' hbx _⟩
                case measure => omega
            · obtain rfl : j = H.length := by omega
              have hso := hany.out
              rw [List.take_length]
              generalize H.any (fun y => belowB x1.val y.val) = so at *
              subst hso
              clear hbr hc1
              go_wp2_with fail
              go_roundg (N.length - (k + 1))
              case rel => exact ⟨k + 1, by omega, by go_num, hbx⟩
              case measure => omega
        · obtain rfl : k = N.length := by omega
          have hbw9 := hbw8.trans (hbr.mono hbw8.size)
          clear hrN8 HG1
          go_wp2_with fail
          go_loopg [19] H.length (fun g i wx => ∃ (k : Nat), k + g = H.length ∧ i = .int .i64 k ∧ Below w8.heap.size w8 wx)
          case atStart => exact ⟨0, by omega, rfl, hbr⟩
          case round =>
            obtain ⟨wp1, hwp1⟩ : ∃ wo, wo = wr := ⟨_, rfl⟩
            obtain ⟨k, hk, rfl, hby⟩ := hrel
            have hkk : (0 : Int) ≤ (k : Int) := Int.natCast_nonneg _
            by_cases h0 : k < H.length
            · have hkn : (k : Int) < (H.length : Int) := by omega
              obtain ⟨x1, hx1⟩ : ∃ x1, H[k]? = some x1 := ⟨H[k], List.getElem?_eq_getElem _⟩
              obtain ⟨b1, o1, rfl, hc1⟩ := hrH k x1 hx1
              have hl1 := World.block_lt_of_cell? w8 _ hc1
              go_wp2_with fail
              go_loopg [20] H.length (fun g i wx => ∃ (j : Nat), j + g = H.length ∧ i = .int .i64 j ∧ Below w8.heap.size w8 wx)
              case atStart => exact ⟨0, by omega, rfl, hby⟩
              case round =>
                obtain ⟨j, hj, rfl, hbx⟩ := hrel
                have hjj : (0 : Int) ≤ (j : Int) := Int.natCast_nonneg _
                by_cases h1 : j < H.length
                · have hjn : (j : Int) < (H.length : Int) := by omega
                  obtain ⟨y1, hy1⟩ : ∃ y1, H[j]? = some y1 := ⟨H[j], List.getElem?_eq_getElem _⟩
                  obtain ⟨b2, o2, e2, hc2⟩ := hrH j y1 hy1
                  injection e2 with e2
                  injection e2 with e2 e3
                  subst e2 e3
                  have hl2 := World.block_lt_of_cell? w8 _ hc2
                  have g1 : wr.cell? ⟨b1, o1 + k, none⟩ = some (.int .u64 (x1.val : Nat)) := (hbx.cell (p := ⟨b1, o1 + k, none⟩) hl1).trans hc1
                  have g2 : wr.cell? ⟨b1, o1 + j, none⟩ = some (.int .u64 (y1.val : Nat)) := (hbx.cell (p := ⟨b1, o1 + j, none⟩) hl2).trans hc2
                  have cB := fun W => below_flip x1.val y1.val W x1.lt y1.lt
                  by_cases hkj : k = j
                  · subst hkj
                    have hne : ((k : Int) != (k : Int)) = false := by simp
                    clear hc1 hc2 hx1 hy1 hby cB
                    go_wp2_with fail
                    go_quiet (fail)
                    go_wp2_with fail
                    go_roundg (gk - 1)
                    case rel => exact ⟨k + 1, by omega, by go_num, below_drewN' hbx _⟩
                    case measure => omega
                  · have hne : ((k : Int) != (j : Int)) = true := by rw [bne, beq_false_of_ne (by omega)]; rfl
                    have hbb : belowB x1.val y1.val = false := by
                      have hpw := List.pairwise_iff_getElem.1 HG2.out
                      obtain ⟨_, rfl⟩ := List.getElem?_eq_some_iff.1 hx1
                      obtain ⟨_, rfl⟩ := List.getElem?_eq_some_iff.1 hy1
                      rcases Nat.lt_or_gt_of_ne hkj with h | h
                      · exact (hpw k j h0 h1 h).1
                      · exact (hpw j k h1 h0 h).2
                    rw [hbb] at cB
                    clear hc1 hc2 hx1 hy1 hby hbb
                    go_wp2_with fail
                    go_quiet ((go_at_call 16; refine Calls.quiet_of_same (cB _)))
                    go_wp2_with fail
                    go_roundg (gk - 1)
                    case rel => exact ⟨j + 1, by omega, by go_num, below_drewN' hbx _⟩
                    case measure => omega
                · obtain rfl : j = H.length := by omega
                  clear hby hc1
                  go_wp2_with fail
                  go_roundg (H.length - (k + 1))
                  case rel => exact ⟨k + 1, by omega, by go_num, hbx⟩
                  case measure => omega
            · obtain rfl : k = H.length := by omega
              go_wp2_with fail
              go_ret
              exact ⟨rfl, hbw8.trans (hby.mono hbw8.size)⟩
end Go.Proofs.YtglpkadpohbfmaaDoor
