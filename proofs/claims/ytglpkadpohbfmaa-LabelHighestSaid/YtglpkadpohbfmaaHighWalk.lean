/- The law LabelHighest by a walk over the contracts. -/
import Derived.Test.YtglpkadpohbfmaaHiTie
import Derived.Test.YtglpkadpohbfmaaLbHiW
import Derived.Test.YtglpkadpohbfmaaLbLists
import Derived.Test.YtglpkadpohbfmaaNumCopy
import Derived.Deep.DeepCutAuto
import Derived.Deep.CutBlock
namespace Go.Proofs.Ytglpkadpohbfmaa
open Go.RowKit

def zs (l : List Nat64) : List Int := l.map fun x => (x.val : Int)
theorem nums_zs (l : List Nat64) : nums .u64 (zs l) = l.map encL := by unfold nums zs; rw [List.map_map]; rfl
theorem rowL_num {W : World} {p : Option Addr} {l : List Nat64} (h : RowL W p l) : NumRow .u64 W p (zs l) := fun i hi => by
  have hi' : i < l.length := by simpa [zs] using hi
  obtain ⟨b, off, e, hc⟩ := h i l[i] (List.getElem?_eq_getElem _)
  refine ⟨b, off, e, World.block_lt_of_cell? W _ hc, ?_⟩
  rw [hc]
  simp [zs, encL]
theorem num_rowL {W : World} {p : Option Addr} {l : List Nat64} (h : NumRow .u64 W p (zs l)) : RowL W p l := fun i x hx => by
  obtain ⟨hi, rfl⟩ := List.getElem?_eq_some_iff.1 hx
  obtain ⟨b, off, e, _, hc⟩ := h i (by simpa [zs] using hi)
  refine ⟨b, off, e, ?_⟩
  rw [hc]
  simp [zs, encL]
theorem zs_len (l : List Nat64) : (zs l).length = l.length := by simp [zs]

theorem NumRow.kept {k : IntKind} {w W : World} {p : Option Addr} {xs : List Int} {row : Option Nat} (h : NumRow k w p xs) (hg : w.grownBy W row) (hne : ∀ b off, p = some ⟨b, off, none⟩ → row ≠ some b) : NumRow k W p xs := fun i hi => by
  obtain ⟨b, off, e, hlt, hc⟩ := h i hi
  exact ⟨b, off, e, Nat.lt_of_lt_of_le hlt hg.size, hg.cell hc fun h' => hne b off e h'.symm⟩
theorem grownBy_more {a b c d : World} {row r : Option Nat} (h : a.grownBy b row) (hc : b.grownBy c none) (hd : c.grownBy d r) (hr : r = row ∨ ∀ k, r = some k → a.heap.size ≤ k) : a.grownBy d row :=
  ⟨(hd.os.trans hc.os).trans h.os, (hd.tape.trans hc.tape).trans h.tape, (hd.output.trans hc.output).trans h.output, Nat.le_trans h.size (Nat.le_trans hc.size hd.size), fun k hk hne => by
    rw [hd.block k (Nat.lt_of_lt_of_le hk (Nat.le_trans h.size hc.size)) (fun e => by
      rcases hr with rfl | hr
      · exact hne e
      · have := hr k e.symm; omega), hc.block k (Nat.lt_of_lt_of_le hk h.size) (fun e => by cases e), h.block k hk hne]⟩
theorem grownBy_refl (w : World) (row : Option Nat) : w.grownBy w row := ⟨rfl, rfl, rfl, Nat.le_refl _, fun _ _ _ => rfl⟩

set_option maxRecDepth 100000 in
set_option maxHeartbeats 4000000 in
theorem labelHighest_any (p : Option Addr) (n c : Nat) (ns : List Nat64) (w : World) (hp : RowL w p ns) (hn : ns.length = n) :
    Calls Try.prog 3 #[.slice p n c] w fun e w' => e = .returned (.bool true) ∧ Below w.heap.size w w' := by
  have HN := Lib.hid hn
  have HP := Lib.hid hp
  clear hn hp
  obtain ⟨i0, hi, hz0, hz1, hz2⟩ := info_parts hi_labInfo
  go_enter Try.func3, Try.ntmps3
  go_upto_block 0 with fail
  go_cut [3] (fun v wx => Below w.heap.size w wx ∧ ∃ m, m ≤ 200 ∧ m ≤ ns.length ∧ wx.ownsRow w.heap.size 25 1 v m ((ns.take m).map encL))
  case first =>
    go_wp2_with fail
    go_loopg [3, 4] (min n 200) (fun g v i wr => ∃ (k : Nat), k + g = min n 200 ∧ i = .int .i64 k ∧ Below w.heap.size w wr ∧ Hid (wr.ownsRow w.heap.size 25 1 v k ((ns.take k).map encL)))
    case atStart => exact ⟨0, by omega, rfl, Below.refl _ _, World.ownsRow_nil _ _ _ _⟩
    case round =>
      obtain ⟨k, hk, rfl, hbr, ho⟩ := hrel
      have hkk : (0 : Int) ≤ (k : Int) := Int.natCast_nonneg _
      by_cases h0 : k < n
      · have hkn : (k : Int) < (n : Int) := by omega
        by_cases h1 : k < 200
        · have hk200 : (k : Int) < 200 := by omega
          obtain ⟨y, hy⟩ : ∃ y, ns[k]? = some y := ⟨ns[k]'(by rw [HN.out]; exact h0), List.getElem?_eq_getElem _⟩
          obtain ⟨b, off, rfl, hcw⟩ := HP.out k y hy
          have hblt := World.block_lt_of_cell? w _ hcw
          have hcx : wr.cell? ⟨b, off + k, none⟩ = some (.int .u64 (y.val : Nat)) := (hbr.cell (p := ⟨b, off + k, none⟩) hblt).trans hcw
          have HS : Hid (ns.take (k + 1) = ns.take k ++ [y]) := by show _ = _; rw [List.take_add_one, hy]; rfl
          have ho0 := ho.out
          have hrsz := hbr.size
          clear ho hy hcw
          go_wp2_with (at_builtin; refine wpList_append_own _ rfl _ _ 23 rfl w.heap.size 25 i0 (.int .u64 0) 1 8 Try.underlying23 hi hz0 hz1 hz2 rfl (by decide) _ _ _ rfl (ho0.alloc _) ⟨wr.heap.size, 0, none⟩ 1 1 [.int .u64 (y.val : Nat)] rfl rfl ?c1 ?c2 ?c3 ?c4 ?c5 ?_)
          case c2 => rfl
          case c3 => unfold maxLen; omega
          case c4 => omega
          case c5 => first | omega | (simp; omega)
          intro v' w7 hown' hgrow _
          have hb7 : Below w.heap.size w w7 := (hbr.alloc (by omega) _).grown hgrow (by simp; omega) (fun g hg => (ho0.lt g hg).1)
          have HO : Hid (w7.ownsRow w.heap.size 25 1 v' (k + 1) ((ns.take (k + 1)).map encL)) := by
            rw [HS.out, List.map_append]
            first | exact hown' | (rw [List.map_take]; exact hown')
          clear ho0 hown' hgrow HS
          go_wp2_with fail
          go_roundg (gk - 1)
          case rel => exact ⟨k + 1, by omega, by go_num, hb7, HO⟩
          case measure => omega
        · have hk200 : ¬ (k : Int) < 200 := by omega
          go_wp2_with fail
          go_meet
          exact ⟨hbr, k, by omega, by rw [HN.out]; omega, ho.out⟩
      · have hkn : ¬ (k : Int) < (n : Int) := by omega
        go_wp2_with fail
        go_meet
        exact ⟨hbr, k, by omega, by rw [HN.out]; omega, ho.out⟩
  case rest =>
    obtain ⟨hbd, m, hm, hmn, ho⟩ := hcut
    have hNl : (ns.take m).length = m := by rw [List.length_take]; omega
    clear HP HN
    generalize ns.take m = N at *
    obtain ⟨pI, cI, rfl⟩ := own_slice ho
    have hoz : wc.ownsRow w.heap.size 25 1 (.slice pI m cI) m (nums .u64 (zs N)) := by rw [nums_zs]; exact ho
    have hzl : (zs N).length = m := by rw [zs_len]; exact hNl
    have hrI := nums_row' hoz
    have hnil : pI = none → m = 0 ∧ cI = 0 := fun hn => by
      rcases ho.2 with ⟨h1, h2⟩ | ⟨g, cap, cur, h1, _⟩
      · injection h1 with _ h3 h4; exact ⟨h2, h4⟩
      · rw [hn] at h1; injection h1 with h3; cases h3
    have hsz := hbd.size
    have hlit := World.ownsRow_lit (base := wc.heap.size) (e := 25) (size := 1) wc #[] 0 (Nat.le_refl _) (Nat.zero_le _) rfl
    have hb1 : Below wc.heap.size wc (wc.alloc (.cells #[] 25)) := (Below.refl _ _).alloc (Nat.le_refl _) _
    have hpl := hrI.later hb1
    have HB1 := Lib.hid hb1
    have hb1s := hb1.size
    have HO := Lib.hid ho
    clear hb1 ho hoz hrI
    go_wp2_with (at_builtin; refine copy_nums rfl _ _ 23 rfl wc.heap.size 25 i0 _ Try.underlying23 hi hz0 hz1 hz2 rfl _ rfl hlit .u64 pI m cI (zs N) rfl hzl hpl hnil (by omega) HB1.out.size ?_)
    intro vO w2 hoO hb2
    have hb02 := HB1.out.trans hb2
    have hoI2 := own_later HO.out hb02
    have hbw2 := hbd.trans (hb02.mono hsz)
    have hsz2 := hbw2.size
    have hIlt := HO.out.lt
    clear hlit hpl HB1 hb2 HO hb1s
    go_wp2_with (at_builtin; refine wpList_append_own _ rfl _ _ 23 rfl w.heap.size 25 i0 (.int .u64 0) 1 8 Try.underlying23 hi hz0 hz1 hz2 rfl (by decide) _ _ _ rfl (hoI2.alloc _) ⟨w2.heap.size, 0, none⟩ 1 1 [.int .u64 99] rfl rfl ?d1 ?d2 ?d3 ?d4 ?d5 ?_)
    case d1 =>
      intro j u hj
      match j, hj with
      | 0, hj => simp at hj; subst hj; simp [Addr.add]
    case d2 => intro u hu; simp at hu; subst hu; rfl
    case d3 => unfold maxLen; omega
    case d4 => omega
    case d5 => simp; omega
    intro vF w4 hoF hgrow _
    have hb4 : Below w.heap.size w w4 := (hbw2.alloc (by omega) _).grown hgrow (by simp; omega) (fun g hg => (hIlt g hg).1)
    have hneO : vO.ownBlock = none ∨ vO.ownBlock ≠ (Value.slice pI m cI).ownBlock := by
      cases hv : vO.ownBlock with
      | none => exact .inl rfl
      | some k =>
        refine .inr fun h => ?_
        have h1 := (hoO.lt k hv).1
        have h2 := (hIlt k h.symm).2
        omega
    have hoO4 := (hoO.alloc (.cells #[.int .u64 99] 25)).kept hgrow hneO
    obtain ⟨gF, capF, rfl, hcapF, hgF, hgF2⟩ := own_some hoF
    obtain ⟨pO, cO, rfl⟩ := own_slice hoO4
    have hrF : NumRow .u64 w4 (some ⟨gF, 0, none⟩) (zs N ++ [99]) := nums_row (rest := []) (by rw [List.append_nil]; unfold nums; rw [List.map_append]; have := nums_zs N; unfold nums at this; rw [this]; exact hoF)
    have hrF0 : NumRow .u64 w4 (some ⟨gF, 0, none⟩) (zs N) := fun i hi => by
      obtain ⟨b, off, e, h1, h2⟩ := hrF i (by rw [List.length_append]; omega)
      rw [List.getElem_append_left hi] at h2
      exact ⟨b, off, e, h1, h2⟩
    have hF99 : w4.cell? ⟨gF, m, none⟩ = some (.int .u64 99) := by
      obtain ⟨b, off, e, h1, h2⟩ := hrF m (by rw [List.length_append, hzl]; simp)
      injection e with e
      injection e with e e'
      subst e e'
      rw [Nat.zero_add] at h2
      rw [h2]
      simp [hzl]
    have hrO := nums_row' hoO4
    have hOlt : ∀ b off, pO = some ⟨b, off, none⟩ → b < w4.heap.size := fun b off e => (hoO4.lt b (by rw [e]; rfl)).2
    have hHl : (hiAll N).length ≤ m := by
      have := hi_len N m
      rwa [List.take_of_length_le (by omega)] at this
    have cW := refHi_any w4 pO m cO N (num_rowL hrO) hNl (by omega)
    rw [show refTo N m = hiAll N by rw [← hNl]; exact ref_tie N] at cW
    have cX := fun W (hb : Below w4.heap.size w4 W) => highest_any W (some ⟨gF, 0, none⟩) m capF N (num_rowL (hrF0.later hb)) hNl (by omega)
    have cY := fun W (hb : Below w4.heap.size w4 W) => highest_any W pO m cO N (num_rowL (hrO.later hb)) hNl (by omega)
    have HF := Lib.hid hrF0
    have HO := Lib.hid hrO
    have hmi : (0 : Int) ≤ (m : Int) := Int.natCast_nonneg _
    have hmc : (m : Int) ≤ (capF : Int) := by omega
    clear hoF hoO hoO4 hgrow hrF hrF0 hrO hoI2 hIlt hb02
    generalize hiAll N = H at *
    go_wp2_with fail
    refine cW.mono ?_
    rintro e w5 ⟨vW, rfl, hb5, hoW⟩
    clear cW
    go_wp2_with fail
    refine (cX w5 hb5).mono ?_
    rintro e w6 ⟨vX, rfl, hb6, hoX⟩
    have hb46 := hb5.trans (hb6.mono hb5.size)
    clear cX
    go_wp2_with fail
    refine (cY w6 hb46).mono ?_
    rintro e w7 ⟨vY, rfl, hb7, hoY⟩
    have hb47 := hb46.trans (hb7.mono hb46.size)
    clear cY
    obtain ⟨pW, cW, rfl⟩ := own_slice hoW
    obtain ⟨pX, cX, rfl⟩ := own_slice hoX
    obtain ⟨pY, cY, rfl⟩ := own_slice hoY
    have rW : NumRow .u64 w7 pW (zs H) := (nums_row' (k := .u64) (xs := zs H) (by rw [nums_zs]; exact hoW)).later (hb6.trans (hb7.mono hb6.size))
    have rX : NumRow .u64 w7 pX (zs H) := (nums_row' (k := .u64) (xs := zs H) (by rw [nums_zs]; exact hoX)).later hb7
    have rY : NumRow .u64 w7 pY (zs H) := nums_row' (k := .u64) (xs := zs H) (by rw [nums_zs]; exact hoY)
    have rF := HF.out.later hb47
    have rO := HO.out.later hb47
    have f99 := (hb47.cell (p := ⟨gF, m, none⟩) hgF2).trans hF99
    have hoX7 := own_later hoX hb7
    have hWlt : ∀ b off, pW = some ⟨b, off, none⟩ → b < w5.heap.size := fun b off e => (hoW.lt b (by rw [e]; rfl)).2
    have hXlt : ∀ b, (Value.slice pX H.length cX).ownBlock = some b → w5.heap.size ≤ b ∧ b < w6.heap.size := fun b e => hoX.lt b e
    have hYlt : ∀ b off, pY = some ⟨b, off, none⟩ → w6.heap.size ≤ b := fun b off e => (hoY.lt b (by rw [e]; rfl)).1
    have hs45 := hb5.size
    have hs56 := hb6.size
    have hs67 := hb7.size
    have hzH := zs_len H
    have c1 := fun W (hb : Below w7.heap.size w7 W) => labels_any W pX pW H.length H.length cX cW (zs H) (rX.later hb) (rW.later hb) hzH hzH (by omega)
    have c2 := fun W (hb : Below w7.heap.size w7 W) => labels_any W pY pW H.length H.length cY cW (zs H) (rY.later hb) (rW.later hb) hzH hzH (by omega)
    have c3 := fun W (hb : Below w7.heap.size w7 W) => labels_any W (some ⟨gF, 0, none⟩) pO m m capF cO (zs N) (rF.later hb) (rO.later hb) hzl hzl (by omega)
    have hb07 := hb4.trans (hb47.mono hb4.size)
    clear hoW hoX hoY hb5 hb6 hb7 hb46 hb47 HF HO hF99
    go_wp2_with fail
    refine (c1 w7 (Below.refl _ _)).mono ?_
    rintro e w8 ⟨rfl, hb8⟩
    clear c1
    go_wp2_with fail
    refine (c2 w8 hb8).mono ?_
    rintro e w9 ⟨rfl, hb9⟩
    have hb79 := hb8.trans (hb9.mono hb8.size)
    clear c2 hb8 hb9
    go_wp2_with fail
    refine (c3 w9 hb79).mono ?_
    rintro e w10 ⟨rfl, hb10⟩
    have hb710 := hb79.trans (hb10.mono hb79.size)
    have g99 := (hb710.cell (p := ⟨gF, m, none⟩) (by show gF < _; omega)).trans f99
    have hmc2 : (m : Int) < ((m + 1 : Nat) : Int) := by omega
    clear c3 hb79 hb10 f99
    have rW10 := rW.later hb710
    have rY10 := rY.later hb710
    have rF10 := rF.later hb710
    have rO10 := rO.later hb710
    have hoX10 := own_later hoX7 hb710
    have hb010 := hb07.trans (hb710.mono hb07.size)
    have hs710 := hb710.size
    clear rW rX rY rF rO hoX7 hb710 hb07
    generalize hvX : (Value.slice pX H.length cX).ownBlock = row at *
    go_wp2_with fail
    go_loopg [11] H.length (fun g i wr => ∃ (k : Nat), k + g = H.length ∧ i = .int .i64 k ∧ w10.grownBy wr row ∧ ∃ xs, wr.ownsRow w5.heap.size 25 1 (.slice pX H.length cX) H.length xs)
    case atStart => exact ⟨0, by omega, rfl, grownBy_refl _ _, _, hoX10⟩
    case round =>
      obtain ⟨k, hk, rfl, hgr, xs, ho⟩ := hrel
      have hkk : (0 : Int) ≤ (k : Int) := Int.natCast_nonneg _
      by_cases h0 : k < H.length
      · have hkn : (k : Int) < (H.length : Int) := by omega
        obtain ⟨gx, capx, e1⟩ : ∃ gx capx, Value.slice pX H.length cX = .slice (some ⟨gx, 0, none⟩) H.length capx := by
          rcases ho.2 with ⟨_, h⟩ | ⟨g, cap, cur, h, _⟩
          · omega
          · exact ⟨g, cap, h⟩
        injection e1 with e1 _ e2
        subst e1 e2
        have hrow : row = some gx := hvX.symm
        have hxl : xs.length = H.length := by have := ho.1; omega
        have hcell : wr.cell? ⟨gx, k, none⟩ = some (xs[k]'(by omega)) := by rw [ho.cellAt k (by omega), List.getElem?_eq_getElem]
        have hfr := ho.frozenAt k
        have hst := ho.stored k (.int .u64 5)
        have hg2 : w10.grownBy (wr.setCell ⟨gx, k, none⟩ (.int .u64 5)) row := by
          rw [hrow] at hgr ⊢
          exact hgr.trans hst.2
        have HST := Lib.hid hst.1
        generalize xs[k]'(by omega) = u at hcell
        clear ho hst hgr hvX
        go_wp2_with fail
        go_roundg (gk - 1)
        case rel => exact ⟨k + 1, by omega, by go_num, hg2, _, HST.out⟩
        case measure => omega
      · obtain rfl : k = H.length := by omega
        have hsg := hgr.size
        go_wp2_with fail
        go_loopg [9, 12] 70 (fun g v i wx => ∃ (k : Nat), k + g = 70 ∧ i = .int .i64 k ∧ w10.grownBy wx row ∧ (v.ownBlock = row ∨ ∀ j, v.ownBlock = some j → w10.heap.size ≤ j) ∧ ∃ xs, wx.ownsRow w5.heap.size 25 1 v (H.length + k) xs)
        case atStart => exact ⟨0, by omega, rfl, hgr, .inl hvX, xs, ho⟩
        case round =>
          obtain ⟨k, hk, rfl, hgr1, hown1, ys, ho1⟩ := hrel
          have hkk : (0 : Int) ≤ (k : Int) := Int.natCast_nonneg _
          by_cases h1 : k < 70
          · have hkn : (k : Int) < 70 := by omega
            have hsr := hgr1.size
            go_wp2_with (at_builtin; refine wpList_append_blk _ rfl _ _ 23 rfl w5.heap.size 25 i0 (.int .u64 0) 1 8 Try.underlying23 hi hz0 hz1 hz2 rfl (by decide) _ _ _ rfl (ho1.alloc _) ⟨wr.heap.size, 0, none⟩ 1 1 [.int .u64 6] rfl rfl ?e1 ?e2 ?e3 ?e4 ?e5 ?_)
            case e1 =>
              intro j u hj
              match j, hj with
              | 0, hj => simp at hj; subst hj; simp [Addr.add]
            case e2 => intro u hu; simp at hu; subst hu; rfl
            case e3 => unfold maxLen; omega
            case e4 => omega
            case e5 => simp; omega
            intro v' w12 hown' hgrow hblk
            have hg3 := grownBy_more hgr1 (World.grownBy_alloc wr _ none) hgrow hown1
            have hown2 : v'.ownBlock = row ∨ ∀ j, v'.ownBlock = some j → w10.heap.size ≤ j := by
              rcases hblk with h | h
              · rw [h]; exact hown1
              · refine .inr fun j hj => ?_
                rw [h] at hj
                injection hj with hj
                rw [← hj]
                omega
            have HO := Lib.hid hown'
            clear ho1 hown' hgrow hgr1 hown1 hblk
            go_wp2_with fail
            go_roundg (gk - 1)
            case rel => exact ⟨k + 1, by omega, by go_num, hg3, hown2, _, HO.out⟩
            case measure => omega
          · obtain rfl : k = 70 := by omega
            obtain ⟨pZ, cZ, rfl⟩ := own_slice ho1
            have hne2 : ∀ b off, pY = some ⟨b, off, none⟩ → row ≠ some b := fun b off e h => by
              have q1 := hYlt b off e
              have q2 := (hXlt b h).2
              omega
            have hne1 : ∀ b off, pW = some ⟨b, off, none⟩ → row ≠ some b := fun b off e h => by
              have q1 := hWlt b off e
              have q2 := (hXlt b h).1
              omega
            have hne3 : ∀ b, b < w4.heap.size → row ≠ some b := fun b q1 h => by
              have q2 := (hXlt b h).1
              omega
            have rY := rY10.kept hgr1 hne2
            have rW := rW10.kept hgr1 hne1
            have rF := rF10.kept hgr1 (fun b off e => by injection e with e; injection e with e; exact hne3 b (by rw [← e]; exact hgF2))
            have rO := rO10.kept hgr1 (fun b off e => hne3 b (hOlt b off e))
            have hbw : Below w.heap.size w wr := hb010.grown hgr1 hb010.size (fun j hj => by
              have q1 := (hXlt j hj).1
              have q2 := hb4.size
              omega)
            have c4 := labels_any wr pY pW H.length H.length cY cW (zs H) rY rW hzH hzH (by omega)
            have c5 := fun W (hb : Below wr.heap.size wr W) => labels_any W pO (some ⟨gF, 0, none⟩) m m cO capF (zs N) (rO.later hb) (rF.later hb) hzl hzl (by omega)
            clear rW10 rY10 rF10 rO10 ho1 hgr1
            go_wp2_with fail
            refine c4.mono ?_
            rintro e w14 ⟨rfl, hb14⟩
            clear c4
            go_wp2_with fail
            refine (c5 w14 hb14).mono ?_
            rintro e w15 ⟨rfl, hb15⟩
            have hbz := hbw.trans ((hb14.trans (hb15.mono hb14.size)).mono hbw.size)
            clear c5
            go_wp2_with fail
            go_ret
            exact ⟨rfl, hbz⟩
end Go.Proofs.Ytglpkadpohbfmaa
