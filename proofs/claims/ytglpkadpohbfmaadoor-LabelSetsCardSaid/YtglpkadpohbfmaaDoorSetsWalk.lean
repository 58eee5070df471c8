/- The law LabelSets by a walk over the contracts. -/
import Derived.Test.YtglpkadpohbfmaaDoorTwoWalk
import Derived.Test.YtglpkadpohbfmaaDoorLbMyOf
import Derived.Test.YtglpkadpohbfmaaDoorNumCopy
namespace Go.Proofs.YtglpkadpohbfmaaDoor
open Go.RowKit

theorem own_some {W : World} {B : Nat} {e : TypeId} {v : Value} {k : Nat} {cs : List Value} (h : W.ownsRow B e 1 v (k + 1) cs) : ∃ g cap, v = .slice (some ⟨g, 0, none⟩) (k + 1) cap ∧ k + 1 ≤ cap ∧ B ≤ g ∧ g < W.heap.size := by
  rcases h.2 with ⟨_, h0⟩ | ⟨g, cap, cur, hv, hB, hg, hc, _⟩
  · omega
  · exact ⟨g, cap, hv, hc, hB, (Array.getElem?_eq_some_iff.1 hg).1⟩
theorem ofW_lt (xs : List Int) : ofW xs < 18446744073709551616 := by
  unfold ofW; split
  · exact wordOf_lt _
  · decide

set_option maxRecDepth 100000 in
set_option maxHeartbeats 8000000 in
theorem labelSets_any (w : World) (p : Option Addr) (n c : Nat) (xs : List Int) (hT : BTab w) (hp : NumRow .i64 w p xs) (hn : xs.length = n) (hl : n ≤ 17592186044415) (hnil : p = none → n = 0 ∧ c = 0) :
    Calls Tryd.prog 3 #[.slice p n c] w fun e w' => e = .returned (.bool true) ∧ Below w.heap.size w w' := by
  obtain ⟨i0, hi, hz0, hz1, hz2⟩ := info_parts intInfo
  have hlit := World.ownsRow_lit (base := w.heap.size) (e := 3) (size := 1) w #[] 0 (Nat.le_refl _) (Nat.zero_le _) rfl
  have hb0 : Below w.heap.size w (w.alloc (.cells #[] 3)) := (Below.refl _ _).alloc (Nat.le_refl _) _
  have hpl := hp.later hb0
  have HB0 := Lib.hid hb0
  clear hb0
  go_enter Tryd.func3, Tryd.ntmps3
  go_wp2_with (at_builtin; refine copy_nums rfl _ _ 22 rfl w.heap.size 3 i0 _ Tryd.underlying22 hi hz0 hz1 hz2 rfl _ rfl hlit .i64 p n c xs rfl hn hpl hnil (by omega) HB0.out.size ?_)
  intro v1 w1 ho1 hb1
  have hbw1 := HB0.out.trans hb1
  have hB1 := hbw1.size
  obtain ⟨p1, c1, rfl⟩ := own_slice ho1
  clear hlit hpl HB0 hb1 hnil
  go_wp2_with (at_builtin; refine wpList_append_own _ rfl _ _ 22 rfl w.heap.size 3 i0 (.int .i64 0) 1 8 Tryd.underlying22 hi hz0 hz1 hz2 rfl (by decide) _ _ _ rfl (ho1.alloc _) ⟨w1.heap.size, 0, none⟩ 1 1 [.int .i64 77] rfl rfl ?c1 ?c2 ?c3 ?c4 ?c5 ?_)
  case c1 =>
    intro j u hj
    match j, hj with
    | 0, hj => simp at hj; subst hj; simp [Addr.add]
  case c2 => intro u hu; simp at hu; subst hu; rfl
  case c3 => unfold maxLen; omega
  case c4 => omega
  case c5 => simp; omega
  intro v2 w2 ho2 hgr2 _
  have hb2 : Below w.heap.size w w2 := (hbw1.alloc hB1 _).grown hgr2 (by simp; omega) (fun g hg => (ho1.lt g hg).1)
  obtain ⟨g, cap, rfl, hcap, hg1, hg2⟩ := own_some ho2
  have hrow := nums_row ho2
  have h77 : w2.cell? ⟨g, n, none⟩ = some (.int .i64 77) := by
    have := ho2.cellAt n (by omega)
    rw [this, List.getElem?_append_right (by rw [nums_len]; omega), nums_len, hn, Nat.sub_self]; rfl
  have hcapi : ((n : Int) + 1) ≤ (cap : Int) := by omega
  clear ho1 ho2 hgr2 hbw1 hB1
  have HN := Lib.hid hn
  clear hn
  go_wp2_with fail
  refine (refOf_any w2 p n c xs (hp.later hb2) HN.out (by omega)).mono ?_
  rintro e w3 ⟨rfl, hb3⟩
  have cO := of_any w3 (some ⟨g, 0, none⟩) n cap xs (hrow.later hb3) HN.out (by omega)
  have hbw3 := hb2.trans (hb3.mono hb2.size)
  have hg3 := Nat.lt_of_lt_of_le hg2 hb3.size
  have h773 := (hb3.cell (p := ⟨g, n, none⟩) hg2).trans h77
  have hrow3 := hrow.later hb3
  have hal := ofW_lt xs
  generalize ofW xs = a at *
  generalize ofE xs = f at *
  clear h77 hrow hb3 hb2
  go_wp2_with fail
  refine cO.mono ?_
  rintro e w' ⟨rfl, rfl⟩
  clear cO
  have cN := numbers_any w3 (some ⟨g, 0, none⟩) p n n cap c xs hrow3 (hp.later hbw3) HN.out HN.out (by have := HN.out; omega)
  go_wp2_with fail
  refine cN.mono ?_
  rintro e w4 ⟨rfl, hb4⟩
  have hbw4 := hbw3.trans (hb4.mono hbw3.size)
  have h774 := (hb4.cell (p := ⟨g, n, none⟩) hg3).trans h773
  have hT4 := hT.below hbw4
  clear cN h773 hrow3 hg3 hbw3 hb4
  have cL := list_any a w4 hal hT4
  go_wp2_with fail
  refine cL.mono ?_
  rintro e w5 ⟨px, cx, rfl, hb5, hx5⟩
  clear cL
  have cL := list_any a w5 hal (hT4.below hb5)
  go_wp2_with fail
  refine cL.mono ?_
  rintro e w6 ⟨py, cy, rfl, hb6, hy6⟩
  clear cL
  have cR := refList_any a w6 hal
  have hx6 := own_later hx5 hb6
  go_wp2_with fail
  refine cR.mono ?_
  rintro e w7 ⟨pr, cr, rfl, hb7, hr7⟩
  clear cR
  have hx7 := own_later hx6 hb7
  have hy7 := own_later hy6 hb7
  have cc := cnt_le a
  have cN := numbers_any w7 px pr _ _ cx cr _ (ints_row hx7) (ints_row hr7) (by rw [List.length_map]) (by rw [List.length_map]) (by rw [List.length_map]; exact Nat.le_trans (listTo_len a 64) (by decide))
  go_wp2_with fail
  refine cN.mono ?_
  rintro e w8 ⟨rfl, hb8⟩
  clear cN
  have hx8 := Lib.hid (own_later hx7 hb8)
  have hy8 := Lib.hid (own_later hy7 hb8)
  have hb48 : Below w4.heap.size w4 w8 := hb5.trans ((hb6.trans ((hb7.trans (hb8.mono hb7.size)).mono hb6.size)).mono hb5.size)
  have hB5 : w4.heap.size ≤ w5.heap.size := hb5.size
  have hB48 : w4.heap.size ≤ w8.heap.size := hb48.size
  have hbw8 := hbw4.trans (hb48.mono hbw4.size)
  have cC := fun W => count_any a W hal
  have hcnt : cnt a = (listTo a 64).length := rfl
  rw [hcnt] at cC cc
  have hxlt : Hid (∀ k, (Value.slice px (listTo a 64).length cx).ownBlock = some k → k < w5.heap.size) := fun k hk => (hx5.lt k hk).2
  have cRL := fun W => refList_any a W hal
  generalize listTo a 64 = l at *
  have hT8 := hT.below hbw8
  clear hx5 hx6 hx7 hy6 hy7 hr7 hb5 hb6 hb7 hb8 hb48 h774 hT4 hcnt hp
  generalize w5.heap.size = B5 at *
  have hB4 : w.heap.size ≤ w4.heap.size := hbw4.size
  generalize w4.heap.size = B4 at *
  go_wp2_with (go_at_call 15; refine (cC _).mono ?_; rintro e w' ⟨rfl, rfl⟩)
  have HYB : Hid (∀ k, (Value.slice py l.length cy).ownBlock = some k → B5 ≤ k ∧ k < w8.heap.size) := fun k hk => hy8.out.lt k hk
  go_loopg [11] l.length (fun gh i wx => ∃ k : Nat, k ≤ l.length ∧ gh = l.length - k ∧ i = .int .i64 k ∧ Below w8.heap.size w8 w8 ∧ Below w.heap.size w wx ∧ w8.heap.size ≤ wx.heap.size ∧ BTab wx ∧ Hid (∃ cs : List Value, wx.ownsRow B4 3 1 (.slice px l.length cx) l.length cs) ∧
        Hid (wx.ownsRow B5 3 1 (.slice py l.length cy) l.length (ints l)))
  case atStart => exact ⟨0, by omega, rfl, rfl, Below.refl _ _, hbw8, Nat.le_refl _, hT8, ⟨_, hx8.out⟩, hy8⟩
  case round =>
    clear hx8 hy8 hbw8 hT8
    obtain ⟨k, hk, rfl, rfl, _, hbx, hsz, hTx, hox, hoy⟩ := hrel
    by_cases hlt : k < l.length
    · obtain ⟨cs, ho⟩ := hox.out
      obtain ⟨gx, rfl⟩ : ∃ gx, px = some ⟨gx, 0, none⟩ := by
        rcases ho.2 with ⟨hv, h0'⟩ | ⟨g, cap, cur, hv, _⟩
        · omega
        · injection hv with e1 _ _
          exact ⟨g, e1⟩
      have hgx := hxlt.out gx rfl
      have hgx4 := (ho.lt gx rfl).1
      have hck : k < cs.length := by have := ho.1; omega
      have hcell : wr.cell? ⟨gx, k, none⟩ = some cs[k] := by rw [ho.cellAt k (by omega), List.getElem?_eq_getElem hck]
      have hfz := ho.frozenAt k
      obtain ⟨hst, hgr⟩ := ho.stored k (.int .i64 (-1))
      have hne : (Value.slice py l.length cy).ownBlock = none ∨ (Value.slice py l.length cy).ownBlock ≠ some gx := by
        cases e : (Value.slice py l.length cy).ownBlock with
        | none => exact .inl rfl
        | some q => exact .inr (fun e' => by injection e' with e'; have := (HYB.out q e).1; omega)
      have HY2 := Lib.hid (World.ownsRow.kept hoy.out hgr hne)
      have HS : Hid (∃ cs : List Value, (wr.setCell ⟨gx, k, none⟩ (.int .i64 (-1))).ownsRow B4 3 1 (.slice (some ⟨gx, 0, none⟩) l.length cx) l.length cs) := ⟨_, hst⟩
      have hbs : Below w.heap.size w (wr.setCell ⟨gx, k, none⟩ (.int .i64 (-1))) := hbx.setCell (p := ⟨gx, k, none⟩) (Nat.le_trans hB4 hgx4) _
      have hTs := hT.below hbs
      generalize cs[k] = u at *
      have hkl : (k : Int) < (l.length : Int) := by omega
      clear ho hst hgr hoy hox hne
      go_wp2_with fail
      go_roundg (l.length - (k + 1))
      case rel => exact ⟨k + 1, by omega, rfl, by go_num, Below.refl _ _, hbs, by simpa using hsz, hTs, HS, HY2⟩
      case measure => omega
    · obtain rfl : k = l.length := by omega
      obtain ⟨cs0, ho0⟩ := hox.out
      have HX0 := Lib.hid ho0
      clear hox ho0
      go_wp2_with fail
      go_loopg [9, 12] 70 (fun gh v i wx => ∃ j : Nat, j ≤ 70 ∧ gh = 70 - j ∧ i = .int .i64 j ∧ Below w.heap.size w wx ∧ w8.heap.size ≤ wx.heap.size ∧ BTab wx ∧ Hid (∃ cs : List Value, wx.ownsRow B4 3 1 v (l.length + j) cs) ∧ Hid (∀ q, v.ownBlock = some q → (Value.slice py l.length cy).ownBlock ≠ some q) ∧
        Hid (wx.ownsRow B5 3 1 (.slice py l.length cy) l.length (ints l)))
      case atStart => exact ⟨0, by omega, rfl, rfl, hbx, hsz, hTx, ⟨_, HX0.out⟩, fun q hq e => by have h1 := hxlt.out q hq; have h2 := (HYB.out q e).1; omega, hoy⟩
      case round =>
        clear hbx hsz hTx HX0 hoy
        obtain ⟨j, hj, rfl, rfl, hbx, hsz, hTx, hox, hne, hoy⟩ := hrel
        by_cases hlt2 : j < 70
        · obtain ⟨cs, ho⟩ := hox.out
          have hBx : B4 ≤ wr.heap.size := Nat.le_trans hB48 hsz
          have hll : l.length ≤ 64 := cc
          have hbsz := hbx.size
          clear hox
          go_wp2_with (at_builtin; refine wpList_append_blk _ rfl _ _ 22 rfl B4 3 i0 (.int .i64 0) 1 8 Tryd.underlying22 hi hz0 hz1 hz2 rfl (by decide) _ _ _ rfl (ho.alloc _) ⟨wr.heap.size, 0, none⟩ 1 1 [.int .i64 (-2)] rfl rfl ?d1 ?d2 ?d3 ?d4 ?d5 ?_)
          case d1 =>
            intro j u hj
            match j, hj with
            | 0, hj => simp at hj; subst hj; simp [Addr.add]
          case d2 => intro u hu; simp at hu; subst hu; rfl
          case d3 => unfold maxLen; omega
          case d4 => omega
          case d5 => simp; omega
          intro v' w9 hown' hgrow hblk
          have hb9 : Below w.heap.size w w9 := (hbx.alloc hbsz _).grown hgrow (by simp; omega) (fun q hq => Nat.le_trans hB4 (ho.lt q hq).1)
          have hsz9 : w8.heap.size ≤ w9.heap.size := by have := hgrow.size; simp at this; omega
          have HO9 : Hid (∃ cs : List Value, w9.ownsRow B4 3 1 v' (l.length + (j + 1)) cs) := ⟨_, hown'⟩
          have HN9 : Hid (∀ q, v'.ownBlock = some q → (Value.slice py l.length cy).ownBlock ≠ some q) := by
            intro q hq
            rcases hblk with e | e
            · exact hne.out q (e.symm.trans hq)
            · intro e2
              have h3 := (HYB.out q e2).2
              rw [e] at hq
              injection hq with hq
              have h4 : (wr.alloc (.cells #[.int .i64 (-2)] 3)).heap.size = wr.heap.size + 1 := by simp
              omega
          have HY9 : Hid (w9.ownsRow B5 3 1 (.slice py l.length cy) l.length (ints l)) := by
            refine World.ownsRow.kept (hoy.out.alloc _) hgrow ?_
            cases e : (Value.slice py l.length cy).ownBlock with
            | none => exact .inl rfl
            | some q => exact .inr (fun e' => hne.out q e'.symm e)
          have hT9 := hT.below hb9
          clear ho hown' hgrow hblk hne hoy
          go_wp2_with fail
          go_roundg (70 - (j + 1))
          case rel => exact ⟨j + 1, by omega, rfl, by go_num, hb9, hsz9, hT9, HO9, HN9, HY9⟩
          case measure => omega
        · obtain rfl : j = 70 := by omega
          obtain ⟨cs, ho⟩ := hox.out
          obtain ⟨pv, cv, rfl⟩ := own_slice ho
          have hry := ints_row hoy.out
          clear hox ho hne hoy
          go_wp2_with (first
            | (go_at_call 15; refine (cC _).mono ?_; rintro e w' ⟨rfl, rfl⟩))
          refine (cRL _).mono ?_
          rintro e w10 ⟨pq, cq, rfl, hb10, hr10⟩
          have cN := numbers_any w10 py pq _ _ cy cq _ (hry.later hb10) (ints_row hr10) (by rw [List.length_map]) (by rw [List.length_map]) (by rw [List.length_map]; omega)
          clear hr10 hry
          go_wp2_with fail
          refine cN.mono ?_
          rintro e w11 ⟨rfl, hb11⟩
          have hend := hbx.trans ((hb10.trans (hb11.mono hb10.size)).mono hbx.size)
          clear cN hb10 hb11
          go_wp2_with fail
          go_ret
          exact ⟨rfl, hend⟩
end Go.Proofs.YtglpkadpohbfmaaDoor
