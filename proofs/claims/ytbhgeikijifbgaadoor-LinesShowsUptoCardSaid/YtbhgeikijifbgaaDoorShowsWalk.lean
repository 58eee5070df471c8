/- The law LinesShows by a walk over the contracts. -/
import Derived.Test.YtbhgeikijifbgaaDoorRefShow
import Derived.Test.YtbhgeikijifbgaaDoorRefCut
import Derived.Test.YtbhgeikijifbgaaDoorRefJoined
import Derived.Deep.DeepCutAuto
namespace Go.Proofs.YtbhgeikijifbgaaDoor
open Go.RowKit

theorem cutL_len (s : ByteArray) : (cutL s.data.toList).length ≤ s.size := by
  rw [← len_size]
  unfold cutL
  split
  · simp
  · split
    · have h1 := join_len (piecesL s.data.toList.dropLast)
      rw [join_cut _ ‹_›] at h1
      rw [h1]
      generalize piecesL s.data.toList.dropLast = ls
      induction ls with
      | nil => simp
      | cons x xs ih => simp only [List.map_cons, List.sum_cons, List.length_cons]; omega
    · simp
theorem asTexts_len (ls : List (List UInt8)) : (asTexts ls).length = ls.length := by simp [asTexts]
/-- A row of texts of its own at p. -/
theorem row_at {W : World} {B : Nat} {e : TypeId} {p : Option Addr} {n c : Nat} {ks : List ByteArray} (hk : ks.length = n) (h : W.ownsRow B e 1 (.slice p n c) n (ks.map Value.string)) : StrRow W p ks := by
  subst hk
  obtain ⟨p', c', e', hr⟩ := row_owned h
  injection e' with e1 e2 e3
  rw [e1]; exact hr

set_option maxRecDepth 100000 in
set_option maxHeartbeats 8000000 in
theorem linesShows_any (w : World) (s t : ByteArray) (pl : Option Addr) (cl : Nat) (ls : List ByteArray) (hT : Tabs w) (hM : MaxS w)
    (hs : s.size ≤ 1048576) (ht : t.size ≤ 1048576) (hl : StrRow w pl ls) (hz : sizeOf' ls ≤ 1048576) (hlen : ls.length ≤ 1048576) (hnil : pl = none → ls = [] ∧ cl = 0) :
    Calls Tryd.prog 5 #[.string s, .string t, .slice pl ls.length cl] w fun e w' => e = .returned (.bool true) ∧ Below w.heap.size w w' := by
  have hw0 : Wd w w := ⟨hT, hM, Below.refl _ _⟩
  have c1 : Tells w 11 #[.string s] _ := tells_of fun W hW => shown_any s W (by unfold maxLen; omega) hW.1
  have c2 : Tells w 18 #[.string s] _ := tells_of fun W _ => refShown_any s W (by unfold maxLen; omega)
  have c3 := fun W (hW : Wd w W) => show_any s W (by omega) hW.1
  have c4 := fun W => refShow_any s W (by omega)
  have hm0 := cutL_len t
  have hT0 := asTexts_len (cutL t.data.toList)
  have k1 := fun W (hW : Wd w W) => cut_row t W (by omega) hW.2.1
  have k2 := fun W => refCut_row t W ht
  unfold CutRow at k1 k2
  generalize (⟨(shownT s.data.toList).toArray⟩ : ByteArray) = x1 at *
  generalize (⟨(shownR s.data.toList).toArray⟩ : ByteArray) = x2 at *
  generalize shownE s.data.toList = x3 at *
  generalize (⟨(showL s.data.toList).toArray⟩ : ByteArray) = x4 at *
  generalize cutE t.data.toList = x5 at *
  generalize asTexts (cutL t.data.toList) = T at *
  generalize (cutL t.data.toList).length = m at *
  have hm : m ≤ 1048576 := by omega
  have HT := Lib.hid hT0
  obtain ⟨n, hn⟩ : ∃ n, ls.length = n := ⟨_, rfl⟩
  rw [hn] at hlen ⊢
  have HN := Lib.hid hn
  obtain ⟨i0, hi, hz0, hz1, hz2⟩ := info_parts strInfo
  clear hT0 hm0 hn hs ht
  go_enter Tryd.func5, Tryd.ntmps5
  go_wp2_with fail
  refine (c1 _ hw0).mono ?_
  rintro e w1 ⟨rfl, hw1⟩
  go_wp2_with fail
  refine (c2 _ hw1).mono ?_
  rintro e w2 ⟨rfl, hw2⟩
  go_wp2_with fail
  refine (k1 _ hw2).mono ?_
  rintro e w3 ⟨p, c, rfl, hb3, ho3⟩
  have hw3 := Wd.next hb3 hw2
  go_wp2_with fail
  refine (k2 _).mono ?_
  rintro e w4 ⟨q, d, rfl, hb4, ho4⟩
  have hw4 := Wd.next hb4 hw3
  have ho34 := owns_later ho3 hb4
  have hgB : Hid (∀ g, p = some ⟨g, 0, none⟩ → w.heap.size ≤ g ∧ g < w3.heap.size) := fun g hg => by
    subst hg
    have := ho3.lt g rfl
    exact ⟨Nat.le_trans hw2.2.2.size this.1, this.2⟩
  have HO3 := Lib.hid ho34
  have HO4 := Lib.hid ho4
  have HW3 : Hid (w.heap.size ≤ w3.heap.size) := hw3.2.2.size
  generalize w3.heap.size = B4 at *
  generalize w2.heap.size = B3 at *
  clear ho3 ho34 ho4 hb3 hb4 c1 c2 k2 hw0 hw1 hw2 hw3
  go_upto_region 5 with fail
  go_cut [17] (fun v wx => Below w4.heap.size w4 wx ∧ wx.ownsRow w4.heap.size 9 1 v n (ls.map Value.string))
  case first =>
    have hlit := World.ownsRow_lit (base := w4.heap.size) (e := 9) (size := 1) w4 #[] 0 (Nat.le_refl _) (Nat.zero_le _) rfl
    cases pl with
    | none =>
      obtain ⟨rfl, rfl⟩ := hnil rfl
      obtain rfl : 0 = n := HN.out
      go_wp2_with (at_builtin; refine wpList_append_own_none _ rfl _ _ 31 rfl w4.heap.size 9 i0 1 Tryd.underlying31 hi _ 0 _ rfl hlit rfl ?_)
      go_meet
      exact ⟨(Below.refl _ _).alloc (Nat.le_refl _) _, hlit⟩
    | some ad =>
      have hnews : ∀ j u, (ls.map Value.string)[j]? = some u → (w4.alloc (.cells #[] 9)).cell? (ad.add j) = some u := by
        intro j u hj
        rw [List.getElem?_map] at hj
        by_cases hjl : j < ls.length
        · rw [List.getElem?_eq_getElem hjl] at hj
          obtain ⟨b, off, e, hc⟩ := hl.at j hjl
          injection e with e
          subst e
          rw [addr_add, hc _ (hw4.2.2.alloc hw4.2.2.size _)]
          exact hj
        · rw [List.getElem?_eq_none (by omega)] at hj; cases hj
      have HNEWS := Lib.hid hnews
      clear hnews hnil
      go_wp2_with (at_builtin; refine wpList_append_own _ rfl _ _ 31 rfl w4.heap.size 9 i0 (.string ⟨#[]⟩) 1 16 Tryd.underlying31 hi hz0 hz1 hz2 rfl (by decide) _ 0 _ rfl hlit ad n cl (ls.map Value.string) rfl ?c0 HNEWS.out ?c2 ?c3 ?c4 ?c5 ?_)
      case c0 => first | exact HN.out | (simp; exact HN.out)
      case c2 =>
        intro u hu
        rfl
      case c3 => unfold maxLen; omega
      case c4 => omega
      intro v' w5 hown' hgrow _
      have hb5 : Below w4.heap.size w4 w5 := ((Below.refl _ w4).alloc (Nat.le_refl _) _).grown hgrow (by simp) (fun g hg => (hlit.lt g hg).1)
      have HO5 : Hid (w5.ownsRow w4.heap.size 9 1 v' n (ls.map Value.string)) := by
        exact hown'
      clear hown' hgrow
      go_wp2_with fail
      go_meet
      exact ⟨hb5, HO5.out⟩
  case rest =>
    obtain ⟨hb5, ho5⟩ := hcut
    have hw5 := Wd.next hb5 hw4
    have hc5 := owns_later HO3.out hb5
    have hd5 := owns_later HO4.out hb5
    have HC5 := Lib.hid hc5
    have HD5 := Lib.hid hd5
    obtain ⟨pin, cin, hv, hrin⟩ := row_owned (ks := ls) (by rw [HN.out]; exact ho5)
    rw [HN.out] at hv
    subst hv
    have hrl := hl.later hw5.2.2
    have hrc := row_at HT.out hc5
    have hrd := row_at HT.out hd5
    have HRC := Lib.hid hrc; have HRD := Lib.hid hrd; have HRL := Lib.hid hrl; have HRI := Lib.hid hrin
    clear hc5 hd5 ho5 hrc hrd hrl hrin HO3 HO4 hb5 hw4
    go_wp2_with fail
    refine (c3 _ hw5).mono ?_
    rintro e w6 ⟨rfl, hb6⟩
    go_wp2_with fail
    refine (c4 _).mono ?_
    rintro e w7 ⟨rfl, hb7⟩
    have hb7' := hb6.trans (hb7.mono hb6.size)
    have cS := sameTexts_any w7 p q m m c d T (HRC.out.later hb7') (HRD.out.later hb7') HT.out HT.out (by have := HT.out; omega)
    clear c3 c4 hb6 hb7
    go_wp2_with fail
    refine cS.mono ?_
    rintro e w8 ⟨rfl, hb8⟩
    have hb8' := hb7'.trans (hb8.mono hb7'.size)
    have hzz := hz
    have cJ := joined_any w8 pin cin ls (HRI.out.later hb8') hz
    rw [HN.out] at cJ
    clear cS hb7' hb8
    go_wp2_with fail
    refine cJ.mono ?_
    rintro e w9 ⟨rfl, hb9⟩
    have hb9' := hb8'.trans (hb9.mono hb8'.size)
    have cR := refJoined_any w9 pl cl ls (HRL.out.later hb9') hz
    rw [HN.out] at cR
    clear cJ hb8' hb9
    go_wp2_with fail
    refine cR.mono ?_
    rintro e w10 ⟨rfl, hb10⟩
    have hb10' := hb9'.trans (hb10.mono hb9'.size)
    have cS := sameTexts_any w10 pin pl n n cin cl ls (HRI.out.later hb10') (HRL.out.later hb10') HN.out HN.out (by have := HN.out; omega)
    clear cR hb9' hb10
    go_wp2_with fail
    refine cS.mono ?_
    rintro e w11 ⟨rfl, hb11⟩
    have hb11' := hb10'.trans (hb11.mono hb10'.size)
    have hwb := hw5.2.2.trans (hb11'.mono hw5.2.2.size)
    have hoc := owns_later HC5.out hb11'
    have hod := owns_later HD5.out hb11'
    have HOC := Lib.hid hoc; have HOD := Lib.hid hod
    clear cS hb10' hb11 hb11' hoc hod HRC HRD HRL HRI HC5 HD5 hw5 hzz
    go_wp2_with fail
    go_loopw [18] (fun i wr => ∃ k : Nat, k ≤ m ∧ i = .int .i64 k ∧ Below w.heap.size w wr ∧ Hid (∃ cs : List Value, wr.ownsRow B3 9 1 (.slice p m c) m cs) ∧ Hid (wr.ownsRow B4 9 1 (.slice q m d) m (T.map Value.string))) (fun i _ => m - (intOf i).toNat)
    case atStart => exact ⟨0, by omega, rfl, hwb, ⟨_, HOC.out⟩, HOD⟩
    case round =>
      clear hwb HOC HOD
      obtain ⟨k, hk, rfl, hbr, hoc, hod⟩ := hrel
      by_cases hlt : k < m
      · obtain ⟨cs, ho⟩ := hoc.out
        obtain ⟨g, rfl⟩ : ∃ g, p = some ⟨g, 0, none⟩ := by
          rcases ho.2 with ⟨hv, h0⟩ | ⟨g, cap, cur, hv, _⟩
          · omega
          · injection hv with e1 _ _
            exact ⟨g, e1⟩
        obtain ⟨hg1, hg2⟩ := hgB.out g rfl
        have hck : k < cs.length := by have := ho.1; omega
        have hcell : wr.cell? ⟨g, k, none⟩ = some cs[k] := by rw [ho.cellAt k (by omega), List.getElem?_eq_getElem hck]
        have hfz := ho.frozenAt k
        obtain ⟨hst, hgr⟩ := ho.stored k (.string ⟨#[63]⟩)
        have hod2 := World.ownsRow.kept hod.out hgr (by
          rcases hod.out.2 with ⟨hv, _⟩ | ⟨g2, cap, cur, hv, hB, _⟩
          · left; rw [hv]; rfl
          · right; rw [hv]; simp [Value.ownBlock]; omega)
        have HS : Hid (∃ cs : List Value, (wr.setCell ⟨g, k, none⟩ (.string ⟨#[63]⟩)).ownsRow B3 9 1 (.slice (some ⟨g, 0, none⟩) m c) m cs) := ⟨_, hst⟩
        have HD2 := Lib.hid hod2
        have hbs : Below w.heap.size w (wr.setCell ⟨g, k, none⟩ (.string ⟨#[63]⟩)) := hbr.setCell (p := ⟨g, k, none⟩) hg1 _
        generalize cs[k] = u at *
        clear ho hst hgr hod2 hoc hod
        go_wp2_with fail
        go_roundw
        case rel => exact ⟨k + 1, by omega, by go_num, hbs, HS, HD2⟩
        case measure => simp [intOf]; omega
      · obtain rfl : m = k := by omega
        have cC := k1 wr (wd_of hT hM hbr)
        have hrd := row_at HT.out hod.out
        clear k1 hoc
        go_wp2_with fail
        refine cC.mono ?_
        rintro e w12 ⟨p2, c2, rfl, hb12, ho12⟩
        have hr2 := row_at HT.out ho12
        have cS := sameTexts_any w12 p2 q m m c2 d T hr2 (hrd.later hb12) HT.out HT.out (by have := HT.out; omega)
        have hb13 := hbr.trans (hb12.mono hbr.size)
        clear cC ho12 hr2 hrd hod hb12
        go_wp2_with fail
        refine cS.mono ?_
        rintro e w13 ⟨rfl, hb14⟩
        have hb15 := hb13.trans (hb14.mono hb13.size)
        go_wp2_with fail
        go_ret
        exact ⟨rfl, hb15⟩
end Go.Proofs.YtbhgeikijifbgaaDoor
