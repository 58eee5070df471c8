/- HunkApplies: the law's walk; the document's Undo. -/
import Derived.Test.YtjmnbnlhahbcjaaHuUnd
import Derived.Test.YtjmnbnlhahbcjaaHuRefIv
import Derived.Test.YtjmnbnlhahbcjaaHuRefAp
import Derived.Test.YtjmnbnlhahbcjaaHuMark
namespace Go.Proofs.Ytjmnbnlhahbcjaa
open Go Go.RowKit

set_option maxRecDepth 100000 in
theorem refUndo_any (w : World) (q : Option Addr) (m d : Nat) (a : List Tx) (p : Option Addr) (n c : Nat) (hs : List Hu) (hn : hs.length = n) (hnb : n ≤ 2513169434900) (hr : HuRow w p hs) (hB : HuB hs) (hm : a.length = m) (hq : TxP w q d a) (hsum : m + goesN hs ≤ 2097152) :
    Calls Try.prog 42 #[.slice q m d, .slice p n c] w (GivesA w (undX a hs)) := by
  have cI := refInvert_any w p n c hs hn hnb hr hB
  have HQ := Lib.hid hq
  unfold undX
  clear hr hq
  by_cases hbad : (invX hs).1 = 0
  · rw [if_pos hbad]
    have e := invX_ok hbad
    rw [e] at cI ⊢
    have cA := fun W ph ch (hb : Below w.heap.size w W) (hx : HuRow W ph (inv 0 hs)) => refApply_any W q m d a ph n ch (inv 0 hs) (by rw [inv_len]; exact hn) hnb hx (inv_b 0 hs hB) hm (HQ.out.later hb) (by rw [inv_comes]; exact hsum)
    have hil : (inv 0 hs).length = n := by rw [inv_len]; exact hn
    dsimp only at *
    generalize apX a (inv 0 hs) = X at *
    clear hbad e hm hn hB
    go_enter Try.func42, Try.ntmps42
    go_wp2_with fail
    refine cI.mono ?_
    rintro e w1 ⟨hb1, v, us, rfl, ho⟩
    obtain ⟨ph, ch, rfl, hrh⟩ := ho.reads
    dsimp only at hrh
    have cA1 := cA w1 ph ch hb1 hrh
    dsimp only
    rw [hil]
    have HB1 := Lib.hid hb1
    have hs1 := hb1.size
    clear cI cA hb1 ho hrh hil
    go_wp2_with fail
    refine cA1.mono ?_
    rintro e w2 ⟨hb2, v, rfl, ho2⟩
    have hgv : GivesA w X (.returned (.tuple #[v, .int .i64 X.1])) w2 := ⟨HB1.out.trans (hb2.mono hs1), v, rfl, own_mono ho2 hs1⟩
    have HGV := Lib.hid hgv
    obtain ⟨x1, x2⟩ := X
    clear cA1 hb2 ho2 hgv
    go_wp2_with fail
    go_ret2
    exact HGV.out
  · rw [if_neg hbad]
    generalize invX hs = X at *
    obtain ⟨x1, x2⟩ := X
    dsimp only at *
    have hne : (x1 != 0) = true := by rw [bne, beq_false_of_ne hbad]; rfl
    go_enter Try.func42, Try.ntmps42
    go_wp2_with fail
    refine cI.mono ?_
    rintro e w1 ⟨hb1, v, us, rfl, ho⟩
    have hgv : GivesA w (x1, []) (.returned (.tuple #[.slice none 0 0, .int .i64 x1])) w1 := GivesA.none hb1
    have HGV := Lib.hid hgv
    clear cI hb1 ho hgv
    go_wp2_with fail
    go_ret2
    exact HGV.out
theorem apX_len (a : List Tx) (hs : List Hu) : (apX a hs).2.length ≤ a.length + comesN hs := by
  unfold apX
  split
  · rename_i h
    have := ap_len 0 hs (fitX_zero h).2.2.2 (Nat.zero_le _)
    dsimp only
    omega
  · simp
theorem undX_len (a : List Tx) (hs : List Hu) : (undX a hs).2.length ≤ a.length + goesN hs := by
  unfold undX
  split
  · rename_i h
    rw [invX_ok h]
    have := apX_len a (inv 0 hs)
    rw [inv_comes] at this
    exact this
  · simp
theorem GivesA.rows {w w' : World} {x : Int × List Tx} {e : Ending} (h : GivesA w x e w') : Below w.heap.size w w' ∧ ∃ q c, e = .returned (.tuple #[.slice q x.2.length c, .int .i64 x.1]) ∧ w'.ownsRow w.heap.size 9 1 (.slice q x.2.length c) x.2.length (x.2.map Value.string) := by
  obtain ⟨hb, v, e, ho⟩ := h
  obtain ⟨q, c, rfl⟩ := row_form ho
  exact ⟨hb, q, c, e, ho⟩
def tBehind : Tx := ⟨#[98, 101, 104, 105, 110, 100]⟩
theorem own_range {W : World} {B z n c : Nat} {e : TypeId} {q : Option Addr} {cs : List Value} (h : W.ownsRow B e z (.slice q n c) n cs) : ∀ b off, q = some ⟨b, off, none⟩ → B ≤ b ∧ b < W.heap.size := fun b off hp => h.lt b (by rw [hp]; rfl)
set_option maxRecDepth 100000 in
set_option maxHeartbeats 8000000 in
theorem hunkApplies_any (w : World) (p : Option Addr) (n c : Nat) (hs : List Hu) (q : Option Addr) (m d : Nat) (a : List Tx) (hn : hs.length = n) (hnb : n ≤ 2513169434900) (hr : HuRow w p hs) (hB : HuB hs) (hm : a.length = m) (hq : TxP w q d a) (hsum : m + (goesN hs + comesN hs) ≤ 1048576) :
    Calls Try.prog 6 #[.slice p n c, .slice q m d] w fun e w' => e = .returned (.bool true) ∧ Below w.heap.size w w' := by
  obtain ⟨i0, hi, hz0, hz1, hz2⟩ := info_parts strInfo
  have cT := twin_any w p n c hs hn hnb hr hB
  have cR := fun W (hb : Below w.heap.size w W) => (refApply_any W q m d a p n c hs hn hnb (hr.later hb) hB hm (hq.later hb) (by omega)).mono fun e w' h => GivesA.rows h
  have cO := fun W (hb : Below w.heap.size w W) => (refUndo_any W q m d a p n c hs hn hnb (hr.later hb) hB hm (hq.later hb) (by omega)).mono fun e w' h => GivesA.rows h
  have cA := fun W ph ch g dd (hx : HuRow W ph hs) (hy : TxP W (some ⟨g, 0, none⟩) dd a) => (apply_any W (some ⟨g, 0, none⟩) m dd a ph n ch hs hn hnb hx hB hm (by omega) hy (by omega)).mono fun e w' h => GivesA.rows h
  have cU := fun W ph ch g dd (hx : HuRow W ph hs) (hy : TxP W (some ⟨g, 0, none⟩) dd a) => (undo_any W (some ⟨g, 0, none⟩) m dd a ph n ch hs hn hnb hx hB hm (by omega) hy (by omega)).mono fun e w' h => GivesA.rows h
  have cS := fun W ph ch (hb : Below w.heap.size w W) (hx : HuRow W ph hs) => refSameT_any W ph p n n ch c hs hx (hr.later hb) hn hn (by omega) (fun h hh => ⟨by have := (hB h hh).1; omega, by have := (hB h hh).2.1; omega⟩)
  have cX := fun W px cx (xs : List Tx) (N : Nat) py cy (hx : StrRow W px xs) (hy : StrRow W py xs) (hN : xs.length = N) (hNb : N ≤ 2097152) => refTexts_any W px py N N cx cy xs xs hx hy hN hN (by omega) (by omega)
  have hxl := apX_len a hs
  have hyl := undX_len a hs
  rw [hm] at hxl hyl
  simp only [decide_true] at cX
  have HM := Lib.hid hm
  have HQ := Lib.hid hq
  have hN := Lib.hid hn
  clear hn hr hB hm hq
  generalize apX a hs = X at *
  generalize undX a hs = Y at *
  obtain ⟨xe, xl⟩ := X
  obtain ⟨ye, yl⟩ := Y
  dsimp only at *
  obtain ⟨nx, hnx⟩ : ∃ nx, xl.length = nx := ⟨_, rfl⟩
  obtain ⟨ny, hny⟩ : ∃ ny, yl.length = ny := ⟨_, rfl⟩
  have cX1 := fun W px cx py cy hx hy => cX W px cx xl nx py cy hx hy hnx (by omega)
  have cX2 := fun W px cx py cy hx hy => cX W px cx yl ny py cy hx hy hny (by omega)
  have cX3 := fun W px cx py cy hx hy => cX W px cx a m py cy hx hy HM.out (by omega)
  rw [hnx] at hxl
  rw [hny] at hyl
  simp only [hnx] at cR cA
  simp only [hny] at cO cU
  have hxb : nx ≤ 1048576 := by omega
  have hyb : ny ≤ 1048576 := by omega
  have hmb : m ≤ 1048576 := by omega
  clear hsum hxl hyl cX
  go_enter Try.func6, Try.ntmps6
  go_wp2_with fail
  refine cT.mono ?_
  rintro e w1 ⟨hb1, ph, ch, us, rfl, hrh, -⟩
  rw [hN.out]
  have hs1 := hb1.size
  have HB1 := Lib.hid hb1
  have l1 := World.ownsRow_lit (base := w1.heap.size) (e := 9) (size := 1) w1 #[] 0 (Nat.le_refl _) (Nat.zero_le _) rfl
  have hq1 := HQ.out.later (hb1.alloc hs1 (.cells #[] 9))
  clear cT hb1
  go_wp2_with (at_builtin; refine app_tx rfl _ _ 33 rfl w1.heap.size 9 i0 (.string ⟨#[]⟩) Try.underlying33 hi hz0 hz1 hz2 rfl _ 0 [] rfl l1 q m d a rfl HM.out hq1.1 (by rw [← HM.out]; exact hq1.2.1) (by omega) (by simp) ?_)
  intro v2 w2 ho2 hgr2 _
  have hb2 : Below w1.heap.size w1 w2 := ((Below.refl _ _).alloc (Nat.le_refl _) _).grown hgr2 (by simp) (fun g hg => by
    have : w1.heap.size = g := by simpa [Value.ownBlock] using hg
    omega)
  have hs12 := hb2.size
  have HB12 := Lib.hid hb2
  clear hgr2 hb2 l1 hq1
  go_wp2_with (at_builtin; refine app_tx rfl _ _ 33 rfl w1.heap.size 9 i0 (.string ⟨#[]⟩) Try.underlying33 hi hz0 hz1 hz2 rfl _ m a rfl (ho2.alloc _) (some ⟨w2.heap.size, 0, none⟩) 1 1 [tMark] rfl rfl (lit1 _ _ _) (fun e => by cases e) (by omega) (by simp; omega) ?_)
  intro v3 w3 ho3 hgr3 _
  have hb3 : Below w1.heap.size w1 w3 := (HB12.out.alloc hs12 _).grown hgr3 (by simp; omega) (fun g hg => (ho2.lt g hg).1)
  obtain ⟨g, cap, rfl, hcp, hg, hg2⟩ := own_ptr' ho3 (by omega)
  have hmk : MarkRow w3 w1.heap.size g cap a := ⟨by rw [HM.out, List.map_append]; exact ho3, by rw [HM.out]; exact hcp⟩
  have hbw3 := HB1.out.trans (hb3.mono hs1)
  have hs3 := hbw3.size
  have HB3 := Lib.hid hbw3
  have HRH3 := Lib.hid (hrh.later hb3)
  have HMK3 := Lib.hid hmk
  have hmc : (m : Int) ≤ (cap : Int) := by omega
  clear hgr3 hb3 hbw3 ho3 ho2 hmk hrh HB12
  go_wp2_with fail
  refine (cR w3 HB3.out).mono ?_
  rintro e w4 ⟨hb4, q4, c4, rfl, o4⟩
  have hbw4 := HB3.out.trans (hb4.mono hs3)
  have hs4 := hbw4.size
  have t34 := hb4.size
  have HB4 := Lib.hid hbw4
  have HRH4 := Lib.hid (HRH3.out.later hb4)
  have HMK4 := Lib.hid (HMK3.out.later hb4)
  have HW4 := Lib.hid (row_at hnx o4)
  clear cR hb4 hbw4 HB3 HRH3 HMK3 o4
  go_wp2_with fail
  refine (cA w4 ph ch g cap HRH4.out HMK4.out.txp).mono ?_
  rintro e w5 ⟨hb5, q5, c5, rfl, o5⟩
  have HO5 := Lib.hid o5
  have H45 := Lib.hid hb5
  have t45 := hb5.size
  clear hb5 o5
  go_wp2_with fail
  refine (cA w5 ph ch g cap (HRH4.out.later H45.out) (HMK4.out.later H45.out).txp).mono ?_
  rintro e w6 ⟨hb6, q6, c6, rfl, o6⟩
  have HO6 := Lib.hid o6
  have H56 := Lib.hid hb6
  have t56 := hb6.size
  have H46 := Lib.hid (H45.out.trans (hb6.mono t45))
  clear hb6 o6 cA
  go_wp2_with fail
  refine (cO w6 (HB4.out.trans (H46.out.mono hs4))).mono ?_
  rintro e w7 ⟨hb7, q7, c7, rfl, o7⟩
  have HO7 := Lib.hid o7
  have H67 := Lib.hid hb7
  have t67 := hb7.size
  have H47 := Lib.hid (H46.out.trans (hb7.mono H46.out.size))
  clear hb7 o7 cO
  go_wp2_with fail
  refine (cU w7 ph ch g cap (HRH4.out.later H47.out) (HMK4.out.later H47.out).txp).mono ?_
  rintro e w8 ⟨hb8, q8, c8, rfl, o8⟩
  have HO8 := Lib.hid o8
  have H78 := Lib.hid hb8
  have t78 := hb8.size
  have H48 := Lib.hid (H47.out.trans (hb8.mono H47.out.size))
  clear hb8 o8
  go_wp2_with fail
  refine (cU w8 ph ch g cap (HRH4.out.later H48.out) (HMK4.out.later H48.out).txp).mono ?_
  rintro e w9 ⟨hb9, q9, c9, rfl, o9⟩
  have HO9 := Lib.hid o9
  have H89 := Lib.hid hb9
  have t89 := hb9.size
  have H49 := Lib.hid (H48.out.trans (hb9.mono H48.out.size))
  clear hb9 o9 cU
  -- all at w9
  have R5 := Lib.hid (row_later (row_later (row_later (row_later HO5.out H56.out) H67.out) H78.out) H89.out)
  have R6 := Lib.hid (row_later (row_later (row_later HO6.out H67.out) H78.out) H89.out)
  have R7 := Lib.hid (row_later (row_later HO7.out H78.out) H89.out)
  have R8 := Lib.hid (row_later HO8.out H89.out)
  have V5 := Lib.hid (own_range HO5.out)
  have V6 := Lib.hid (own_range HO6.out)
  have V7 := Lib.hid (own_range HO7.out)
  have V8 := Lib.hid (own_range HO8.out)
  have V9 := Lib.hid (own_range HO9.out)
  clear HO5 HO6 HO7 HO8
  have cX5 := cX1 w9 q5 c5 q4 c4 (row_at hnx R5.out) (HW4.out.later H49.out)
  go_wp2_with fail
  refine cX5.mono ?_
  rintro e w10 ⟨rfl, hb10⟩
  have H910 := Lib.hid hb10
  have t910 := hb10.size
  have cX8 := cX2 w10 q8 c8 q7 c7 ((row_at hny R8.out).later hb10) ((row_at hny R7.out).later hb10)
  clear cX5 hb10
  go_wp2_with fail
  refine cX8.mono ?_
  rintro e w11 ⟨rfl, hb11⟩
  have h911 := H910.out.trans (hb11.mono t910)
  have t911 := h911.size
  have H411 := Lib.hid (H49.out.trans (h911.mono H49.out.size))
  have H911 := Lib.hid h911
  clear cX8 hb11 h911
  obtain ⟨S, hS⟩ : ∃ S : Nat → Prop, S = fun k => (w4.heap.size ≤ k ∧ k < w5.heap.size) ∨ (w7.heap.size ≤ k ∧ k < w8.heap.size) := ⟨_, rfl⟩
  have HSP := Lib.hid hS
  have H0 : Hid (RowsOk S w11 w11 w4.heap.size [⟨.slice q5 nx c5, 9, 1, nx⟩, ⟨.slice q8 ny c8, 9, 1, ny⟩]) := by
    have v1 := own_ivb R5.out V5.out
    have v2 := own_ivb R8.out V8.out
    refine ⟨fun i hi => ?_, fun i j hi hj hij k h1 h2 => ?_, KeptBut.refl _ _, fun i hi k hk => .inl ?_, by omega⟩
    · match i, hi with
      | 0, _ => exact ⟨_, row_later R5.out H911.out⟩
      | 1, _ => exact ⟨_, own_mono (row_later R8.out H911.out) (by omega)⟩
    · have q : ∀ i (hi : i < 2), (([⟨.slice q5 nx c5, 9, 1, nx⟩, ⟨.slice q8 ny c8, 9, 1, ny⟩] : List RowT)[i]'hi).v.ownBlock = some k → (i = 0 ∧ w4.heap.size ≤ k ∧ k < w5.heap.size) ∨ (i = 1 ∧ w7.heap.size ≤ k ∧ k < w8.heap.size) := fun i hi hk => by
        match i, hi, hk with
        | 0, _, hk => exact .inl ⟨rfl, v1 k hk⟩
        | 1, _, hk => exact .inr ⟨rfl, v2 k hk⟩
      have q1 := q i hi h1
      have q2 := q j hj h2
      omega
    · rw [hS]
      match i, hi, hk with
      | 0, _, hk => exact .inl (v1 k hk)
      | 1, _, hk => exact .inr (v2 k hk)
  have TB := Lib.hid ((row_at hnx R6.out).later H911.out)
  have TV := Lib.hid ((row_at hny HO9.out).later H911.out)
  have TO := Lib.hid ((row_at hny R7.out).later H911.out)
  have HZ := Lib.hid (show w4.heap.size ≤ w5.heap.size ∧ w5.heap.size ≤ w6.heap.size ∧ w6.heap.size ≤ w7.heap.size ∧ w7.heap.size ≤ w8.heap.size ∧ w8.heap.size ≤ w9.heap.size ∧ w9.heap.size ≤ w11.heap.size ∧ w.heap.size ≤ w4.heap.size from ⟨t45, t56, t67, t78, t89, by omega, by omega⟩)
  clear hS R5 R6 R7 R8 V5 V8 HO9 H911 H910 H49 t45 t56 t67 t78 t89 t910 t911 t34 hs4 hs3 hs12 hs1
  go_wp2_with fail
  go_loopg [20] nx (fun g vi wr => ∃ k : Nat, k + g = nx ∧ vi = .int .i64 k ∧ Hid (RowsOk S w11 wr w4.heap.size [⟨.slice q5 nx c5, 9, 1, nx⟩, ⟨.slice q8 ny c8, 9, 1, ny⟩]))
  case atStart => exact ⟨0, by omega, rfl, H0.out⟩
  case round =>
    obtain ⟨k, hk, rfl, HR0⟩ := hrel
    by_cases hlt : k < nx
    · obtain ⟨cs, oa⟩ := HR0.out.own 0 (by simp)
      obtain ⟨ga, rfl, ea⟩ := own_cell oa (by omega)
      obtain ⟨⟨ua, da⟩, fa⟩ := ea k (by show k < nx * 1; omega)
      have HN3 := Lib.hid (HR0.out.store 0 (by simp) (g := ga) rfl k (.string ⟨#[115, 112, 111, 105, 108, 116]⟩))
      have hkI : (k : Int) < (nx : Int) := by omega
      have hk0 : (0 : Int) ≤ (k : Int) := by omega
      clear oa ea HR0
      go_wp2_with fail
      go_roundg (gk - 1)
      case rel => exact ⟨k + 1, by omega, by go_num, HN3.out⟩
      case measure => omega
    · obtain rfl : nx = k := by omega
      have HB0 := Lib.hid HR0.out
      clear HR0 H0
      go_wp2_with fail
      go_loopg [21] ny (fun g vi wr => ∃ k : Nat, k + g = ny ∧ vi = .int .i64 k ∧ Hid (RowsOk S w11 wr w4.heap.size [⟨.slice q5 nx c5, 9, 1, nx⟩, ⟨.slice q8 ny c8, 9, 1, ny⟩]))
      case atStart => exact ⟨0, by omega, rfl, HB0.out⟩
      case round =>
        obtain ⟨k, hk, rfl, HR0⟩ := hrel
        by_cases hlt : k < ny
        · obtain ⟨cs, oh⟩ := HR0.out.own 1 (by simp)
          obtain ⟨gh, rfl, eh⟩ := own_cell oh (by omega)
          obtain ⟨⟨uh, dh⟩, fh⟩ := eh k (by show k < ny * 1; omega)
          have HN3 := Lib.hid (HR0.out.store 1 (by simp) (g := gh) rfl k (.string ⟨#[115, 112, 111, 105, 108, 116]⟩))
          have hkI : (k : Int) < (ny : Int) := by omega
          have hk0 : (0 : Int) ≤ (k : Int) := by omega
          clear oh eh HR0 HB0
          go_wp2_with fail
          go_roundg (gk - 1)
          case rel => exact ⟨k + 1, by omega, by go_num, HN3.out⟩
          case measure => omega
        · obtain rfl : ny = k := by omega
          have HC0 := Lib.hid HR0.out
          clear HR0 HB0
          go_wp2_with fail
          go_loopg [10, 16, 22] 70 (fun g va vu vi wr => ∃ k : Nat, k + g = 70 ∧ vi = .int .i64 k ∧ Hid (RowsOk S w11 wr w4.heap.size [⟨va, 9, 1, nx + k⟩, ⟨vu, 9, 1, ny + k⟩]))
          case atStart => exact ⟨0, by omega, rfl, HC0.out⟩
          case round =>
            obtain ⟨k, hk, rfl, HR0⟩ := hrel
            by_cases hlt : k < 70
            · obtain ⟨cs0, oa⟩ := HR0.out.own 0 (by simp)
              have HOA : Hid (wr.ownsRow w4.heap.size 9 1 u10 (nx + k) cs0) := oa
              have hkI : (k : Int) < 70 := by omega
              have hk0 : (0 : Int) ≤ (k : Int) := by omega
              have hwz : w4.heap.size ≤ wr.heap.size := Nat.le_trans HR0.out.hB HR0.out.kept.size
              clear oa HC0
              go_wp2_with (first
                | (at_builtin; refine wpList_append_blk _ rfl _ _ 33 rfl w4.heap.size 9 i0 (.string ⟨#[]⟩) 1 16 Try.underlying33 hi hz0 hz1 hz2 rfl (by decide) u10 (nx + k) cs0 rfl (HOA.out.alloc _) ⟨wr.heap.size, 0, none⟩ 1 1 [.string ⟨#[98, 101, 104, 105, 110, 100]⟩] rfl rfl (cell_one_new _ _ _) (by simp [Value.oneCell']) (by unfold maxLen; omega) (by omega) (by simp; omega) ?_; intro va' wa oa' hga hbka; have H1 : RowsOk S w11 wa w4.heap.size [⟨va', 9, 1, nx + k + 1⟩, ⟨u16, 9, 1, ny + k⟩] := HR0.out.append 0 (by simp) hga oa' hbka; obtain ⟨cx, ox⟩ := H1.own 1 (by simp); have HOX : Hid (wa.ownsRow w4.heap.size 9 1 u16 (ny + k) cx) := ox; have H1' := Lib.hid H1; have hwa : w4.heap.size ≤ wa.heap.size := Nat.le_trans H1.hB H1.kept.size; clear oa' hga hbka H1 ox HOA HR0)
                | (at_builtin; refine wpList_append_blk _ rfl _ _ 33 rfl w4.heap.size 9 i0 (.string ⟨#[]⟩) 1 16 Try.underlying33 hi hz0 hz1 hz2 rfl (by decide) u16 (ny + k) cx rfl (HOX.out.alloc _) ⟨wa.heap.size, 0, none⟩ 1 1 [.string ⟨#[98, 101, 104, 105, 110, 100]⟩] rfl rfl (cell_one_new _ _ _) (by simp [Value.oneCell']) (by unfold maxLen; omega) (by omega) (by simp; omega) ?_; intro vx' wb ox' hgx hbkx; have H2 : RowsOk S w11 wb w4.heap.size [⟨va', 9, 1, nx + k + 1⟩, ⟨vx', 9, 1, ny + k + 1⟩] := H1'.out.append 1 (by simp) hgx ox' hbkx; have H2' := Lib.hid H2; clear ox' hgx hbkx H2 HOX H1'))
              go_roundg (gk - 1)
              case rel => exact ⟨k + 1, by omega, by go_num, H2'.out⟩
              case measure => omega
            · obtain rfl : k = 70 := by omega
              obtain ⟨cs0, oa⟩ := HR0.out.own 0 (by simp)
              obtain ⟨cs1, ox⟩ := HR0.out.own 1 (by simp)
              obtain ⟨pA, kA, rfl⟩ : ∃ pA kA, u10 = .slice pA (nx + 70) kA := own_sl oa
              obtain ⟨pX, kX, rfl⟩ : ∃ pA kA, u16 = .slice pA (ny + 70) kA := own_sl ox
              have HKP := Lib.hid HR0.out.kept
              obtain ⟨y4, y5, y6, y7, y8, y9, y1⟩ := HZ.out
              have hS := HSP.out
              have TB := Lib.hid (TB.out.but HKP.out (fun b off e => by have := V6.out b off e; rw [hS]; omega))
              have TV := Lib.hid (TV.out.but HKP.out (fun b off e => by have := V9.out b off e; rw [hS]; omega))
              have TO := Lib.hid (TO.out.but HKP.out (fun b off e => by have := V7.out b off e; rw [hS]; omega))
              have h4R : Below w4.heap.size w4 wr := HKP.out.below H411.out (by omega) (fun k hk => by rw [hS] at hk; omega)
              have HRHR := Lib.hid (HRH4.out.later h4R)
              have HMKR := Lib.hid (HMK4.out.later h4R)
              have HWR := Lib.hid (HW4.out.later h4R)
              have HBR := Lib.hid (HB4.out.trans (h4R.mono y1))
              clear hS h4R y1 y4 y5 y6 y7 y8 y9 HKP oa ox HC0 HR0 V6 V7 V9 HZ HSP HRH4 HMK4 HW4 HB4 H411
              have c10 := cX1 wr q6 c6 q4 c4 TB.out HWR.out
              clear cX1
              go_wp2_with fail
              refine c10.mono ?_
              rintro e w12 ⟨rfl, hb12⟩
              have HS12 := Lib.hid hb12.size
              have c11 := cX2 w12 q9 c9 q7 c7 (TV.out.later hb12) (TO.out.later hb12)
              have HRHR := Lib.hid (HRHR.out.later hb12)
              have HMKR := Lib.hid (HMKR.out.later hb12)
              have HBR := Lib.hid (HBR.out.trans (hb12.mono HBR.out.size))
              clear hb12 c10 cX2 TB TV TO HWR
              go_wp2_with fail
              refine c11.mono ?_
              rintro e w13 ⟨rfl, hb13⟩
              have c12 := cS w13 ph ch (HBR.out.trans (hb13.mono HBR.out.size)) (HRHR.out.later hb13)
              have HMKR := Lib.hid (HMKR.out.later hb13)
              have HBR := Lib.hid (HBR.out.trans (hb13.mono HBR.out.size))
              clear hb13 c11 cS HRHR
              go_wp2_with fail
              refine c12.mono ?_
              rintro e w14 ⟨rfl, hb14⟩
              have HMKR := Lib.hid (HMKR.out.later hb14)
              have HBR := Lib.hid (HBR.out.trans (hb14.mono HBR.out.size))
              have c13 := cX3 w14 (some ⟨g, 0, none⟩) cap q d HMKR.out.txp.1 (HQ.out.later HBR.out).1
              clear hb14 c12 cX3
              go_wp2_with fail
              refine c13.mono ?_
              rintro e w15 ⟨rfl, hb15⟩
              have hmark := (HMKR.out.later hb15).mark
              rw [HM.out] at hmark
              have HBR := Lib.hid (HBR.out.trans (hb15.mono HBR.out.size))
              have hm1 : (m : Int) + 1 ≤ (cap : Int) := by omega
              have hm2 : (m : Int) < (m : Int) + 1 := by omega
              have hm0 : (0 : Int) ≤ (m : Int) := by omega
              clear hb15 c13 HMKR
              unfold tMark at hmark
              go_wp2_with fail
              go_ret
              exact ⟨rfl, HBR.out⟩
end Go.Proofs.Ytjmnbnlhahbcjaa
