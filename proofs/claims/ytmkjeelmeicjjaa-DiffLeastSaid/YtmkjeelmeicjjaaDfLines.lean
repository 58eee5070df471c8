/- diff.Lines: the patch between two lists. -/
import Derived.Test.YtmkjeelmeicjjaaDfLinesP
import Derived.Test.YtmkjeelmeicjjaaStepBlk
import Derived.Laws.StructEq
namespace Go.Proofs.Ytmkjeelmeicjjaa
open Go Go.RowKit

theorem eqPair (x y i j : Int) (w : World) : (Op.equalIn 10000 50 (.agg #[.int .i64 x, .int .i64 y]) (.agg #[.int .i64 i, .int .i64 j])).run Try.prog w = .ok (decide (x = i) && decide (y = j)) w := by
  have e := run_underlying (P := Try.prog) Try.underlying50
  have h : ∀ (a b : Int) (w : World), (Op.equalIn 9999 3 (.int .i64 a) (.int .i64 b)).run Try.prog w = .ok (a == b) w := fun a b w => run_equalIn_int (P := Try.prog) (w := w) 9998 3 .i64 .i64 a b Try.underlying3
  have r2 : List.range' 0 2 = [0, 1] := rfl
  unfold Op.equalIn
  by_cases e1 : x = i
  · by_cases e2 : y = j
    · simp [Sem.run_bind, e, Result.andThen, r2, part, h, e1, e2]
    · simp [Sem.run_bind, e, Result.andThen, r2, part, h, e1, e2]
  · simp [Sem.run_bind, e, Result.andThen, r2, part, h, e1]
theorem hk_cells_new (w : World) (k : Int) (u v : Value) (T : TypeId) : ∀ i x, [Value.int .i64 k, u, v][i]? = some x → (w.alloc (.cells #[.int .i64 k, u, v] T)).cell? ((⟨w.heap.size, 0, none⟩ : Addr).add i) = some x := by
  intro i x hk
  match i, hk with
  | 0, hk => simp at hk; subst hk; simp [Addr.add]
  | 1, hk => simp at hk; subst hk; simp [Addr.add]
  | 2, hk => simp at hk; subst hk; simp [Addr.add]
/-- The pair's box. -/
def BoxP (g x y : Nat) (W : World) : Prop := W.cell? ⟨g, 0, none⟩ = some (.int .i64 x) ∧ W.cell? ⟨g, 1, none⟩ = some (.int .i64 y)
theorem BoxP.keep {W W' : World} {g x y : Nat} (h : BoxP g x y W) (hb : Below W.heap.size W W') : BoxP g x y W' :=
  ⟨(hb.cell (p := ⟨g, 0, none⟩) (World.block_lt_of_cell? _ _ h.1)).trans h.1, (hb.cell (p := ⟨g, 1, none⟩) (World.block_lt_of_cell? _ _ h.2)).trans h.2⟩
theorem BoxP.grown {W W' : World} {g x y : Nat} {row : Option Nat} (h : BoxP g x y W) (hg : W.grownBy W' row) (hne : some g ≠ row) : BoxP g x y W' := by
  have hb := hg.block g (World.block_lt_of_cell? _ _ h.1) hne
  exact ⟨(World.cell?_of_block (a := ⟨g, 0, none⟩) hb).trans h.1, (World.cell?_of_block (a := ⟨g, 1, none⟩) hb).trans h.2⟩
theorem boxP_new (w : World) (x y : Nat) (T : TypeId) : BoxP w.heap.size x y (w.alloc (.cells #[.int .i64 (x : Nat), .int .i64 (y : Nat)] T)) := ⟨by simp, by simp⟩
theorem HkOwn.mono {B B' : Nat} {W : World} {v : Value} {hs : List (Hk Tx)} {us : List (Value × Value)} (h : HkOwn B W v hs us) (hB : B' ≤ B) : HkOwn B' W v hs us :=
  ⟨h.len, own_mono h.row hB, fun i hi hi' => ⟨own_mono (h.subs i hi hi').1 hB, own_mono (h.subs i hi hi').2 hB⟩, h.dis, h.top⟩
theorem HkOwn.all_lt {B : Nat} {W : World} {v : Value} {hs : List (Hk Tx)} {us : List (Value × Value)} (h : HkOwn B W v hs us) : ∀ x ∈ v :: flatV us, ∀ g, x.ownBlock = some g → g < W.heap.size := fun x hx g hg => by
  rcases List.mem_cons.1 hx with rfl | hx
  · exact (h.row.lt g hg).2
  · exact (h.lt x hx g hg).2
set_option maxRecDepth 100000 in
set_option maxHeartbeats 4000000 in
theorem lines_any (w : World) (p q : Option Addr) (n m c d : Nat) (a b : List Tx) (hn : a.length = n) (hm : b.length = m) (hnb : n ≤ 8796093022200) (hmb : m ≤ 8796093022200) (hp : StrRow w p a) (hq : StrRow w q b) (hpn : p = none → n = 0 ∧ c = 0) (hqn : q = none → m = 0 ∧ d = 0) (hnc : n ≤ c) (hmd : m ≤ d) (hsz : ∀ t ∈ a ++ b, t.size ≤ maxLen) :
    Calls Try.prog 20 #[.slice p n c, .slice q m d] w (GivesHk w (patch a b)) := by
  obtain ⟨i0, hi, hz0, hz1, hz2⟩ := info_parts prInfo
  obtain ⟨i1, hj, hy0, hy1, hy2⟩ := info_parts hkInfo
  have cC := common_any w p q n m c d a b hn hm (by omega) (by omega) hp hq hpn hqn hnc hmd hsz
  have hcl : (comm a b).length ≤ n := by
    rw [comm_eq]
    have := midQ_len a b
    have := suf_le a b
    have := pre_le a b
    simp only [List.length_append, diagP_len, sh, List.length_map]
    omega
  have hch := ends_ch a b
  rw [hn, hm] at hch
  have hpt : hks a b 0 0 (ends a b) = patch a b := rfl
  have hen : ends a b = comm a b ++ [(n, m)] := by unfold ends; rw [hn, hm]
  have hsm := patch_small a b
  have HN := Lib.hid hn
  have HM := Lib.hid hm
  have HP := Lib.hid hp
  have HQ := Lib.hid hq
  have HCH := Lib.hid hch
  have HPT := Lib.hid hpt
  have HEN := Lib.hid hen
  clear hn hm hp hq hch hpt hen
  go_enter Try.func20, Try.ntmps20
  go_wp2_with fail
  refine cC.mono ?_
  rintro e w1 ⟨hb1, p1, c1, rfl, hr1, ho1⟩
  have hs1 := hb1.size
  have HB1 := Lib.hid hb1
  clear cC hb1 hr1
  go_wp2_with (at_builtin; refine wpList_append_own _ rfl _ _ 42 rfl w.heap.size 50 i0 (.agg #[.int .i64 0, .int .i64 0]) 2 16 Try.underlying42 hi hz0 hz1 hz2 rfl (by decide) _ _ _ rfl (ho1.alloc _) ⟨w1.heap.size, 0, none⟩ 1 1 [.int .i64 (n : Nat), .int .i64 (m : Nat)] rfl rfl (pr_cells_new _ _ _ _) (by simp [Value.oneCell']) (by unfold maxLen; omega) (by omega) (by simp; omega) ?_)
  intro v2 w2 ho2 hgr2 _
  have hb2 : Below w.heap.size w w2 := (HB1.out.alloc hs1 _).grown hgr2 (by simp; omega) (fun g hg => (ho1.lt g hg).1)
  have hel : (ends a b).length = (comm a b).length + 1 := by rw [HEN.out]; simp
  have ho2' : w2.ownsRow w.heap.size 50 2 v2 (ends a b).length (prCells (ends a b)) := by
    rw [hel, HEN.out, prCells_app]; exact ho2
  obtain ⟨pe, ce, rfl, hre⟩ := pr_owned rfl ho2'
  have HRE := Lib.hid hre
  have HB2 := Lib.hid hb2
  have hs2 := hb2.size
  have hnb1 : (ends a b).length ≤ 8796093022208 := by omega
  clear ho1 ho2 ho2' hgr2 hb2 hre HB1 hel hcl
  obtain ⟨L, hL⟩ : ∃ L, (ends a b).length = L := ⟨_, rfl⟩
  rw [hL] at hnb1
  rw [hL]
  go_wp2_with fail
  go_loopg [5, 6, 7, 21] L (fun g v iv jv vi wr => ∃ (t i j : Nat) (hs : List (Hk Tx)) (us : List (Value × Value)), t + g = L ∧ vi = .int .i64 t ∧ iv = .int .i64 i ∧ jv = .int .i64 j ∧ i ≤ n + 1 ∧ j ≤ m + 1 ∧ Below w2.heap.size w2 wr ∧ Hid (HkOwn w2.heap.size wr v hs us) ∧ Hid (hs ++ hks a b i j ((ends a b).drop t) = patch a b) ∧ Hid (Ch n m i j ((ends a b).drop t)))
  case atStart => exact ⟨0, 0, 0, [], [], by omega, rfl, rfl, rfl, by omega, by omega, Below.refl _ _, HkOwn.nil _ _, HPT.out, HCH.out⟩
  case round =>
    obtain ⟨t, i, j, hs, us, ht, rfl, rfl, rfl, hin, hjm, hbr, HO, HW, HX⟩ := hrel
    have hsr := hbr.size
    have hbw : Below w.heap.size w wr := HB2.out.trans (hbr.mono hs2)
    by_cases hlt : t < L
    · have hlt' : t < (ends a b).length := by rw [hL]; exact hlt
      obtain ⟨b1, o1, rfl, hb1, h1c⟩ := HRE.out.at t hlt'
      obtain ⟨g1, g2⟩ := h1c wr hbr
      have hx := HX.out
      have hw := HW.out
      rw [List.drop_eq_getElem_cons hlt'] at hx hw
      generalize (ends a b)[t] = qq at *
      obtain ⟨x, y⟩ := qq
      obtain ⟨hix, hjy, hxn, hym, hch⟩ := hx
      simp only at hix hjy hxn hym g1 g2
      rw [hks_cons] at hw
      have HCH2 := Lib.hid hch
      have htI : (t : Int) < (L : Int) := by omega
      have ht0 : (0 : Int) ≤ (t : Int) := by omega
      have hhl : hs.length ≤ 1048578 := by
        have := congrArg List.length HW.out
        rw [List.length_append] at this
        omega
      by_cases he : (x, y) = (i, j)
      · rw [if_pos he, List.nil_append] at hw
        injection he with e1 e2
        subst e1 e2
        have HW2 := Lib.hid hw
        have HB := Lib.hid hbr
        have heq : ∀ W : World, (Op.equalIn 10000 50 (.agg #[.int .i64 (x : Nat), .int .i64 (y : Nat)]) (.agg #[.int .i64 (x : Nat), .int .i64 (y : Nat)])).run Try.prog W = .ok true W := fun W => by rw [eqPair]; simp
        clear h1c hch hw HX HW hbr hbw
        go_wp2_with fail
        go_quiet (fail)
        go_wp2
        go_roundg (gk - 1)
        case rel => exact ⟨t + 1, x + 1, y + 1, hs, us, by omega, by go_num, by go_num, by go_num, by omega, by omega, belowDN (HB.out.alloc hsr _) _, by show HkOwn _ _ _ _ _; exact HO.out.later (belowDN ((Below.refl _ _).alloc (Nat.le_refl _) _) _), HW2.out, HCH2.out⟩
        case measure => omega
      · rw [if_neg he] at hw
        have heq : ∀ W : World, (Op.equalIn 10000 50 (.agg #[.int .i64 (x : Nat), .int .i64 (y : Nat)]) (.agg #[.int .i64 (i : Nat), .int .i64 (j : Nat)])).run Try.prog W = .ok false W := fun W => by
          rw [eqPair]
          congr 1
          by_cases e1 : (x : Int) = (i : Int)
          · have e2 : ¬ (y : Int) = (j : Int) := fun e2 => he (by rw [Prod.mk.injEq]; omega)
            simp [e1, e2]
          · simp [e1]
        have hw' : (hs ++ [⟨i, seg a i x, seg b j y⟩]) ++ hks a b (x + 1) (y + 1) ((ends a b).drop (t + 1)) = patch a b := by rw [List.append_assoc]; exact hw
        have HW2 := Lib.hid hw'
        have hl1 : (seg a i x).length = x - i := seg_len a i x (by rw [HN.out]; exact hxn)
        have hl2 : (seg b j y).length = y - j := seg_len b j y (by rw [HM.out]; exact hym)
        have r1 := fun W (hb : Below w.heap.size w W) => (show StrRow W (cutA p c i) (seg a i x) by rw [seg_eq]; exact cut_row (HP.out.later hb) HN.out hnc i (x - i) (by omega))
        have r2 := fun W (hb : Below w.heap.size w W) => (show StrRow W (cutA q d j) (seg b j y) by rw [seg_eq]; exact cut_row (HQ.out.later hb) HM.out hmd j (y - j) (by omega))
        have z1 := fun e => cut_nil (i := i) hpn (x - i) (by omega) e
        have z2 := fun e => cut_nil (i := j) hqn (y - j) (by omega) e
        have cA := fun W (hb : Below w.heap.size w W) => copied_any W (cutA p c i) (x - i) (c - i) (seg a i x) hl1 (by omega) (r1 W hb) z1
        have cB := fun W (hb : Below w.heap.size w W) => copied_any W (cutA q d j) (y - j) (d - j) (seg b j y) hl2 (by omega) (r2 W hb) z2
        obtain ⟨A, hA⟩ : ∃ A, cutA p c i = A := ⟨_, rfl⟩
        obtain ⟨C, hC⟩ : ∃ C, cutA q d j = C := ⟨_, rfl⟩
        obtain ⟨n1, hn1⟩ : ∃ n1, x - i = n1 := ⟨_, rfl⟩
        obtain ⟨n2, hn2⟩ : ∃ n2, y - j = n2 := ⟨_, rfl⟩
        obtain ⟨k1, hk1⟩ : ∃ k1, c - i = k1 := ⟨_, rfl⟩
        obtain ⟨k2, hk2⟩ : ∃ k2, d - j = k2 := ⟨_, rfl⟩
        rw [hA, hn1, hk1] at cA
        rw [hC, hn2, hk2] at cB
        rw [hn1] at hl1
        rw [hn2] at hl2
        unfold cutA at hA hC
        have hixI : (i : Int) ≤ (x : Int) := by omega
        have hjyI : (j : Int) ≤ (y : Int) := by omega
        have hxc : (x : Int) ≤ (c : Int) := by omega
        have hyd : (y : Int) ≤ (d : Int) := by omega
        have hi0 : (0 : Int) ≤ (i : Int) := by omega
        have hj0 : (0 : Int) ≤ (j : Int) := by omega
        have hS0 := boxP_new wr x y 50
        have hbw0 : Below w.heap.size w (wr.alloc (.cells #[.int .i64 (x : Nat), .int .i64 (y : Nat)] 50)) := hbw.alloc (by omega) _
        have hb20 : Below w2.heap.size w2 (wr.alloc (.cells #[.int .i64 (x : Nat), .int .i64 (y : Nat)] 50)) := hbr.alloc hsr _
        have HH0 : HkOwn w2.heap.size (wr.alloc (.cells #[.int .i64 (x : Nat), .int .i64 (y : Nat)] 50)) u5 hs us := HO.out.later ((Below.refl _ _).alloc (Nat.le_refl _) _)
        have hne : some wr.heap.size ≠ u5.ownBlock := fun e => by have := (HO.out.row.lt _ e.symm).2; omega
        have hlo := Lib.hid HO.out.all_lt
        have hsz0 : (wr.alloc (.cells #[.int .i64 (x : Nat), .int .i64 (y : Nat)] 50)).heap.size = wr.heap.size + 1 := by simp
        have HL := Lib.hid (show (seg a i x).length = n1 ∧ (seg b j y).length = n2 from ⟨hl1, hl2⟩)
        clear hl1 hl2 r1 r2 z1 z2 hw hw' hch h1c HX HW HO hbr hbw he
        go_wp2_with fail
        generalize wr.alloc (.cells #[.int .i64 (x : Nat), .int .i64 (y : Nat)] 50) = W0 at *
        generalize wr.heap.size = gb at *
        have hS1 : BoxP gb x y W0.drew := BoxP.keep hS0 (Below.drew (Below.refl _ _))
        go_region_held3 (fun W => W.cell? ⟨gb, 0, none⟩ = some (.int .i64 (x : Nat)) ∧ W.cell? ⟨gb, 1, none⟩ = some (.int .i64 (y : Nat)))
          (first | exact (hS1 : BoxP gb x y W0.drew) | exact hS2 | exact hS3 | exact hS4 | exact hS5 | go_keep)
          (first
            | (go_at_call 38; refine (cA _ (Below.drew hbw0)).mono ?_; rintro e w3 ⟨hb3, v1, rfl, ho3⟩; obtain ⟨q1, d1, rfl⟩ := own_sl ho3; have hS2 : BoxP gb x y w3 := BoxP.keep hS1 hb3; have hbw3 := (Below.drew hbw0).trans (hb3.mono (Below.drew hbw0).size))
            | (go_at_call 38; refine (cB _ hbw3).mono ?_; rintro e w4 ⟨hb4, v2, rfl, ho4⟩; obtain ⟨q2, d2, rfl⟩ := own_sl ho4; have hS3 : BoxP gb x y w4 := BoxP.keep hS2 hb4; have hS4 := BoxP.keep hS3 ((Below.refl _ _).alloc (Nat.le_refl _) (.cells #[.int .i64 (i : Nat), .slice q1 n1 d1, .slice q2 n2 d2] 41)); have HH4 := (HH0.later (Below.drew (Below.refl _ _))).later (hb3.trans (hb4.mono hb3.size)))
            | (refine step_append_blk rfl _ _ 36 rfl w2.heap.size 41 i1 (.agg #[.int .i64 0, .slice none 0 0, .slice none 0 0]) 3 56 Try.underlying36 hj hy0 hy1 hy2 rfl (by decide) _ hs.length _ rfl (HH4.row.alloc _) ⟨w4.heap.size, 0, none⟩ 1 1 [.int .i64 (i : Nat), .slice q1 n1 d1, .slice q2 n2 d2] rfl rfl (hk_cells_new _ _ _ _ _) (by simp [Value.oneCell']) (by unfold maxLen; omega) (by omega) (by have h1 : W0.heap.size ≤ w3.heap.size := hb3.size; have h2 := hb4.size; have h3 := hb20.size; rw [World.size_alloc]; omega) ?_; intro u' w5 hown5 hgr5 hbk5; have hS5 : BoxP gb x y w5 := BoxP.grown hS4 hgr5 hne))
        have h13 : W0.heap.size ≤ w3.heap.size := hb3.size
        have h34 := hb4.size
        have h20 := hb20.size
        have p3 := own_mono (row_later ho3 hb4) (show w2.heap.size ≤ W0.drew.heap.size from h20)
        have p4 := own_mono ho4 (Nat.le_trans h20 h13)
        have p3' : w4.ownsRow w2.heap.size 9 1 (.slice q1 n1 d1) (seg a i x).length ((seg a i x).map Value.string) := by rw [HL.out.1]; exact p3
        have p4' : w4.ownsRow w2.heap.size 9 1 (.slice q2 n2 d2) (seg b j y).length ((seg b j y).map Value.string) := by rw [HL.out.2]; exact p4
        have hpush := HkOwn.push (k := i) HH4 hlo.out p3' p4' (fun g hg => by
          have := (ho3.lt g hg).1
          have h : W0.heap.size ≤ g := this
          omega) (fun g hg => ⟨by
          have := (ho4.lt g hg).1
          omega, fun e => by
          have h1 := (ho4.lt g hg).1
          have h2 := (ho3.lt g e).2
          omega⟩) hgr5 hown5 hbk5
        have HPU := Lib.hid hpush
        have hb5 : Below w2.heap.size w2 w5 := ((((Below.drew hb20).trans (hb3.mono (show w2.heap.size ≤ W0.drew.heap.size from h20))).trans (hb4.mono (Nat.le_trans h20 h13))).alloc (by omega) _).grown hgr5 (by rw [World.size_alloc]; omega) (fun g hg => (HH4.row.lt g hg).1)
        have HB5 := Lib.hid hb5
        clear hpush hb5 p3 p4 p3' p4' ho3 ho4 hgr5 hown5 hbk5 HH4 hb3 hb4 hbw3 hS0 hS2 hS3 hS4 HH0 hb20 hbw0 hlo h13 h34 h20 cA cB hA hC heq hsz0
        have z5 := hS5.1
        have z6 := hS5.2
        clear hS1 hS5 hne
        go_wp2_with fail
        go_quiet (fail)
        go_wp2
        go_roundg (gk - 1)
        case rel => exact ⟨t + 1, x + 1, y + 1, hs ++ [(⟨i, seg a i x, seg b j y⟩ : Hk Tx)], us ++ [(.slice q1 n1 d1, .slice q2 n2 d2)], by omega, by go_num, by go_num, by go_num, by omega, by omega, belowDN HB5.out _, by show HkOwn _ _ _ _ _; exact HPU.out.later (belowDN (Below.refl _ _) _), HW2.out, HCH2.out⟩
        case measure => omega
    · obtain rfl : t = L := by omega
      have hend : (ends a b).drop t = [] := by rw [← hL]; exact List.drop_length
      have hhs : hs = patch a b := by
        have := HW.out
        rw [hend] at this
        simpa [hks] using this
      have hho := HO.out
      rw [hhs] at hho
      obtain ⟨ph, ch, rfl, hrh⟩ := hho.reads
      have HGV : Hid (GivesHk w (patch a b) (.returned (.slice ph (patch a b).length ch)) wr) := ⟨hbw, ph, ch, us, rfl, hrh, hho.mono hs2⟩
      clear hho hrh hend HW HX HO hbr hbw
      go_wp2_with fail
      go_ret
      exact HGV.out
end Go.Proofs.Ytmkjeelmeicjjaa
