/- ident.Text and ident.Parse, and the document's Text, by contracts. -/
import Derived.Test.YtbcfmckhgjcakaaDoorIdText
import Derived.Test.YtbcfmckhgjcakaaDoorIdCut
import Derived.Test.YtbcfmckhgjcakaaDoorLbParse
import Derived.Test.YtbcfmckhgjcakaaDoorLbAtoi
import Derived.Test.YtbcfmckhgjcakaaDoorLbRefText
import Derived.Test.YtbcfmckhgjcakaaDoorNums
import Derived.Test.YtbcfmckhgjcakaaDoorIdLines
namespace Go.Proofs.YtbcfmckhgjcakaaDoor
open Go Go.RowKit

theorem itoa_any (n : Int) (h0 : -9223372036854775808 ≤ n) (h1 : n ≤ 9223372036854775807) (w : World) (ht : Tabs w) : Calls Tryd.prog 25 #[.int .i64 n] w fun e w' => e = .returned (.string ⟨(Lib.itoa n).toArray⟩) ∧ Below w.heap.size w w' :=
  (Tryd.strconv_Itoa n h0 h1 w ht).mono (fun e w' ⟨he, k, os, hw⟩ => ⟨he, by rw [hw]; exact Lib.below_grow _ w (Nat.le_refl _) k os⟩)
theorem idText_bytes (a : Nat) (n : Int) : (⟨(textN a).toArray⟩ ++ ⟨#[35]⟩ ++ ⟨(Lib.itoa n).toArray⟩ : ByteArray) = ⟨(idText a n).toArray⟩ :=
  WideShapes.bytes_inj (by rw [Joins.data_append, Joins.data_append]; simp [idText])
theorem text_id (w : World) (x : Li) (hx : LiOk x) (hT : BTab w) (hP : Tabs w) (h0 : -9223372036854775808 ≤ x.n) (h1 : x.n ≤ 9223372036854775807) :
    Calls Tryd.prog 8 #[x.agg] w fun e w' => e = .returned (.string ⟨(idText x.u x.n).toArray⟩) ∧ Below w.heap.size w w' := by
  have h := idText_any w x ⟨(Lib.itoa x.n).toArray⟩ hx.u hT (fun W hb => itoa_any x.n h0 h1 W (hP.below hb)) (by
    have := idText_len x.u x.n h0 h1
    unfold maxLen
    simp only [ByteArray.size, List.size_toArray]
    omega)
  rw [idText_bytes] at h
  exact h
set_option maxRecDepth 100000 in
set_option maxHeartbeats 2000000 in
theorem refIdText_any (w : World) (x : Li) (d : ByteArray) (hu : x.u < 18446744073709551616)
    (hI : ∀ W, Below w.heap.size w W → Calls Tryd.prog 25 #[.int .i64 x.n] W fun e w' => e = .returned (.string d) ∧ Below W.heap.size W w') (hlen : (textN x.u).length + 1 + d.size ≤ maxLen) :
    Calls Tryd.prog 9 #[x.agg] w fun e w' => e = .returned (.string (⟨(textN x.u).toArray⟩ ++ ⟨#[35]⟩ ++ d)) ∧ Below w.heap.size w w' := by
  have cL := fun W (hb : Below w.heap.size w W) => refText_any x.u W hu
  unfold Li.agg
  obtain ⟨tx, htx⟩ : ∃ tx, textN x.u = tx := ⟨_, rfl⟩
  rw [htx] at hlen ⊢
  simp only [htx] at cL
  clear htx
  obtain ⟨ta, hta⟩ : ∃ ta : ByteArray, ⟨tx.toArray⟩ = ta := ⟨_, rfl⟩
  have hsz : ta.size = tx.length := by rw [← hta]; simp [ByteArray.size]
  rw [hta]
  simp only [hta] at cL
  clear hta
  have had1 : ∀ W : World, (Op.stringOp .add ta ⟨#[35]⟩).run Tryd.prog W = .ok (.string (ta ++ ⟨#[35]⟩)) W := fun W => run_string_add_sum W _ _ (by
    unfold maxLen at hlen
    rw [hsz, show (⟨#[35]⟩ : ByteArray).size = 1 from rfl]; omega)
  have hsz2 : (ta ++ ⟨#[35]⟩).size = tx.length + 1 := by rw [ByteArray.size_append, hsz]; rfl
  obtain ⟨tb, htb⟩ : ∃ tb : ByteArray, ta ++ ⟨#[35]⟩ = tb := ⟨_, rfl⟩
  rw [htb] at hsz2 ⊢
  simp only [htb] at had1
  clear htb hsz
  have had2 : ∀ W : World, (Op.stringOp .add tb d).run Tryd.prog W = .ok (.string (tb ++ d)) W := fun W => run_string_add_sum W _ _ (by
    unfold maxLen at hlen
    rw [hsz2]; omega)
  obtain ⟨tc, htc⟩ : ∃ tc : ByteArray, tb ++ d = tc := ⟨_, rfl⟩
  rw [htc]
  simp only [htc] at had2
  clear htc hsz2 hlen
  have CL := Lib.hid cL
  have CI := Lib.hid hI
  clear cL hI
  go_enter Tryd.func9, Tryd.ntmps9
  go_wp2_with fail
  have hS : (fun W : World => W.cell? ⟨w.heap.size, 0, none⟩ = some (.int .u64 x.u) ∧ W.cell? ⟨w.heap.size, 1, none⟩ = some (.int .i64 x.n) ∧ Hid (Below w.heap.size w W)) (w.alloc (.cells #[.int .u64 x.u, .int .i64 x.n, .int .i64 x.r, .string x.s] 25)).drew := by
    refine ⟨?_, ?_, Below.drew ((Below.refl w.heap.size w).alloc (Nat.le_refl _) _)⟩
    · show (w.alloc _).cell? _ = _
      rw [World.cell?_alloc_mark]; rfl
    · show (w.alloc _).cell? _ = _
      rw [World.cell?_alloc_mark]; rfl
  refine region_ord (fun W : World => W.cell? ⟨w.heap.size, 0, none⟩ = some (.int .u64 x.u) ∧ W.cell? ⟨w.heap.size, 1, none⟩ = some (.int .i64 x.n) ∧ Hid (Below w.heap.size w W)) [(0, true), (1, true), (4, true), (5, true), (2, false), (3, true), (6, false), (7, true), (8, true)] (by kernel_rfl) (by kernel_rfl) (by kernel_rfl) (by kernel_rfl) hS ?_
  have HS := Lib.hid hS
  clear hS
  iterate 4 (refine ord_take (v := ?_) rfl (by rfl) ?_ ?_; rotate_left; (focus (intro w hSw; (try dsimp only at hSw); go_simp; (try with_reducible rfl); done)); (try simp (maxSteps := 10000000) only [Act.put, List.setIfInBounds_toArray, List.set_cons_zero, List.set_cons_succ]))
  refine ord_call rfl (by rfl) (fun K hK => ?_)
  go_simp
  refine (CL.out _ HS.out.2.2.out).mono ?_
  rintro e u1 ⟨rfl, hb1⟩
  have SK : ∀ {W W' : World}, (W.cell? ⟨w.heap.size, 0, none⟩ = some (.int .u64 x.u) ∧ W.cell? ⟨w.heap.size, 1, none⟩ = some (.int .i64 x.n) ∧ Hid (Below w.heap.size w W)) → Below W.heap.size W W' → (W'.cell? ⟨w.heap.size, 0, none⟩ = some (.int .u64 x.u) ∧ W'.cell? ⟨w.heap.size, 1, none⟩ = some (.int .i64 x.n) ∧ Hid (Below w.heap.size w W')) := fun {W W'} h hb => by
    have hl := World.block_lt_of_cell? W _ h.1
    exact ⟨(hb.cell (p := ⟨w.heap.size, 0, none⟩) hl).trans h.1, (hb.cell (p := ⟨w.heap.size, 1, none⟩) hl).trans h.2.1, h.2.2.out.trans (hb.mono h.2.2.out.size)⟩
  have S1 := Lib.hid (SK HS.out hb1)
  have SKH := Lib.hid (fun W W' => @SK W W')
  clear hb1 HS SK
  go_wp2_with fail
  refine hK.out _ _ S1.out (fun _ => ?_)
  clear hK
  (try simp (maxSteps := 10000000) only [Act.put, List.setIfInBounds_toArray, List.set_cons_zero, List.set_cons_succ])
  (refine ord_take (v := ?_) rfl (by rfl) ?_ ?_; rotate_left; (focus (intro w hSw; (try dsimp only at hSw); go_simp; (try with_reducible rfl); done)); (try simp (maxSteps := 10000000) only [Act.put, List.setIfInBounds_toArray, List.set_cons_zero, List.set_cons_succ]))
  refine ord_call rfl (by rfl) (fun K hK => ?_)
  go_simp
  refine (CI.out _ S1.out.2.2.out).mono ?_
  rintro e u2 ⟨rfl, hb2⟩
  have S2 := Lib.hid (SKH.out _ _ S1.out hb2)
  clear hb2 S1
  go_wp2_with fail
  refine hK.out _ _ S2.out (fun _ => ?_)
  clear hK
  (try simp (maxSteps := 10000000) only [Act.put, List.setIfInBounds_toArray, List.set_cons_zero, List.set_cons_succ])
  iterate 2 (refine ord_take (v := ?_) rfl (by rfl) ?_ ?_; rotate_left; (focus (intro w hSw; (try dsimp only at hSw); go_simp; (try with_reducible rfl); done)); (try simp (maxSteps := 10000000) only [Act.put, List.setIfInBounds_toArray, List.set_cons_zero, List.set_cons_succ]))
  refine ord_end ?_
  have HB := Lib.hid S2.out.2.2.out
  go_wp2_with fail
  go_ret
  exact ⟨rfl, HB.out⟩
theorem refText_id (w : World) (x : Li) (hx : LiOk x) (hP : Tabs w) (h0 : -9223372036854775808 ≤ x.n) (h1 : x.n ≤ 9223372036854775807) :
    Calls Tryd.prog 9 #[x.agg] w fun e w' => e = .returned (.string ⟨(idText x.u x.n).toArray⟩) ∧ Below w.heap.size w w' := by
  have h := refIdText_any w x ⟨(Lib.itoa x.n).toArray⟩ hx.u (fun W hb => itoa_any x.n h0 h1 W (hP.below hb)) (by
    have := idText_len x.u x.n h0 h1
    unfold maxLen
    simp only [ByteArray.size, List.size_toArray]
    omega)
  rw [idText_bytes] at h
  exact h
theorem readAs_lt {s : List UInt8} {a : Nat} {e : Int} (h : ReadAs s a e) : a < 18446744073709551616 := by
  rcases h with ⟨_, h, _⟩ | ⟨_, rfl, _⟩
  · exact h
  · decide
theorem cutAs_len {l x y : List UInt8} {b : Bool} (h : CutAs l x y b) : x.length ≤ l.length ∧ y.length ≤ l.length := by
  rcases h with ⟨_, rfl, _⟩ | ⟨_, rfl, rfl, _⟩
  · simp; omega
  · simp
theorem li_of {a : Nat} {v : Int} (ha : a < 18446744073709551616) (h0 : -9223372036854775808 ≤ v) (h1 : v ≤ 9223372036854775807) : LiOk ⟨a, v, 0, ⟨#[]⟩⟩ := ⟨ha, WalkArith.wf_i64 ⟨h0, h1⟩, WalkArith.wf_i64 (n := 0) (by decide), by unfold maxLen; simp [ByteArray.size]⟩
set_option maxRecDepth 100000 in
set_option maxHeartbeats 2000000 in
theorem parse_id (s : ByteArray) (w : World) (hs : s.size ≤ 281474976710656) (hT : BTab w) (hE : EvW w) (hP : Tabs w) :
    Calls Tryd.prog 6 #[.string s] w fun e w' => ∃ (a : Nat) (n er : Int), e = .returned (.tuple #[.int .u64 a, .int .i64 n, .int .i64 er]) ∧ IdReads s.data.toList a n er ∧ Below w.heap.size w w' := by
  have HT := Lib.hid hT
  have HE := Lib.hid hE
  have HP := Lib.hid hP
  have cC := cut_any s w hs
  clear hT hE hP
  go_enter Tryd.func6, Tryd.ntmps6
  go_wp2_with fail
  refine cC.mono ?_
  rintro e w1 ⟨x, y, b, rfl, hc, k, rfl⟩
  have hb1 : Below w.heap.size w (w.drewN k) := belowDN (Below.refl _ _) k
  have hxl : x.size ≤ 281474976710656 := by have := (cutAs_len hc).1; rw [len_size, len_size] at this; omega
  have hyl : y.size ≤ 281474976710656 := by have := (cutAs_len hc).2; rw [len_size, len_size] at this; omega
  have cL := parse_any x _ hxl (HT.out.below hb1) (HE.out.below hb1)
  have HC := Lib.hid hc
  have HB1 := Lib.hid hb1
  clear cC hc hb1
  go_wp2_with fail
  refine cL.mono ?_
  rintro e w2 ⟨a, er, rfl, hra, hb2⟩
  have HB2 := Lib.hid (HB1.out.trans (hb2.mono HB1.out.size))
  have cA := atoi_any y w2 hyl (HE.out.below HB2.out)
  have HRA := Lib.hid hra
  clear cL hra hb2 HB1
  go_wp2_with fail
  refine cA.mono ?_
  rintro e w3 ⟨v, ae, rfl, hends, hb3⟩
  have HB3 := Lib.hid (HB2.out.trans (hb3.mono HB2.out.size))
  clear cA hb3 HB2
  by_cases her : er = 0
  · subst her
    rcases hends with ⟨rfl, hv⟩ | ⟨⟨t, q, rfl⟩, hno⟩
    · have hbd := Lib.atoiAll_bounds hv
      have HV := Lib.hid hv
      clear hv
      by_cases hlow : v < 1
      · have hr := Lib.hid (id_bad_low HC.out HV.out hlow)
        go_wp2_with fail
        go_ret3
        exact ⟨0, 0, 4, rfl, hr.out, HB3.out⟩
      · have ha := readAs_lt HRA.out
        have cT := text_id w3 ⟨a, v, 0, ⟨#[]⟩⟩ (li_of ha hbd.1 hbd.2) (HT.out.below HB3.out) (HP.out.below HB3.out) hbd.1 hbd.2
        unfold Li.agg at cT
        simp only at cT
        by_cases ht : idText a v = s.data.toList
        · have e : (⟨(idText a v).toArray⟩ : ByteArray) = s := by rw [ht]
          rw [e] at cT
          have hr := Lib.hid (id_good HRA.out HV.out (by omega) ht)
          clear e ht
          go_wp2_with fail
          refine cT.mono ?_
          rintro e w4 ⟨rfl, hb4⟩
          have HB4 := Lib.hid (HB3.out.trans (hb4.mono HB3.out.size))
          clear cT hb4
          go_wp2_with fail
          go_ret3
          exact ⟨a, v, 0, rfl, hr.out, HB4.out⟩
        · have hr := Lib.hid (id_bad_text HC.out HRA.out HV.out ht)
          have hne : (⟨(idText a v).toArray⟩ : ByteArray) ≠ s := by
            intro e; apply ht; rw [← e]
          generalize (⟨(idText a v).toArray⟩ : ByteArray) = tx at *
          have hne2 : ¬ tx.toList = s.toList := by
            rw [ByteArray.toList_eq, ByteArray.toList_eq]
            intro e; apply hne
            cases tx with
            | mk d => cases s with
              | mk d' => congr 1; apply Array.toList_inj.1; exact e
          have hne3 : (tx.toList == s.toList) = false := beq_false_of_ne hne2
          have hne4 : (tx.toList != s.toList) = true := by rw [bne, hne3]; rfl
          clear hne hne2 ht
          go_wp2_with fail
          refine cT.mono ?_
          rintro e w4 ⟨rfl, hb4⟩
          have HB4 := Lib.hid (HB3.out.trans (hb4.mono HB3.out.size))
          clear cT hb4
          go_wp2_with fail
          go_ret3
          exact ⟨0, 0, 4, rfl, hr.out, HB4.out⟩
    · have hr := Lib.hid (id_bad_num HC.out hno)
      clear hno
      go_wp2_with fail
      go_ret3
      exact ⟨0, 0, 4, rfl, hr.out, HB3.out⟩
  · have hr := Lib.hid (id_bad_label HC.out HRA.out her)
    have hne : (er != 0) = true := by rw [bne, beq_false_of_ne her]; rfl
    clear hends her
    go_wp2_with fail
    go_ret3
    exact ⟨0, 0, 4, rfl, hr.out, HB3.out⟩
end Go.Proofs.YtbcfmckhgjcakaaDoor
