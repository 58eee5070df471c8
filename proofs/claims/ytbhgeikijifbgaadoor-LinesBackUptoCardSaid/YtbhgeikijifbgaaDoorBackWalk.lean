/- The law LinesBack by a walk over the contracts. -/
import Derived.Test.YtbhgeikijifbgaaDoorBackPlain
import Derived.Deep.DeepCutAuto
namespace Go.Proofs.YtbhgeikijifbgaaDoor
open Go.RowKit

/-- Cut at any text: a slice that holds the texts, or none. -/
def CutSays (w : World) (s : ByteArray) : Prop := ∀ W, Wd w W → Calls Tryd.prog 19 #[.string s] W fun e w' => ∃ p n c x, e = .returned (.tuple #[.slice p n c, .int .i64 x]) ∧ Wd w w' ∧
  ((x = 4 ∧ True) ∨ (x = 0 ∧ ∃ ss : List ByteArray, ss.length = n ∧ StrRow w' p ss ∧ sizeOf' ss ≤ s.size ∧ joinL (listsOf ss) = s.data.toList))
theorem texts_lists (ls : List (List UInt8)) : listsOf (asTexts ls) = ls := by
  unfold listsOf asTexts
  rw [List.map_map]
  conv => rhs; rw [← List.map_id ls]
  rfl
theorem row_made (W : World) (ls : List (List UInt8)) : StrRow (W.alloc (rowOf ls)) (some ⟨W.heap.size, 0, none⟩) (asTexts ls) := fun i hi => by
  refine ⟨W.heap.size, 0, rfl, by simp, ?_⟩
  unfold rowOf
  rw [Nat.zero_add, World.cell?_alloc_mark]
  simp only [List.getElem?_toArray, List.getElem?_map]
  rw [List.getElem?_eq_getElem hi]; rfl
theorem size_join (ss : List ByteArray) : sizeOf' ss = (joinL (listsOf ss)).length := (join_len _).symm
theorem cut_says (w : World) (s : ByteArray) (hs : s.size < 4294967281) : CutSays w s := fun W hW => by
  by_cases h0 : 1 ≤ s.size
  · cases hl : (s.data.toList.getLast? == some 10)
    · exact (cut_bad s W (by unfold maxLen; omega) h0 hl).mono fun e w' ⟨he, hw⟩ => ⟨none, 0, 0, 4, he, hw ▸ hW, .inl ⟨rfl, trivial⟩⟩
    · refine (cut_good s W hs hW.2.1 h0 hl).mono fun e w' ⟨he, hw⟩ => ⟨_, _, _, 0, he, ?_, .inr ⟨rfl, asTexts (piecesL s.data.toList.dropLast), by unfold asTexts; simp, ?_, ?_, ?_⟩⟩
      · rw [hw]; exact Wd.next ((Below.refl _ _).alloc (Nat.le_refl _) _) hW
      · rw [hw]; exact row_made W _
      · rw [size_join, texts_lists, join_cut _ hl, len_size]; exact Nat.le_refl _
      · rw [texts_lists, join_cut _ hl]
  · refine (cut_empty s W h0).mono fun e w' ⟨he, hw⟩ => ⟨none, 0, 0, 0, he, hw ▸ hW, .inr ⟨rfl, [], rfl, fun i hi => absurd hi (Nat.not_lt_zero _), by simp [sizeOf', listsOf], ?_⟩⟩
    exact (List.eq_nil_of_length_eq_zero (by rw [len_size]; omega)).symm

/-- Joined over a slice that holds these texts. -/
theorem joined_says {w W : World} (hW : Wd w W) {p : Option Addr} {n c : Nat} {ss : List ByteArray} (hn : ss.length = n) (hr : StrRow W p ss) (hz : sizeOf' ss ≤ 1048576) :
    Calls Tryd.prog 24 #[.slice p n c] W fun e w' => e = .returned (.string ⟨(joinL (listsOf ss)).toArray⟩) ∧ Wd w w' ∧ Below W.heap.size W w' := by
  subst hn
  exact (joined_any W p c ss hr hz).mono fun _ _ ⟨h1, h2⟩ => ⟨h1, Wd.next h2 hW, h2⟩

/-- The texts that may be a line's, among the first k. -/
def keepTo (ss : List ByteArray) (k : Nat) : List ByteArray := (ss.take k).filter fun s => textL s.data.toList
theorem keep_yes (ss : List ByteArray) (k : Nat) (h : k < ss.length) (ht : textL ss[k].data.toList = true) : keepTo ss (k + 1) = keepTo ss k ++ [ss[k]] := by
  unfold keepTo
  rw [List.take_succ_eq_append_getElem h, List.filter_append]
  simp [ht]
theorem keep_no (ss : List ByteArray) (k : Nat) (h : k < ss.length) (ht : textL ss[k].data.toList = false) : keepTo ss (k + 1) = keepTo ss k := by
  unfold keepTo
  rw [List.take_succ_eq_append_getElem h, List.filter_append]
  simp [ht]
theorem keep_len (ss : List ByteArray) (k : Nat) : (keepTo ss k).length ≤ ss.length := by
  unfold keepTo
  have h1 := List.length_filter_le (fun s : ByteArray => textL s.data.toList) (ss.take k)
  rw [List.length_take] at h1; omega
theorem filter_size (ss : List ByteArray) (q : ByteArray → Bool) : sizeOf' (ss.filter q) ≤ sizeOf' ss := by
  induction ss with
  | nil => simp [sizeOf', listsOf]
  | cons s ss ih =>
    rw [List.filter_cons]
    unfold sizeOf' listsOf at ih ⊢
    split
    · simp only [List.map_cons, List.sum_cons]; omega
    · simp only [List.map_cons, List.sum_cons]; omega
theorem keep_size (ss : List ByteArray) : sizeOf' (keepTo ss ss.length) ≤ sizeOf' ss := by
  unfold keepTo
  rw [List.take_of_length_le (Nat.le_refl _)]
  exact filter_size _ _
theorem keep_clean (ss : List ByteArray) (k : Nat) : ∀ l ∈ listsOf (keepTo ss k), l.contains 10 = false := fun l hl => by
  unfold listsOf keepTo at hl
  obtain ⟨s, hs, rfl⟩ := List.mem_map.1 hl
  have := (List.mem_filter.1 hs).2
  unfold textL at this
  simp only [Bool.and_eq_true, Bool.not_eq_true'] at this
  exact this.2
theorem wd_of {w W : World} (hT : Tabs w) (hM : MaxS w) (hb : Below w.heap.size w W) : Wd w W := ⟨hT.below hb, hM.below hb, hb⟩
theorem strInfo : (Tryd.prog.info? 9).map (fun i => (i.zero, i.size, i.bytes)) = some (some (.string ⟨#[]⟩), 1, 16) := by kernel_rfl
/-- A row of texts that the call itself owns, as a slice that holds them. -/
theorem row_owned {W : World} {B : Nat} {e : TypeId} {v : Value} {ks : List ByteArray} (h : W.ownsRow B e 1 v ks.length (ks.map Value.string)) : ∃ p c, v = .slice p ks.length c ∧ StrRow W p ks := by
  rcases h.2 with ⟨hv, h0⟩ | ⟨g, cap, cur, hv, _⟩
  · refine ⟨none, 0, by rw [hv, h0], fun i hi => ?_⟩
    omega
  · refine ⟨some ⟨g, 0, none⟩, cap, hv, fun i hi => ?_⟩
    subst hv
    have hc := h.cellAt i (by omega)
    rw [List.getElem?_map, List.getElem?_eq_getElem hi] at hc
    have hlt := World.block_lt_of_cell? W _ (show W.cell? ⟨g, i, none⟩ = some (.string ks[i]) from hc)
    exact ⟨g, 0, rfl, hlt, by rw [Nat.zero_add]; exact hc⟩
theorem StrRow.later {w W : World} {p : Option Addr} {ss : List ByteArray} (h : StrRow w p ss) (hb : Below w.heap.size w W) : StrRow W p ss := fun i hi => by
  obtain ⟨b, off, e, hlt, hc⟩ := h i hi
  exact ⟨b, off, e, Nat.lt_of_lt_of_le hlt hb.size, (hb.cell (p := ⟨b, off + i, none⟩) hlt).trans hc⟩
/-- Cut of texts joined, none of which has a byte 0A: those texts. -/
theorem cut_joined (w W : World) (hW : Wd w W) (ks : List ByteArray) (hz : sizeOf' ks ≤ 1048576) (hc : ∀ l ∈ listsOf ks, l.contains 10 = false) :
    Calls Tryd.prog 19 #[.string ⟨(joinL (listsOf ks)).toArray⟩] W fun e w' => ∃ p n c, e = .returned (.tuple #[.slice p n c, .int .i64 0]) ∧ Below W.heap.size W w' ∧ ks.length = n ∧ StrRow w' p ks := by
  have hs : (⟨(joinL (listsOf ks)).toArray⟩ : ByteArray).size ≤ 1048576 := by rw [← len_size, show (⟨(joinL (listsOf ks)).toArray⟩ : ByteArray).data.toList = joinL (listsOf ks) from rfl, ← size_join]; exact hz
  have e1 : ∀ ls : List ByteArray, asTexts (listsOf ls) = ls := fun ls => by
    unfold asTexts listsOf
    rw [List.map_map]
    conv => rhs; rw [← List.map_id ls]
    rfl
  by_cases hk : ks = []
  · subst hk
    refine (cut_empty _ W (by decide)).mono fun e w' ⟨he, hw⟩ => ⟨none, 0, 0, he, hw ▸ Below.refl _ _, rfl, fun i hi => absurd hi (Nat.not_lt_zero _)⟩
  · have hne : listsOf ks ≠ [] := by unfold listsOf; simpa using hk
    have hl := join_last _ hne
    have hp := cut_join _ hc hne
    have h0 : 1 ≤ (⟨(joinL (listsOf ks)).toArray⟩ : ByteArray).size := by
      rw [← len_size]
      show 1 ≤ (joinL (listsOf ks)).length
      cases hj : joinL (listsOf ks) with
      | nil => rw [hj] at hl; cases hl
      | cons a t => simp
    refine (cut_good _ W (by omega) hW.2.1 h0 (by rw [show (⟨(joinL (listsOf ks)).toArray⟩ : ByteArray).data.toList = joinL (listsOf ks) from rfl, hl]; rfl)).mono fun e w' ⟨he, hw⟩ => ⟨_, _, _, he, ?_, ?_, ?_⟩
    · rw [hw]; exact (Below.refl _ _).alloc (Nat.le_refl _) _
    · rw [show (⟨(joinL (listsOf ks)).toArray⟩ : ByteArray).data.toList = joinL (listsOf ks) from rfl, hp]; simp [listsOf]
    · rw [hw, show (⟨(joinL (listsOf ks)).toArray⟩ : ByteArray).data.toList = joinL (listsOf ks) from rfl, hp]
      have := row_made W (listsOf ks)
      rw [e1] at this
      exact this

set_option maxRecDepth 100000 in
set_option maxHeartbeats 8000000 in
theorem linesBack_any (w : World) (n : Int) (s tail : ByteArray) (p : Option Addr) (c : Nat) (ss : List ByteArray) (hT : Tabs w) (hM : MaxS w) (h0 : -9223372036854775808 ≤ n) (h1 : n ≤ 9223372036854775807)
    (hs : s.size ≤ 1048576) (ht : tail.size ≤ 1048576) (hr : StrRow w p ss) (hz : sizeOf' ss ≤ 1048576) (hlen : ss.length ≤ 1048576) :
    Calls Tryd.prog 6 #[.int .i64 n, .string s, .string tail, .slice p ss.length c] w fun e w' => e = .returned (.bool true) ∧ Below w.heap.size w w' := by
  have hw0 : Wd w w := ⟨hT, hM, Below.refl _ _⟩
  have c1 := works_any w
  have c2 : Tells w 13 #[.int .i64 n] _ := tells_of fun W hW => number_any n h0 h1 W hW.1
  have hil : (Lib.itoa n).length ≤ n.natAbs / 9 + 2 := by
    by_cases hn : n < 0
    · rw [itoa_neg' n hn, List.length_cons]; have := dec_len n.natAbs; omega
    · rw [itoa_pos' n hn]; have := dec_len n.toNat; omega
  have c3 : Tells w 12 #[.string ⟨(Lib.itoa n).toArray⟩] (.tuple #[.int .i64 n, .int .i64 0]) := tells_of fun W hW => by
    have := read_any ⟨(Lib.itoa n).toArray⟩ W (by rw [← len_size]; unfold maxLen; show (Lib.itoa n).length ≤ _; omega) hW.1
    obtain ⟨e1, e2⟩ := read_itoa n h0 h1
    rw [show (⟨(Lib.itoa n).toArray⟩ : ByteArray).data.toList = Lib.itoa n from rfl, e1, e2] at this
    exact this
  have c4 : Tells w 21 #[.string s] _ := tells_of fun W hW => show_any s W (by omega) hW.1
  obtain ⟨U, hU⟩ : ∃ U : ByteArray, (⟨(showL s.data.toList).toArray⟩ ++ tail : ByteArray) = U := ⟨_, rfl⟩
  have hUl : U.data.toList = showL s.data.toList ++ tail.data.toList := by rw [← hU, Joins.data_append]
  have hsl := show_len s.data.toList
  rw [len_size] at hsl
  have hUs : U.size ≤ maxLen := by
    rw [← len_size, hUl, List.length_append, len_size]; unfold maxLen; omega
  have c5 : Tells w 11 #[.string U] (.tuple #[.string s, .string tail, .int .i64 0]) := tells_of fun W hW => by
    have := shown_any U W hUs hW.1
    obtain ⟨_, e1, e2, e3⟩ := shown_show s.data.toList tail.data.toList (by rw [len_size]; omega)
    rw [hUl, e1, e2, e3] at this
    exact this
  have hTs : (⟨(showL s.data.toList).toArray⟩ : ByteArray).size ≤ 2 * s.size + 2 := by
    rw [← len_size]; exact hsl
  generalize (⟨(Lib.itoa n).toArray⟩ : ByteArray) = F at *
  generalize (⟨(showL s.data.toList).toArray⟩ : ByteArray) = T at *
  have k1 : Tells w 12 #[.string s] _ := tells_of fun W hW => read_any s W (by unfold maxLen; omega) hW.1
  have k2 : Tells w 15 #[.string s] _ := tells_of fun W hW => take_any s W (by unfold maxLen; omega) hW.1
  have k3 : Tells w 11 #[.string s] _ := tells_of fun W hW => shown_any s W (by unfold maxLen; omega) hW.1
  have k4 := cut_says w s (by omega)
  clear hil hUl hsl hUs
  go_enter Tryd.func6, Tryd.ntmps6
  go_wp2_with fail
  refine (c1 _ hw0).mono ?_
  rintro e w1 ⟨rfl, hw1⟩
  go_wp2_with fail
  refine (c2 _ hw1).mono ?_
  rintro e w2 ⟨rfl, hw2⟩
  go_wp2_with fail
  refine (c3 _ hw2).mono ?_
  rintro e w3 ⟨rfl, hw3⟩
  go_wp2_with fail
  refine (c4 _ hw3).mono ?_
  rintro e w4 ⟨rfl, hw4⟩
  go_wp2_with fail
  refine (c5 _ hw4).mono ?_
  rintro e w5 ⟨rfl, hw5⟩
  go_wp2_with fail
  refine (k1 _ hw5).mono ?_
  rintro e w6 ⟨rfl, hw6⟩
  clear c1 c2 c3 c4 c5 hw0 hw1 hw2 hw3 hw4 hw5 k1
  go_upto_region 8 with fail
  go_cut [14, 15, 71] (fun _ _ t wx => t = .bool false ∧ Wd w wx)
  case first =>
    cases hk : readOk s.data.toList
    · have he := read_not _ hk
      rw [he]
      clear k2 k3 k4 he hk
      go_wp2
      go_meet
      exact ⟨rfl, hw6⟩
    · obtain ⟨e1, e2, e3, e4⟩ := itoa_read _ hk
      have cN : Tells w 13 #[.int .i64 (readN s.data.toList)] (.string s) := tells_of fun W hW => by
        have := number_any (readN s.data.toList) e2 e3 W hW.1
        rw [e1] at this
        exact this
      rw [e4]
      generalize readN s.data.toList = x at *
      clear k2 k3 k4 e1 e2 e3 e4 hk
      go_wp2_with fail
      refine (cN _ hw6).mono ?_
      rintro e w7 ⟨rfl, hw7⟩
      go_wp2_with fail
      go_meet
      exact ⟨rfl, hw7⟩
  case rest =>
    clear hw6
    obtain ⟨rfl, hw6⟩ := hcut
    go_wp2_with fail
    refine (k2 _ hw6).mono ?_
    rintro e w7 ⟨rfl, hw7⟩
    clear k2 hw6
    go_upto_region 11 with fail
    go_cut [12, 14, 15, 87] (fun _ _ _ t wx => t = .bool false ∧ Wd w wx)
    case first =>
      cases hk : takeOk s.data.toList
      · obtain ⟨e1, e2, e3⟩ := take_not _ hk
        rw [e1, e2, e3]
        clear k3 k4 e1 e2 e3 hk
        go_wp2
        go_meet
        exact ⟨rfl, hw7⟩
      · obtain ⟨e1, e2, e3, e4⟩ := itoa_take _ hk
        obtain ⟨G, hG⟩ : ∃ G : ByteArray, (⟨(Lib.itoa (takeN s.data.toList)).toArray⟩ : ByteArray) = G := ⟨_, rfl⟩
        obtain ⟨R, hR⟩ : ∃ R : ByteArray, (⟨(takeT s.data.toList).toArray⟩ : ByteArray) = R := ⟨_, rfl⟩
        have hGR : G ++ R = s := by
          apply WideShapes.bytes_inj
          rw [Joins.data_append, ← hG, ← hR]; exact e1
        have hGs : G.size + R.size = s.size := by rw [← len_size, ← len_size, ← len_size, ← List.length_append, ← Joins.data_append, hGR]
        have cN : Tells w 13 #[.int .i64 (takeN s.data.toList)] (.string G) := tells_of fun W hW => by
          have := number_any (takeN s.data.toList) e2 e3 W hW.1
          rw [hG] at this
          exact this
        have hGm : G.size + R.size ≤ 1048576 := by omega
        rw [e4, hR]
        generalize takeN s.data.toList = x at *
        clear k3 k4 e1 e2 e3 e4 hk hG hR hGs
        go_wp2_with fail
        refine (cN _ hw7).mono ?_
        rintro e w8 ⟨rfl, hw8⟩
        go_wp2_with fail
        go_meet
        exact ⟨rfl, hw8⟩
    case rest =>
      clear hw7
      obtain ⟨rfl, hw6⟩ := hcut
      go_wp2_with fail
      refine (k3 _ hw6).mono ?_
      rintro e w7 ⟨rfl, hw7⟩
      clear k3 hw6
      go_upto_region 14 with fail
      go_cut [11, 12, 13, 103] (fun _ _ _ t wx => t = .bool false ∧ Wd w wx)
      case first =>
        cases hk : shownOk s.data.toList
        · obtain ⟨e1, e2, e3⟩ := shown_no _ hk
          rw [← e1, ← e2, ← e3]
          clear k4 e1 e2 e3 hk
          go_wp2
          go_meet
          exact ⟨rfl, hw7⟩
        · obtain ⟨e1, e4, e5⟩ := show_shown _ hk
          rw [len_size] at e5
          obtain ⟨X, hX⟩ : ∃ X : ByteArray, (⟨(shownT s.data.toList).toArray⟩ : ByteArray) = X := ⟨_, rfl⟩
          obtain ⟨R, hR⟩ : ∃ R : ByteArray, (⟨(shownR s.data.toList).toArray⟩ : ByteArray) = R := ⟨_, rfl⟩
          have hXl : X.data.toList = shownT s.data.toList := by rw [← hX]
          obtain ⟨G, hG⟩ : ∃ G : ByteArray, (⟨(showL X.data.toList).toArray⟩ : ByteArray) = G := ⟨_, rfl⟩
          have hGR : G ++ R = s := by
            apply WideShapes.bytes_inj
            rw [Joins.data_append, ← hG, ← hR, hXl]; exact e1
          have hGs : G.size + R.size = s.size := by rw [← len_size, ← len_size, ← len_size, ← List.length_append, ← Joins.data_append, hGR]
          have hXs : X.size ≤ 1048576 := by rw [← len_size, hXl]; omega
          have cN : Tells w 21 #[.string X] (.string G) := tells_of fun W hW => by
            have := show_any X W (by omega) hW.1
            rw [hG] at this
            exact this
          have hGm : G.size + R.size ≤ 1048576 := by omega
          rw [e4, hX, hR]
          clear k4 e1 e4 e5 hk hX hG hR hGs hXl hXs
          go_wp2_with fail
          refine (cN _ hw7).mono ?_
          rintro e w8 ⟨rfl, hw8⟩
          go_wp2_with fail
          go_meet
          exact ⟨rfl, hw8⟩
      case rest =>
        clear hw7
        obtain ⟨rfl, hw6⟩ := hcut
        go_wp2_with fail
        refine (k4 _ hw6).mono ?_
        rintro e w7 ⟨q, m, d, x, rfl, hw7, hx⟩
        clear k4 hw6
        go_upto_region 17 with fail
        go_cut [15, 16, 116] (fun _ _ t wx => t = .bool false ∧ Wd w wx)
        case first =>
          rcases hx with ⟨rfl, _⟩ | ⟨rfl, xs, hxn, hxr, hxz, hxj⟩
          · go_wp2
            go_meet
            exact ⟨rfl, hw7⟩
          · have cJ := joined_says hw7 (c := d) hxn hxr (by omega)
            rw [hxj] at cJ
            clear hxn hxr hxz hxj
            go_wp2_with fail
            refine cJ.mono ?_
            rintro e w8 ⟨rfl, hw8, _⟩
            go_wp2_with fail
            go_meet
            exact ⟨rfl, hw8⟩
        case rest =>
          clear hw7 hx
          obtain ⟨rfl, hw6⟩ := hcut
          obtain ⟨i0, hi, hz0, hz1, hz2⟩ := info_parts strInfo
          obtain ⟨n0, hn0⟩ : ∃ n0, ss.length = n0 := ⟨_, rfl⟩
          rw [hn0]
          have HN := Lib.hid hn0
          have hn1 : n0 ≤ 1048576 := by omega
          clear hn0
          have hbc := hw6.2.2
          obtain ⟨B, hB⟩ : ∃ B, wc.heap.size = B := ⟨_, rfl⟩
          have hwB : w.heap.size ≤ B := by rw [← hB]; exact hbc.size
          have hB1 : B ≤ wc.heap.size := by omega
          clear hB hw6
          go_wp2_with fail
          go_loopw [17, 18] (fun v i wr => ∃ k : Nat, k ≤ n0 ∧ i = .int .i64 k ∧ Below w.heap.size w wr ∧ B ≤ wr.heap.size ∧ wr.ownsRow B 9 1 v (keepTo ss k).length ((keepTo ss k).map Value.string)) (fun _ i _ => n0 - (intOf i).toNat)
          case atStart => exact ⟨0, by omega, rfl, hbc, hB1, World.ownsRow_nil _ _ _ _⟩
          case round =>
            clear hbc hB1
            obtain ⟨k, hk, rfl, hbr, hBr, hown⟩ := hrel
            by_cases hlt : k < n0
            · have hlt' : k < ss.length := by rw [HN.out]; exact hlt
              obtain ⟨b, off, rfl, hcell⟩ := hr.at k hlt'
              have hc := hcell wr hbr
              have hs1 := size_mem ss k hlt'
              have cT := text_any ss[k] wr (by unfold maxLen; omega)
              have hkl := keep_len ss k
              rw [HN.out] at hkl
              cases htx : textL ss[k].data.toList
              · have hst := Lib.hid (keep_no ss k hlt' htx)
                rw [htx] at cT
                have HO := Lib.hid hown
                generalize ss[k] = x at *
                clear hcell htx hown
                go_wp2_with fail
                refine cT.mono ?_
                rintro e w8 ⟨rfl, rfl⟩
                go_wp2_with fail
                go_roundw
                case rel => exact ⟨k + 1, by omega, by go_num, hbr, hBr, by rw [hst.out]; exact HO.out⟩
                case measure => simp [intOf]; omega
              · have hst := Lib.hid (keep_yes ss k hlt' htx)
                rw [htx] at cT
                generalize ss[k] = x at *
                generalize hKK : keepTo ss k = ks at *
                have HC := Lib.hid hcell
                clear hcell htx hKK
                go_wp2_with fail
                refine cT.mono ?_
                rintro e w8 ⟨rfl, rfl⟩
                clear cT
                go_wp2_with (at_builtin; refine wpList_append_own _ rfl _ _ 31 rfl B 9 i0 (.string ⟨#[]⟩) 1 16 Tryd.underlying31 hi hz0 hz1 hz2 rfl (by decide) _ _ _ rfl (hown.alloc _) ⟨wr.heap.size, 0, none⟩ 1 1 [.string x] rfl rfl ?c1 ?c2 ?c3 ?c4 ?c5 ?_)
                case c1 =>
                  intro j u hj
                  match j, hj with
                  | 0, hj => simp at hj; subst hj; simp [Addr.add]
                case c2 => intro u hu; simp at hu; subst hu; rfl
                case c3 => unfold maxLen; omega
                case c4 => omega
                case c5 => simp; omega
                intro v' w2 hown' hgrow _
                have hb2 : Below w.heap.size w w2 := (hbr.alloc (by omega) _).grown hgrow (by simp; omega) (fun g hg => Nat.le_trans hwB (hown.lt g hg).1)
                have hB2 : B ≤ w2.heap.size := by have := hgrow.size; simp at this; omega
                have HO : Hid (w2.ownsRow B 9 1 v' (keepTo ss (k + 1)).length ((keepTo ss (k + 1)).map Value.string)) := by
                  rw [hst.out, List.length_append, List.length_singleton, List.map_append]
                  exact hown'
                clear hown hown' hgrow hc
                go_wp2_with fail
                go_roundw
                case rel => exact ⟨k + 1, by omega, by go_num, hb2, hB2, HO.out⟩
                case measure => simp [intOf]; omega
            · obtain rfl : n0 = k := by omega
              have hkz := keep_size ss
              rw [HN.out] at hkz
              have hkc := keep_clean ss n0
              generalize keepTo ss n0 = ks at *
              obtain ⟨pw, cw, rfl, hrw⟩ := row_owned hown
              have cJ := joined_any wr pw cw ks hrw (by omega)
              obtain ⟨m, hm⟩ : ∃ m, ks.length = m := ⟨_, rfl⟩
              rw [hm] at cJ ⊢
              have HM := Lib.hid hm
              clear hown hm
              go_wp2_with fail
              refine cJ.mono ?_
              rintro e w8 ⟨rfl, hb8⟩
              have hb9 := hbr.trans (hb8.mono hbr.size)
              have cC := cut_joined w w8 (wd_of hT hM hb9) ks (by omega) hkc
              have hrw8 := hrw.later hb8
              clear cJ hrw hb8 hbr
              go_wp2_with fail
              refine cC.mono ?_
              rintro e w10 ⟨pd, md, cd, rfl, hb10, hmd, hrd⟩
              have hb11 := hb9.trans (hb10.mono hb9.size)
              have hrw10 := hrw8.later hb10
              obtain rfl : m = md := HM.out.symm.trans hmd
              clear cC hrw8 hb10 hb9 hmd hkc
              have hm1 : m ≤ 1048576 := by
                have := len_le_size ks
                have := HM.out
                omega
              have HRD := Lib.hid hrd
              have HRW := Lib.hid hrw10
              clear hrd hrw10
              go_wp2_with fail
              go_loopw [20] (fun i wr => ∃ k : Nat, k ≤ m ∧ i = .int .i64 k ∧ Below w.heap.size w wr ∧ Hid (StrRow wr pd ks) ∧ Hid (StrRow wr pw ks)) (fun i _ => m - (intOf i).toNat)
              case atStart => exact ⟨0, by omega, rfl, hb11, HRD, HRW⟩
              case round =>
                clear hb11 HRD HRW
                obtain ⟨k, hk, rfl, hbr, hrd, hrw⟩ := hrel
                by_cases hlt : k < m
                · have hlt' : k < ks.length := by rw [HM.out]; exact hlt
                  obtain ⟨b1, o1, rfl, h1c⟩ := hrd.out.at k hlt'
                  obtain ⟨b2, o2, rfl, h2c⟩ := hrw.out.at k hlt'
                  have g1 := h1c wr (Below.refl _ _)
                  have g2 := h2c wr (Below.refl _ _)
                  generalize ks[k] = x at *
                  have hk0 : (0 : Int) ≤ (k : Int) := Int.natCast_nonneg _
                  have hkm : (k : Int) < (m : Int) := by omega
                  clear h1c h2c
                  go_wp2_with fail
                  go_quiet (fail)
                  go_wp2
                  go_roundw
                  case rel => exact ⟨k + 1, by omega, by go_num, below_drewN' hbr _, hrd.out.later (below_drewN' (Below.refl _ _) _), hrw.out.later (below_drewN' (Below.refl _ _) _)⟩
                  case measure => simp [intOf]; omega
                · obtain rfl : m = k := by omega
                  go_wp2_with fail
                  go_ret
                  exact ⟨rfl, hbr⟩
end Go.Proofs.YtbhgeikijifbgaaDoor
