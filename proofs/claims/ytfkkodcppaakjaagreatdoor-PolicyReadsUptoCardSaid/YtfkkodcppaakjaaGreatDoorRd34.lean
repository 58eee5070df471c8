/- Texts of the proof, merged: Reads, PrLabel. -/
import Derived.Test.YtfkkodcppaakjaaGreatDoorRd7
import Derived.Test.YtfkkodcppaakjaaGreatDoorRd11
import Derived.Test.YtfkkodcppaakjaaGreatDoorRd30
import Derived.Test.YtfkkodcppaakjaaGreatDoorRd32
import Derived.Test.YtfkkodcppaakjaaGreatDoorRd33
/- The document's Take at every text, and its Read: each by its contract. -/
namespace Go.Proofs.YtfkkodcppaakjaaGreatDoor
open Go.RowKit

theorem neg_first (s : ByteArray) (h : 0 < s.size) : negB s.data.toList = (((s[0].toNat : Int)) == 45) := by
  have e := drop_cons s 0 h
  rw [List.drop_zero] at e
  unfold negB
  rw [e, List.head?_cons, Bool.eq_iff_iff]
  simp only [beq_iff_eq, Option.some.injEq]
  rw [← UInt8.toNat_inj]
  have h45 : (45 : UInt8).toNat = 45 := rfl
  rw [h45]
  omega

set_option maxHeartbeats 1000000 in
theorem refTake_any (s : ByteArray) (w : World) (hs : s.size ≤ maxLen) :
    Calls Tryz.prog 87 #[.string s] w fun e w' => e = .returned (.tuple #[.int .i64 (takeN s.data.toList), .string ⟨(takeT s.data.toList).toArray⟩, .int .i64 (takeE s.data.toList)]) ∧ Quiet w w' := by
  by_cases h0 : 0 < s.size
  · cases hn : negB s.data.toList
    · exact refTake_pos s w hs hn h0 (by rw [← neg_first s h0]; exact hn)
    · exact refTake_neg s w hs hn h0 (by rw [← neg_first s h0]; exact hn)
  · have hl : s.data.toList = [] := List.eq_nil_of_length_eq_zero (by rw [len_size]; omega)
    have hno : Hid (takeOk s.data.toList = false) := by
      have : takeOk s.data.toList = false := by rw [hl]; rfl
      exact this
    have hz : s.size ≤ 0 := by omega
    clear hl h0
    unfold maxLen at hs
    go_enter Tryz.func87, Tryz.ntmps87
    go_wp2
    go_loop [6, 8] (fun i m => i = .int .i64 0 ∧ m = .int .u64 0) (fun _ _ => 0)
    case atStart => exact ⟨rfl, rfl⟩
    case round =>
      obtain ⟨rfl, rfl⟩ := hrel
      go_wp2
      go_ret3
      exact ⟨no_ret hno.out, Quiet.refl _⟩

end Go.Proofs.YtfkkodcppaakjaaGreatDoor
/- The document's Label of chapter 3, by its contract. -/
namespace Go.Proofs.YtfkkodcppaakjaaGreatDoor
open Go Go.RowKit

/-- What the document's Label answers. -/
def LabSays (s : List UInt8) (W : World) (e : Ending) (w' : World) : Prop := Below W.heap.size W w' ∧
  ((∃ a : Nat, a < 18446744073709551616 ∧ textN a = s ∧ e = .returned (.tuple #[.int .u64 (a : Int), .bool true])) ∨ (NoLab s ∧ ∃ a : Int, e = .returned (.tuple #[.int .u64 a, .bool false])))
theorem quiet_below' {w w' : World} (h : Quiet w w') : Below w.heap.size w w' := by
  obtain ⟨n, rfl⟩ := h
  exact below_drewN' (Below.refl _ _) n
theorem take_le (R : List UInt8) : (takeT R).length ≤ R.length := by
  unfold takeT
  split
  · have h := congrArg List.length (form_rest R)
    rw [List.length_append] at h
    omega
  · simp
theorem bs_first {c : UInt8} {t : List UInt8} (h : 0 < (bs (c :: t)).size) : (bs (c :: t))[0]'h = c := rfl
theorem bs_tail (c : UInt8) (t : List UInt8) : (bs (c :: t)).extract 1 (bs (c :: t)).size = bs t := by
  apply WideShapes.bytes_inj
  rw [bs_list]
  simp [bs, ByteArray.size]
theorem bs_isEmpty (t : List UInt8) : (bs t).toList.isEmpty = t.isEmpty := by rw [ByteArray.toList_eq, bs_list]

set_option maxRecDepth 100000 in
set_option maxHeartbeats 4000000 in
theorem prLabel_any (s : ByteArray) (w : World) (hs : s.size ≤ 1048576) : Calls Tryz.prog 38 #[.string s] w (LabSays s.data.toList w) := by
  by_cases hd : s = ⟨#[45]⟩
  · subst hd
    go_enter Tryz.func38, Tryz.ntmps38
    go_wp2
    go_ret2
    exact ⟨Below.refl _ _, .inl ⟨0, by decide, rfl, rfl⟩⟩
  · have hs45 : s.data.toList ≠ [45] := by
      intro e; apply hd
      cases s with
      | mk d => congr 1; apply Array.toList_inj.1; exact e
    have hne : (s.toList == [45]) = false := by rw [ByteArray.toList_eq]; exact beq_false_of_ne hs45
    obtain ⟨sl, hsl⟩ : ∃ sl, s.data.toList = sl := ⟨_, rfl⟩
    have hsb : s = bs sl := by rw [← hsl]; rfl
    have hln : sl.length ≤ 1048576 := by rw [← hsl, len_size]; exact hs
    rw [hsl] at hs45 ⊢
    rw [hsb] at hne ⊢
    have H45 := Lib.hid hs45
    clear hd hsl hsb hs hs45
    go_enter Tryz.func38, Tryz.ntmps38
    go_wp2_with fail
    clear hne
    go_loopg [4, 5, 6] 64 (fun g a r i wr => ∃ (k A : Nat) (R : List UInt8), k + g = 64 ∧ i = .int .i64 k ∧ a = .int .u64 (A : Int) ∧ r = .string (bs R) ∧ R.length ≤ 1048576 ∧ A < 18446744073709551616 ∧ Below w.heap.size w wr ∧ Hid (LabInv sl A R k))
    case atStart => exact ⟨0, 0, sl, by omega, rfl, rfl, rfl, hln, by decide, Below.refl _ _, labInv_zero sl⟩
    case round =>
      obtain ⟨k, A, R, hk, rfl, rfl, rfl, hR, hA, hbr, HI⟩ := hrel
      have hk0 : (0 : Int) ≤ (k : Int) := by omega
      by_cases hlt : k < 64
      · have hkI : (k : Int) < 64 := by omega
        have cT0 := refTake_any (bs R) wr (by rw [bs_size]; unfold maxLen; omega)
        rw [bs_list] at cT0
        have cT : Calls Tryz.prog 87 #[.string (bs R)] wr fun e w' => e = .returned (.tuple #[.int .i64 (takeN R), .string (bs (takeT R)), .int .i64 (takeE R)]) ∧ Quiet wr w' := cT0
        clear cT0
        have hbad := Lib.hid (fun h => lab_bad H45.out HI.out h)
        have hend := Lib.hid (fun h1 h2 => lab_end H45.out HI.out h1 h2)
        have hchar := Lib.hid (fun (ch : UInt8) (t : List UInt8) h1 h2 => lab_char (ch := ch) (t := t) H45.out HI.out h1 h2)
        have hnext := Lib.hid (fun (ch : UInt8) (t : List UInt8) h1 => lab_next (ch := ch) (t := t) HI.out h1)
        have hE : takeE R = 0 ∨ takeE R = 4 := by unfold takeE; split <;> simp
        have hTl := take_le R
        generalize takeE R = E at *
        generalize takeN R = N at *
        generalize takeT R = T at *
        have HB := Lib.hid hbr
        clear hbr HI
        go_wp2_with fail
        refine cT.mono ?_
        rintro e w2 ⟨rfl, hq⟩
        dsimp only
        have HB2 := Lib.hid (HB.out.trans ((quiet_below' hq).mono HB.out.size))
        clear cT hq HB
        rcases hE with rfl | rfl
        · by_cases hn0 : N < 0
          · have hno := Lib.hid (hbad.out (.inr (.inl hn0)))
            clear hbad hend hchar hnext
            go_wp2_with fail
            go_ret2
            exact ⟨HB2.out, .inr ⟨hno.out, _, rfl⟩⟩
          · by_cases hn63 : 63 < N
            · have hno := Lib.hid (hbad.out (.inr (.inr hn63)))
              clear hbad hend hchar hnext
              go_wp2_with fail
              go_ret2
              exact ⟨HB2.out, .inr ⟨hno.out, _, rfl⟩⟩
            · obtain ⟨m, rfl⟩ : ∃ m : Nat, N = m := ⟨N.toNat, by omega⟩
              have hm : m < 64 := by omega
              have hpw : 2 ^ m < 18446744073709551616 := (Nat.pow_lt_pow_right (by decide : 1 < 2) hm : 2 ^ m < 2 ^ 64)
              have ho := u64_or_nat A (2 ^ m) hA hpw
              have hAl : A ||| 2 ^ m < 18446744073709551616 := or_lt _ _ hA hpw
              have htn : ((m : Int)).toNat = m := rfl
              rw [htn] at hend hnext
              have hwp := wrap_pow m hpw
              have hmm : (0 : Int) ≤ (m : Int) := Int.natCast_nonneg _
              obtain ⟨A', hA'⟩ : ∃ A', A ||| 2 ^ m = A' := ⟨_, rfl⟩
              rw [hA'] at ho hend hnext hAl
              have hor : bits BinOp.or .u64 (A : Int) (IntKind.u64.wrap ((2 : Int) ^ m)) = (A' : Int) := by rw [hwp]; exact ho
              have hmI : (m : Int) ≤ 63 := by omega
              have hmI2 : ¬ ((63 : Int) < (m : Int)) := by omega
              have hmI3 : ¬ ((m : Int) < 0) := by omega
              clear hbad hA' htn hwp ho hn0 hn63 hpw
              cases T with
              | nil =>
                have cX := fun W => prText_any A' W hAl
                have hfin := Lib.hid (hend.out rfl)
                obtain ⟨R0, hR0⟩ : ∃ R0, bs [] = R0 := ⟨_, rfl⟩
                have hsz0 : R0.toList.isEmpty = true := by rw [← hR0, bs_isEmpty]; rfl
                have hsz1 : R0.toList = [] := by simpa using hsz0
                rw [hR0]
                clear hend hchar hnext hR0
                by_cases htx : textN A' = sl
                · have hq : ((bs (textN A')).toList == (bs sl).toList) = true := by rw [htx]; simp
                  have HT := Lib.hid htx
                  clear hfin htx
                  go_wp2_with (first | (go_at_call 88; refine (cX _).mono ?_; rintro e w3 ⟨rfl, hb3⟩))
                  go_ret2
                  exact ⟨HB2.out.trans (hb3.mono HB2.out.size), .inl ⟨A', hAl, HT.out, rfl⟩⟩
                · have hq : ((bs (textN A')).toList == (bs sl).toList) = false := by
                    rw [ByteArray.toList_eq, ByteArray.toList_eq, bs_list, bs_list]; exact beq_false_of_ne htx
                  have hno := Lib.hid (hfin.out htx)
                  clear hfin htx
                  go_wp2_with (first | (go_at_call 88; refine (cX _).mono ?_; rintro e w3 ⟨rfl, hb3⟩))
                  go_ret2
                  exact ⟨HB2.out.trans (hb3.mono HB2.out.size), .inr ⟨hno.out, _, rfl⟩⟩
              | cons ch t =>
                have hTl2 : t.length ≤ 1048576 := by rw [List.length_cons] at hTl; omega
                have hbt := bs_tail ch t
                have hsz : 0 < (bs (ch :: t)).size := by rw [bs_size, List.length_cons]; omega
                have hb0 : ((bs (ch :: t))[0]'hsz) = ch := rfl
                have hem : (bs (ch :: t)).toList.isEmpty = false := by rw [bs_isEmpty]; rfl
                have hem2 : ¬ (bs (ch :: t)).toList = [] := by intro e; rw [e] at hem; cases hem
                generalize bs (ch :: t) = R0 at *
                have hszI : (0 : Int) < (R0.size : Int) := by omega
                have hsz1 : (1 : Int) ≤ (R0.size : Int) := by omega
                by_cases hc : ch = 43
                · have h1 : (((R0[0]'hsz).toNat : Int) == 43) = true := by rw [hb0, hc]; rfl
                  have h2 : (((R0[0]'hsz).toNat : Int) != 43) = false := by rw [bne, h1]; rfl
                  have HN := Lib.hid (hnext.out ch t rfl)
                  clear hend hchar hnext hb0 hc
                  go_wp2_with fail
                  go_roundg (gk - 1)
                  case rel => exact ⟨k + 1, A', t, by omega, by go_num, rfl, rfl, hTl2, hAl, HB2.out, HN⟩
                  case measure => omega
                · have h1 : (((R0[0]'hsz).toNat : Int) == 43) = false := by
                    rw [hb0]
                    refine beq_false_of_ne fun e => hc ?_
                    rw [← UInt8.toNat_inj]
                    show ch.toNat = 43
                    omega
                  have h2 : (((R0[0]'hsz).toNat : Int) != 43) = true := by rw [bne, h1]; rfl
                  have hno := Lib.hid (hchar.out ch t rfl hc)
                  clear hend hchar hnext hb0 hc
                  go_wp2_with fail
                  go_ret2
                  exact ⟨HB2.out, .inr ⟨hno.out, _, rfl⟩⟩
        · have hno := Lib.hid (hbad.out (.inl (by decide)))
          clear hbad hend hchar hnext
          go_wp2_with fail
          go_ret2
          exact ⟨HB2.out, .inr ⟨hno.out, _, rfl⟩⟩
      · obtain rfl : k = 64 := by omega
        have hno := Lib.hid (lab_long H45.out HI.out)
        have HB := Lib.hid hbr
        clear hbr HI
        go_wp2_with fail
        go_ret2
        exact ⟨HB.out, .inr ⟨hno.out, _, rfl⟩⟩
end Go.Proofs.YtfkkodcppaakjaaGreatDoor
