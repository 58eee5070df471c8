/- Texts of the proof, merged: RefTake. -/
import Derived.Test.YtfkkodcppaakjaaGreatDoorRd6
import Derived.Test.YtfkkodcppaakjaaGreatDoorRd9
import Derived.Test.YtfkkodcppaakjaaGreatDoorRd32
import Derived.Lib.IndexBytes
import Derived.Deep.QuietTactic
import Derived.BigQuiet
/- The document's Take and Read, each by its contract. -/
namespace Go.Proofs.YtfkkodcppaakjaaGreatDoor
open Go.RowKit

/-- w' is w, but for draws. -/
def Quiet (w w' : World) : Prop := ∃ n, w' = w.drewN n
theorem Quiet.refl (w : World) : Quiet w w := ⟨0, rfl⟩

theorem dv_le_append : ∀ (n : Nat) (a t : List UInt8), t.length = n → dv a ≤ dv (a ++ t)
  | 0, a, t, h => by rw [List.eq_nil_of_length_eq_zero h, List.append_nil]; exact Nat.le_refl _
  | n + 1, a, t, h => by
    cases t with
    | nil => simp at h
    | cons c t =>
      have h1 := dv_le_append n (a ++ [c]) t (by simpa using h)
      rw [show a ++ c :: t = a ++ [c] ++ t from by simp]
      rw [dv_snoc] at h1
      omega
theorem takeWhile_take : ∀ (n : Nat) (b : List UInt8), (b.take n).all isDig = true → ∃ t, b.takeWhile isDig = b.take n ++ t
  | 0, b, _ => ⟨_, rfl⟩
  | n + 1, [], _ => ⟨[], rfl⟩
  | n + 1, c :: b, h => by
    simp only [List.take_succ_cons, List.all_cons, Bool.and_eq_true] at h
    obtain ⟨t, ht⟩ := takeWhile_take n b h.2
    exact ⟨t, by rw [List.takeWhile_cons, h.1, List.take_succ_cons, if_pos rfl, ht]; rfl⟩

/-- j digits behind the sign are gone over. -/
def RefAt (s : ByteArray) (f j M : Nat) : Prop := bodyL s.data.toList = s.data.toList.drop f ∧ ((bodyL s.data.toList).take j).all isDig = true ∧ M = dv ((bodyL s.data.toList).take j)
theorem body_snoc (s : ByteArray) (f j : Nat) (h : j + f < s.size) (hb : bodyL s.data.toList = s.data.toList.drop f) : (bodyL s.data.toList).take (j + 1) = (bodyL s.data.toList).take j ++ [s[j + f]] := by
  rw [hb, List.take_succ_eq_append_getElem (by rw [List.length_drop, len_size]; omega)]
  congr 2
  rw [List.getElem_drop]
  simp only [Nat.add_comm f j]; rfl
theorem refAt_step (s : ByteArray) (f j M : Nat) (h : j + f < s.size) (hd : isDig s[j + f] = true) (hr : RefAt s f j M) : RefAt s f (j + 1) (10 * M + (s[j + f].toNat - 48)) := by
  obtain ⟨hb, ha, hm⟩ := hr
  refine ⟨hb, ?_, ?_⟩
  · rw [body_snoc s f j h hb, List.all_append, ha]; simp [hd]
  · rw [body_snoc s f j h hb, dv_snoc, hm]; omega
theorem refAt_over (s : ByteArray) (f j M : Nat) (h : j + f < s.size) (hd : isDig s[j + f] = true) (hr : RefAt s f j M) (hM : 922337203685477580 < M) : takeOk s.data.toList = false := by
  obtain ⟨hb, ha, hm⟩ := refAt_step s f j M h hd hr
  obtain ⟨t, ht⟩ := takeWhile_take _ _ ha
  have h1 := dv_le_append t.length ((bodyL s.data.toList).take (j + 1)) t rfl
  rw [← ht, ← hm] at h1
  have h2 : 10 * M ≤ dv (digsL s.data.toList) := by unfold digsL; omega
  unfold takeOk valL
  cases negB s.data.toList
  · simp only [Bool.false_eq_true, if_false]
    rw [show decide ((dv (digsL s.data.toList) : Int) ≤ 9223372036854775807) = false from decide_eq_false (by omega)]
    simp
  · simp only [if_true]
    rw [show decide (-9223372036854775808 ≤ (-(dv (digsL s.data.toList) : Int))) = false from decide_eq_false (by omega)]
    simp
theorem refAt_end (s : ByteArray) (f j M : Nat) (h : j + f ≤ s.size) (hd : ∀ h' : j + f < s.size, isDig s[j + f] = false) (hr : RefAt s f j M) :
    digsL s.data.toList = (bodyL s.data.toList).take j ∧ (digsL s.data.toList).length = j ∧ restL s.data.toList = s.data.toList.drop (j + f) ∧ dv (digsL s.data.toList) = M := by
  obtain ⟨hb, ha, hm⟩ := hr
  have e := List.take_append_drop j (bodyL s.data.toList)
  have hdrop : (bodyL s.data.toList).drop j = s.data.toList.drop (j + f) := by rw [hb, List.drop_drop, Nat.add_comm]
  have h0 : ((bodyL s.data.toList).drop j).takeWhile isDig = [] ∧ ((bodyL s.data.toList).drop j).dropWhile isDig = (bodyL s.data.toList).drop j := by
    rw [hdrop]
    by_cases hlt : j + f < s.size
    · rw [drop_cons s _ hlt, List.takeWhile_cons, List.dropWhile_cons, hd hlt]; simp
    · rw [List.drop_eq_nil_of_le (by rw [len_size]; omega)]; simp
  have h1 : ∀ c ∈ (bodyL s.data.toList).take j, isDig c = true := List.all_eq_true.1 ha
  have k1 : digsL s.data.toList = (bodyL s.data.toList).take j := by
    unfold digsL
    conv => lhs; rw [← e]
    rw [List.takeWhile_append_of_pos h1, h0.1, List.append_nil]
  refine ⟨k1, ?_, ?_, by rw [k1, hm]⟩
  · rw [k1, List.length_take, hb, List.length_drop, len_size]; omega
  · unfold restL
    conv => lhs; rw [← e]
    rw [List.dropWhile_append_of_pos h1, h0.2, hdrop]
theorem refAt_head (s : ByteArray) (f j M : Nat) (h : j + f ≤ s.size) (hj : 1 ≤ j) (hd : ∀ h' : j + f < s.size, isDig s[j + f] = false) (hr : RefAt s f j M) (hf : f < s.size) : (digsL s.data.toList).head? = some s[f] := by
  rw [(refAt_end s f j M h hd hr).1, hr.1, drop_cons s f hf]
  obtain ⟨n, rfl⟩ : ∃ n, j = n + 1 := ⟨j - 1, by omega⟩
  rfl
theorem ok_none (l : List UInt8) (h : (digsL l).length = 0) : takeOk l = false := by
  unfold takeOk; rw [List.eq_nil_of_length_eq_zero h]; rfl
theorem ok_nought (l : List UInt8) (h : (digsL l).head? = some 48) (h2 : 1 < (digsL l).length ∨ negB l = true) : takeOk l = false := by
  unfold takeOk
  rw [h]
  have : (decide (1 < (digsL l).length) || negB l) = true := by
    rcases h2 with h2 | h2
    · rw [decide_eq_true h2]; rfl
    · rw [h2]; simp
  rw [this]; simp
theorem ok_great (l : List UInt8) (h : valL l < -9223372036854775808 ∨ 9223372036854775807 < valL l) : takeOk l = false := by
  unfold takeOk
  rcases h with h | h
  · rw [decide_eq_false (by omega : ¬ -9223372036854775808 ≤ valL l)]; simp
  · rw [decide_eq_false (by omega : ¬ valL l ≤ 9223372036854775807)]; simp
theorem ok_yes (l : List UInt8) (h0 : 1 ≤ (digsL l).length) (h : ¬ (digsL l).head? = some 48 ∨ ((digsL l).length ≤ 1 ∧ negB l = false)) (h1 : -9223372036854775808 ≤ valL l) (h2 : valL l ≤ 9223372036854775807) : takeOk l = true := by
  unfold takeOk
  rw [decide_eq_true h1, decide_eq_true h2]
  have e : (digsL l).isEmpty = false := by cases hd : digsL l with
    | nil => rw [hd] at h0; simp at h0
    | cons _ _ => rfl
  rw [e]
  rcases h with h | ⟨h3, h4⟩
  · rw [show ((digsL l).head? == some 48) = false from by simpa using h]; rfl
  · rw [decide_eq_false (by omega : ¬ 1 < (digsL l).length), h4]; simp
theorem no_ret {l : List UInt8} (h : takeOk l = false) : Ending.returned (.tuple #[.int .i64 0, .string ⟨#[]⟩, .int .i64 4]) = .returned (.tuple #[.int .i64 (takeN l), .string ⟨(takeT l).toArray⟩, .int .i64 (takeE l)]) := by
  unfold takeN takeT takeE; rw [h]; rfl
theorem yes_ret {s : ByteArray} {k : Nat} {x : Int} (h : takeOk s.data.toList = true) (hx : x = valL s.data.toList) (hr : restL s.data.toList = s.data.toList.drop k) :
    Ending.returned (.tuple #[.int .i64 x, .string (s.extract k s.size), .int .i64 0]) = .returned (.tuple #[.int .i64 (takeN s.data.toList), .string ⟨(takeT s.data.toList).toArray⟩, .int .i64 (takeE s.data.toList)]) := by
  unfold takeN takeT takeE; rw [h]
  have e : s.extract k s.size = ⟨(restL s.data.toList).toArray⟩ := by
    apply WideShapes.bytes_inj
    rw [Lib.extract_to_end, hr]
  rw [e, hx]; rfl
theorem dv_one (l : List UInt8) (c : UInt8) (h : l.head? = some c) (hl : l.length ≤ 1) : dv l = c.toNat - 48 := by
  cases l with
  | nil => simp at h
  | cons a t =>
    simp only [List.head?_cons, Option.some.injEq] at h
    have : t = [] := List.eq_nil_of_length_eq_zero (by rw [List.length_cons] at hl; omega)
    rw [h, this]; simp [dv]
theorem dv_pos (l : List UInt8) (ha : l.all isDig = true) (hne : l ≠ []) (hh : ¬ l.head? = some 48) : 1 ≤ dv l := by
  apply Nat.pos_of_ne_zero
  intro e
  have hd := dec_dv _ l rfl ha hne (fun h => absurd h hh)
  rw [e, dec_small (by decide)] at hd
  rw [← hd] at hh
  exact hh rfl
theorem val_is (l : List UInt8) (M : Nat) (h : dv (digsL l) = M) : (negB l = true → valL l = -(M : Int)) ∧ (negB l = false → valL l = (M : Int)) := by
  constructor
  · intro hn; unfold valL; rw [hn, h]; rfl
  · intro hn; unfold valL; rw [hn, h]; rfl
theorem head_48 (s : ByteArray) (f : Nat) (hf : f < s.size) (h : s[f].toNat = 48) : (some s[f] : Option UInt8) = some 48 := by
  congr 1; rw [← UInt8.toNat_inj]; exact h
theorem head_not48 (s : ByteArray) (f : Nat) (hf : f < s.size) (h : ¬ s[f].toNat = 48) : ¬ (some s[f] : Option UInt8) = some 48 := by
  intro e; injection e with e; apply h; rw [e]; rfl
set_option maxHeartbeats 2000000 in
theorem refTake_pos (s : ByteArray) (w : World) (hs : s.size ≤ maxLen) (hn : negB s.data.toList = false) (h0 : 0 < s.size) (h45 : ((s[0].toNat : Int) == 45) = false) :
    Calls Tryz.prog 87 #[.string s] w fun e w' => e = .returned (.tuple #[.int .i64 (takeN s.data.toList), .string ⟨(takeT s.data.toList).toArray⟩, .int .i64 (takeE s.data.toList)]) ∧ Quiet w w' := by
  unfold maxLen at hs
  have hb0 : RefAt s 0 0 0 := ⟨by unfold bodyL; rw [hn]; rfl, rfl, rfl⟩
  go_enter Tryz.func87, Tryz.ntmps87
  go_wp2
  go_loop [6, 8] (fun i m => ∃ j M : Nat, j ≤ s.size ∧ M ≤ 9223372036854775809 ∧ i = .int .i64 ((j : Nat) : Int) ∧ m = .int .u64 M ∧ RefAt s 0 j M) (fun i _ => s.size - (intOf i).toNat)
  case atStart => exact ⟨0, 0, by omega, by omega, rfl, rfl, hb0⟩
  case round =>
    obtain ⟨j, M, hj, hM, rfl, rfl, hr⟩ := hrel
    by_cases hdig : ∃ h : j < s.size, isDig s[j] = true
    · obtain ⟨hlt, hd⟩ := hdig
      have hc := (isDig_iff _).1 hd
      have hc0 : 48 ≤ (s[j].toNat : Int) := by omega
      have hc1 : (s[j].toNat : Int) ≤ 57 := by omega
      by_cases hov : 922337203685477580 < M
      · have hno := Lib.hid (refAt_over s 0 j M hlt hd hr hov)
        clear hr hd hc hb0
        go_wp2
        go_ret3
        exact ⟨no_ret hno.out, Quiet.refl _⟩
      · have hst := Lib.hid (refAt_step s 0 j M hlt hd hr)
        clear hr hd hc hb0
        go_wp2
        go_round
        case rel => exact ⟨j + 1, 10 * M + (s[j].toNat - 48), by omega, by omega, by go_num, by go_num, hst.out⟩
        case measure => simp [intOf]; omega
    · have hno' : ∀ h : j < s.size, isDig s[j] = false := fun h => by
        cases hx : isDig s[j] with
        | false => rfl
        | true => exact absurd ⟨h, hx⟩ hdig
      by_cases hend : j < s.size
      · have hcc : ¬ (48 ≤ s[j].toNat ∧ s[j].toNat ≤ 57) := fun h => Bool.false_ne_true ((hno' hend).symm.trans ((isDig_iff _).2 h))
        rcases (by omega : (s[j].toNat : Int) < 48 ∨ 57 < (s[j].toNat : Int)) with hc | hc
        · clear hcc hdig
          obtain ⟨he1, he2, he3, he4⟩ := refAt_end s 0 j M hj hno' hr
          by_cases hj0 : j = 0
          · subst hj0
            have hno := Lib.hid (ok_none _ he2)
            clear hr he1 he2 he3 he4 hb0
            have hcz : (s[0].toNat : Int) < 48 := hc
            clear hc
            go_wp2
            go_ret3
            exact ⟨no_ret hno.out, Quiet.refl _⟩
          · have hj1 : 1 ≤ j := by omega
            have hhd := refAt_head s 0 j M hj hj1 hno' hr (by omega)
            obtain ⟨hvn, hvp⟩ := val_is _ M he4
            have q1 : ((j : Int) == 0) = false := beq_false_of_ne (by omega)
            have q0 : 0 < s.size := by omega
            by_cases hz : s[0].toNat = 48
            · have hz1 : ((s[0].toNat : Int) == 48) = true := beq_iff_eq.2 (by omega)
              by_cases hl : 1 < j
              · have hno := Lib.hid (ok_nought _ (hhd.trans (head_48 s 0 q0 hz)) (.inl (by omega)))
                clear hr he1 he2 he3 he4 hb0 hhd hz hvn hvp
                go_wp2
                go_ret3
                exact ⟨no_ret hno.out, Quiet.refl _⟩
              · have hM1 : M ≤ 9223372036854775807 := by
                  have := dv_one _ _ hhd (by omega)
                  rw [he4] at this
                  omega
                have hok := Lib.hid (ok_yes _ (by omega) (.inr ⟨by omega, hn⟩) (by rw [hvp hn]; omega) (by rw [hvp hn]; omega))
                have hval := Lib.hid (hvp hn).symm
                have he3 := Lib.hid he3
                clear hr he1 he2 he4 hb0 hhd hz hvn hvp
                go_wp2
                go_quiet (fail)
                go_wp2
                go_ret3
                exact ⟨yes_ret hok.out hval.out he3.out, ⟨_, rfl⟩⟩
            · have hz1 : ((s[0].toNat : Int) == 48) = false := beq_false_of_ne (by omega)
              by_cases hbig : 9223372036854775807 < M
              · have hno := Lib.hid (ok_great _ (.inr (by rw [hvp hn]; omega)))
                clear hr he1 he2 he3 he4 hb0 hhd hz hvn hvp
                go_wp2
                go_ret3
                exact ⟨no_ret hno.out, Quiet.refl _⟩
              · have hok := Lib.hid (ok_yes _ (by omega) (.inl (fun e => head_not48 s 0 q0 hz (hhd.symm.trans e))) (by rw [hvp hn]; omega) (by rw [hvp hn]; omega))
                have hval := Lib.hid (hvp hn).symm
                have he3 := Lib.hid he3
                clear hr he1 he2 he4 hb0 hhd hz hvn hvp
                go_wp2
                go_quiet (fail)
                go_wp2
                go_ret3
                exact ⟨yes_ret hok.out hval.out he3.out, ⟨_, rfl⟩⟩
        · have hc2 : 48 ≤ (s[j].toNat : Int) := by omega
          clear hcc hdig
          obtain ⟨he1, he2, he3, he4⟩ := refAt_end s 0 j M hj hno' hr
          by_cases hj0 : j = 0
          · subst hj0
            have hno := Lib.hid (ok_none _ he2)
            clear hr he1 he2 he3 he4 hb0
            have hcz : 57 < (s[0].toNat : Int) := hc
            have hcy : 48 ≤ (s[0].toNat : Int) := hc2
            clear hc hc2
            go_wp2
            go_ret3
            exact ⟨no_ret hno.out, Quiet.refl _⟩
          · have hj1 : 1 ≤ j := by omega
            have hhd := refAt_head s 0 j M hj hj1 hno' hr (by omega)
            obtain ⟨hvn, hvp⟩ := val_is _ M he4
            have q1 : ((j : Int) == 0) = false := beq_false_of_ne (by omega)
            have q0 : 0 < s.size := by omega
            by_cases hz : s[0].toNat = 48
            · have hz1 : ((s[0].toNat : Int) == 48) = true := beq_iff_eq.2 (by omega)
              by_cases hl : 1 < j
              · have hno := Lib.hid (ok_nought _ (hhd.trans (head_48 s 0 q0 hz)) (.inl (by omega)))
                clear hr he1 he2 he3 he4 hb0 hhd hz hvn hvp
                go_wp2
                go_ret3
                exact ⟨no_ret hno.out, Quiet.refl _⟩
              · have hM1 : M ≤ 9223372036854775807 := by
                  have := dv_one _ _ hhd (by omega)
                  rw [he4] at this
                  omega
                have hok := Lib.hid (ok_yes _ (by omega) (.inr ⟨by omega, hn⟩) (by rw [hvp hn]; omega) (by rw [hvp hn]; omega))
                have hval := Lib.hid (hvp hn).symm
                have he3 := Lib.hid he3
                clear hr he1 he2 he4 hb0 hhd hz hvn hvp
                go_wp2
                go_quiet (fail)
                go_wp2
                go_ret3
                exact ⟨yes_ret hok.out hval.out he3.out, ⟨_, rfl⟩⟩
            · have hz1 : ((s[0].toNat : Int) == 48) = false := beq_false_of_ne (by omega)
              by_cases hbig : 9223372036854775807 < M
              · have hno := Lib.hid (ok_great _ (.inr (by rw [hvp hn]; omega)))
                clear hr he1 he2 he3 he4 hb0 hhd hz hvn hvp
                go_wp2
                go_ret3
                exact ⟨no_ret hno.out, Quiet.refl _⟩
              · have hok := Lib.hid (ok_yes _ (by omega) (.inl (fun e => head_not48 s 0 q0 hz (hhd.symm.trans e))) (by rw [hvp hn]; omega) (by rw [hvp hn]; omega))
                have hval := Lib.hid (hvp hn).symm
                have he3 := Lib.hid he3
                clear hr he1 he2 he4 hb0 hhd hz hvn hvp
                go_wp2
                go_quiet (fail)
                go_wp2
                go_ret3
                exact ⟨yes_ret hok.out hval.out he3.out, ⟨_, rfl⟩⟩
      · clear hdig
        obtain ⟨he1, he2, he3, he4⟩ := refAt_end s 0 j M hj hno' hr
        by_cases hj0 : j = 0
        · omega
        · have hj1 : 1 ≤ j := by omega
          have hhd := refAt_head s 0 j M hj hj1 hno' hr (by omega)
          obtain ⟨hvn, hvp⟩ := val_is _ M he4
          have q1 : ((j : Int) == 0) = false := beq_false_of_ne (by omega)
          have q0 : 0 < s.size := by omega
          by_cases hz : s[0].toNat = 48
          · have hz1 : ((s[0].toNat : Int) == 48) = true := beq_iff_eq.2 (by omega)
            by_cases hl : 1 < j
            · have hno := Lib.hid (ok_nought _ (hhd.trans (head_48 s 0 q0 hz)) (.inl (by omega)))
              clear hr he1 he2 he3 he4 hb0 hhd hz hvn hvp
              go_wp2
              go_ret3
              exact ⟨no_ret hno.out, Quiet.refl _⟩
            · have hM1 : M ≤ 9223372036854775807 := by
                have := dv_one _ _ hhd (by omega)
                rw [he4] at this
                omega
              have hok := Lib.hid (ok_yes _ (by omega) (.inr ⟨by omega, hn⟩) (by rw [hvp hn]; omega) (by rw [hvp hn]; omega))
              have hval := Lib.hid (hvp hn).symm
              have he3 := Lib.hid he3
              clear hr he1 he2 he4 hb0 hhd hz hvn hvp
              go_wp2
              go_quiet (fail)
              go_wp2
              go_ret3
              exact ⟨yes_ret hok.out hval.out he3.out, ⟨_, rfl⟩⟩
          · have hz1 : ((s[0].toNat : Int) == 48) = false := beq_false_of_ne (by omega)
            by_cases hbig : 9223372036854775807 < M
            · have hno := Lib.hid (ok_great _ (.inr (by rw [hvp hn]; omega)))
              clear hr he1 he2 he3 he4 hb0 hhd hz hvn hvp
              go_wp2
              go_ret3
              exact ⟨no_ret hno.out, Quiet.refl _⟩
            · have hok := Lib.hid (ok_yes _ (by omega) (.inl (fun e => head_not48 s 0 q0 hz (hhd.symm.trans e))) (by rw [hvp hn]; omega) (by rw [hvp hn]; omega))
              have hval := Lib.hid (hvp hn).symm
              have he3 := Lib.hid he3
              clear hr he1 he2 he4 hb0 hhd hz hvn hvp
              go_wp2
              go_quiet (fail)
              go_wp2
              go_ret3
              exact ⟨yes_ret hok.out hval.out he3.out, ⟨_, rfl⟩⟩

set_option maxHeartbeats 2000000 in
theorem refTake_neg (s : ByteArray) (w : World) (hs : s.size ≤ maxLen) (hn : negB s.data.toList = true) (h0 : 0 < s.size) (h45 : ((s[0].toNat : Int) == 45) = true) :
    Calls Tryz.prog 87 #[.string s] w fun e w' => e = .returned (.tuple #[.int .i64 (takeN s.data.toList), .string ⟨(takeT s.data.toList).toArray⟩, .int .i64 (takeE s.data.toList)]) ∧ Quiet w w' := by
  unfold maxLen at hs
  have hb0 : RefAt s 1 0 0 := ⟨by unfold bodyL; rw [hn]; exact (List.drop_one).symm, rfl, rfl⟩
  go_enter Tryz.func87, Tryz.ntmps87
  go_wp2
  go_loop [6, 8] (fun i m => ∃ j M : Nat, j + 1 ≤ s.size ∧ M ≤ 9223372036854775809 ∧ i = .int .i64 ((j + 1 : Nat) : Int) ∧ m = .int .u64 M ∧ RefAt s 1 j M) (fun i _ => s.size - (intOf i).toNat)
  case atStart => exact ⟨0, 0, by omega, by omega, rfl, rfl, hb0⟩
  case round =>
    obtain ⟨j, M, hj, hM, rfl, rfl, hr⟩ := hrel
    by_cases hdig : ∃ h : j + 1 < s.size, isDig s[j + 1] = true
    · obtain ⟨hlt, hd⟩ := hdig
      have hc := (isDig_iff _).1 hd
      have hc0 : 48 ≤ (s[j + 1].toNat : Int) := by omega
      have hc1 : (s[j + 1].toNat : Int) ≤ 57 := by omega
      by_cases hov : 922337203685477580 < M
      · have hno := Lib.hid (refAt_over s 1 j M hlt hd hr hov)
        clear hr hd hc hb0
        go_wp2
        go_ret3
        exact ⟨no_ret hno.out, Quiet.refl _⟩
      · have hst := Lib.hid (refAt_step s 1 j M hlt hd hr)
        clear hr hd hc hb0
        go_wp2
        go_round
        case rel => exact ⟨j + 1, 10 * M + (s[j + 1].toNat - 48), by omega, by omega, by go_num, by go_num, hst.out⟩
        case measure => simp [intOf]; omega
    · have hno' : ∀ h : j + 1 < s.size, isDig s[j + 1] = false := fun h => by
        cases hx : isDig s[j + 1] with
        | false => rfl
        | true => exact absurd ⟨h, hx⟩ hdig
      by_cases hend : j + 1 < s.size
      · have hcc : ¬ (48 ≤ s[j + 1].toNat ∧ s[j + 1].toNat ≤ 57) := fun h => Bool.false_ne_true ((hno' hend).symm.trans ((isDig_iff _).2 h))
        rcases (by omega : (s[j + 1].toNat : Int) < 48 ∨ 57 < (s[j + 1].toNat : Int)) with hc | hc
        · clear hcc hdig
          obtain ⟨he1, he2, he3, he4⟩ := refAt_end s 1 j M hj hno' hr
          by_cases hj0 : j = 0
          · subst hj0
            have hno := Lib.hid (ok_none _ he2)
            clear hr he1 he2 he3 he4 hb0
            have hcz : (s[1].toNat : Int) < 48 := hc
            clear hc
            go_wp2
            go_ret3
            exact ⟨no_ret hno.out, Quiet.refl _⟩
          · have hj1 : 1 ≤ j := by omega
            have hhd := refAt_head s 1 j M hj hj1 hno' hr (by omega)
            obtain ⟨hvn, hvp⟩ := val_is _ M he4
            have q1 : (((j : Int) + 1) == 1) = false := beq_false_of_ne (by omega)
            have q0 : 1 < s.size := by omega
            by_cases hz : s[1].toNat = 48
            · have hz1 : ((s[1].toNat : Int) == 48) = true := beq_iff_eq.2 (by omega)
              have hno := Lib.hid (ok_nought _ (hhd.trans (head_48 s 1 q0 hz)) (.inr hn))
              clear hr he1 he2 he3 he4 hb0 hhd hz hvn hvp
              by_cases hl : 1 < j
              · go_wp2
                go_ret3
                exact ⟨no_ret hno.out, Quiet.refl _⟩
              · go_wp2
                go_ret3
                exact ⟨no_ret hno.out, Quiet.refl _⟩
            · have hz1 : ((s[1].toNat : Int) == 48) = false := beq_false_of_ne (by omega)
              have hM1 : 1 ≤ M := by rw [← he4]; exact dv_pos _ (digs_all _) (by intro e; rw [e] at he2; simp at he2; omega) (fun e => head_not48 s 1 q0 hz (hhd.symm.trans e))
              by_cases hbig : 9223372036854775808 < M
              · have hno := Lib.hid (ok_great _ (.inl (by rw [hvn hn]; omega)))
                clear hr he1 he2 he3 he4 hb0 hhd hz hvn hvp
                go_wp2
                go_ret3
                exact ⟨no_ret hno.out, Quiet.refl _⟩
              · have hok := Lib.hid (ok_yes _ (by omega) (.inl (fun e => head_not48 s 1 q0 hz (hhd.symm.trans e))) (by rw [hvn hn]; omega) (by rw [hvn hn]; omega))
                have hval := Lib.hid (hvn hn).symm
                have he3 := Lib.hid he3
                clear hr he1 he2 he4 hb0 hhd hz hvn hvp
                go_wp2
                go_quiet (fail)
                go_wp2
                go_ret3
                exact ⟨yes_ret hok.out (by rw [← hval.out]; omega) he3.out, ⟨_, rfl⟩⟩
        · have hc2 : 48 ≤ (s[j + 1].toNat : Int) := by omega
          clear hcc hdig
          obtain ⟨he1, he2, he3, he4⟩ := refAt_end s 1 j M hj hno' hr
          by_cases hj0 : j = 0
          · subst hj0
            have hno := Lib.hid (ok_none _ he2)
            clear hr he1 he2 he3 he4 hb0
            have hcz : 57 < (s[1].toNat : Int) := hc
            have hcy : 48 ≤ (s[1].toNat : Int) := hc2
            clear hc hc2
            go_wp2
            go_ret3
            exact ⟨no_ret hno.out, Quiet.refl _⟩
          · have hj1 : 1 ≤ j := by omega
            have hhd := refAt_head s 1 j M hj hj1 hno' hr (by omega)
            obtain ⟨hvn, hvp⟩ := val_is _ M he4
            have q1 : (((j : Int) + 1) == 1) = false := beq_false_of_ne (by omega)
            have q0 : 1 < s.size := by omega
            by_cases hz : s[1].toNat = 48
            · have hz1 : ((s[1].toNat : Int) == 48) = true := beq_iff_eq.2 (by omega)
              have hno := Lib.hid (ok_nought _ (hhd.trans (head_48 s 1 q0 hz)) (.inr hn))
              clear hr he1 he2 he3 he4 hb0 hhd hz hvn hvp
              by_cases hl : 1 < j
              · go_wp2
                go_ret3
                exact ⟨no_ret hno.out, Quiet.refl _⟩
              · go_wp2
                go_ret3
                exact ⟨no_ret hno.out, Quiet.refl _⟩
            · have hz1 : ((s[1].toNat : Int) == 48) = false := beq_false_of_ne (by omega)
              have hM1 : 1 ≤ M := by rw [← he4]; exact dv_pos _ (digs_all _) (by intro e; rw [e] at he2; simp at he2; omega) (fun e => head_not48 s 1 q0 hz (hhd.symm.trans e))
              by_cases hbig : 9223372036854775808 < M
              · have hno := Lib.hid (ok_great _ (.inl (by rw [hvn hn]; omega)))
                clear hr he1 he2 he3 he4 hb0 hhd hz hvn hvp
                go_wp2
                go_ret3
                exact ⟨no_ret hno.out, Quiet.refl _⟩
              · have hok := Lib.hid (ok_yes _ (by omega) (.inl (fun e => head_not48 s 1 q0 hz (hhd.symm.trans e))) (by rw [hvn hn]; omega) (by rw [hvn hn]; omega))
                have hval := Lib.hid (hvn hn).symm
                have he3 := Lib.hid he3
                clear hr he1 he2 he4 hb0 hhd hz hvn hvp
                go_wp2
                go_quiet (fail)
                go_wp2
                go_ret3
                exact ⟨yes_ret hok.out (by rw [← hval.out]; omega) he3.out, ⟨_, rfl⟩⟩
      · clear hdig
        obtain ⟨he1, he2, he3, he4⟩ := refAt_end s 1 j M hj hno' hr
        by_cases hj0 : j = 0
        · subst hj0
          have hno := Lib.hid (ok_none _ he2)
          clear hr he1 he2 he3 he4 hb0
          go_wp2
          go_ret3
          exact ⟨no_ret hno.out, Quiet.refl _⟩
        · have hj1 : 1 ≤ j := by omega
          have hhd := refAt_head s 1 j M hj hj1 hno' hr (by omega)
          obtain ⟨hvn, hvp⟩ := val_is _ M he4
          have q1 : (((j : Int) + 1) == 1) = false := beq_false_of_ne (by omega)
          have q0 : 1 < s.size := by omega
          by_cases hz : s[1].toNat = 48
          · have hz1 : ((s[1].toNat : Int) == 48) = true := beq_iff_eq.2 (by omega)
            have hno := Lib.hid (ok_nought _ (hhd.trans (head_48 s 1 q0 hz)) (.inr hn))
            clear hr he1 he2 he3 he4 hb0 hhd hz hvn hvp
            by_cases hl : 1 < j
            · go_wp2
              go_ret3
              exact ⟨no_ret hno.out, Quiet.refl _⟩
            · go_wp2
              go_ret3
              exact ⟨no_ret hno.out, Quiet.refl _⟩
          · have hz1 : ((s[1].toNat : Int) == 48) = false := beq_false_of_ne (by omega)
            have hM1 : 1 ≤ M := by rw [← he4]; exact dv_pos _ (digs_all _) (by intro e; rw [e] at he2; simp at he2; omega) (fun e => head_not48 s 1 q0 hz (hhd.symm.trans e))
            by_cases hbig : 9223372036854775808 < M
            · have hno := Lib.hid (ok_great _ (.inl (by rw [hvn hn]; omega)))
              clear hr he1 he2 he3 he4 hb0 hhd hz hvn hvp
              go_wp2
              go_ret3
              exact ⟨no_ret hno.out, Quiet.refl _⟩
            · have hok := Lib.hid (ok_yes _ (by omega) (.inl (fun e => head_not48 s 1 q0 hz (hhd.symm.trans e))) (by rw [hvn hn]; omega) (by rw [hvn hn]; omega))
              have hval := Lib.hid (hvn hn).symm
              have he3 := Lib.hid he3
              clear hr he1 he2 he4 hb0 hhd hz hvn hvp
              go_wp2
              go_quiet (fail)
              go_wp2
              go_ret3
              exact ⟨yes_ret hok.out (by rw [← hval.out]; omega) he3.out, ⟨_, rfl⟩⟩

end Go.Proofs.YtfkkodcppaakjaaGreatDoor
