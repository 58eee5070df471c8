/- The document's Between, by its contract. -/
import Derived.Test.YtglpkadpohbfmaaLbBetwP
import Derived.Test.YtglpkadpohbfmaaLbBoth
import Derived.Test.YtglpkadpohbfmaaNumCopy
import Derived.Test.YtglpkadpohbfmaaLbList
namespace Go.Proofs.Ytglpkadpohbfmaa
open Go.RowKit

theorem subs_zero : ∀ l, subs l 0 = 0
  | [] => rfl
  | c :: l => by rw [subs, show 0 / 2 = 0 from rfl, subs_zero l]; simp
theorem subs_app : ∀ xs ys j, subs (xs ++ ys) j = subs xs j + subs ys (j / 2 ^ xs.length)
  | [], ys, j => by simp [subs]
  | x :: xs, ys, j => by
    rw [List.cons_append, subs, subs, subs_app xs, List.length_cons, Nat.pow_succ, Nat.mul_comm (2 ^ xs.length) 2, Nat.div_div_eq_div_mul]
    omega
theorem subs_add (fs : List Nat) (i k : Nat) (hi : i < fs.length) (hk : k < 2 ^ i) : subs fs (2 ^ i + k) = subs fs k + 2 ^ fs[i] := by
  have hl : (fs.take i).length = i := by rw [List.length_take]; omega
  have e : fs = fs.take i ++ fs[i] :: fs.drop (i + 1) := by
    conv => lhs; rw [← List.take_append_drop i fs]
    rw [List.drop_eq_getElem_cons hi]
  have hp : 0 < 2 ^ i := Nat.two_pow_pos i
  have d1 : (2 ^ i + k) / 2 ^ i = 1 := by
    rw [Nat.add_comm, Nat.add_div_right _ hp, Nat.div_eq_of_lt hk]
  have d2 : k / 2 ^ i = 0 := Nat.div_eq_of_lt hk
  have h1 := subs_app (fs.take i) (fs[i] :: fs.drop (i + 1)) (2 ^ i + k)
  have h2 := subs_app (fs.take i) (fs[i] :: fs.drop (i + 1)) k
  have h3 := subs_hi (fs.take i) k
  rw [hl] at h1 h2 h3
  rw [← e, d1, h3, subs, show 1 / 2 = 0 from rfl, subs_zero] at h1
  rw [← e, d2, subs_zero] at h2
  rw [h1, h2]; simp
/-- The j-th of those between. -/
def elB (a b j : Nat) : Nat := a ||| dep 64 (lessN b a) j
theorem el_add (a b i k : Nat) (ha : a < 18446744073709551616) (hb : b < 18446744073709551616) (hi : i < (listTo (lessN b a) 64).length) (hk : k < 2 ^ i) :
    elB a b (2 ^ i + k) = elB a b k + 2 ^ (listTo (lessN b a) 64)[i] := by
  unfold elB
  rw [sum_or a b _ ha hb, sum_or a b _ ha hb, ← subs_dep, ← subs_dep, subs_add _ i k hi hk]; omega
theorem el_lt (a b j : Nat) (ha : a < 18446744073709551616) (hb : b < 18446744073709551616) : elB a b j < 18446744073709551616 := or_lt64 a b j ha hb
theorem el_zero (a b : Nat) : elB a b 0 = a := by unfold elB; rw [dep_zero, Nat.or_zero]
def elsB (a b m : Nat) : List Int := (List.range m).map fun j => ((elB a b j : Nat) : Int)
theorem els_succ (a b m : Nat) : elsB a b (m + 1) = elsB a b m ++ [((elB a b m : Nat) : Int)] := by
  unfold elsB; rw [List.range_succ, List.map_append]; rfl
theorem els_len (a b m : Nat) : (elsB a b m).length = m := by unfold elsB; rw [List.length_map, List.length_range]
theorem els_betw (a b : Nat) (h : belowB a b = true) : elsB a b (2 ^ cnt (lessN b a)) = (betw a b).map fun x : Nat => (x : Int) := by
  unfold elsB betw
  rw [if_pos h, List.map_map]; rfl
theorem of_one (c : Nat) (h : c < 64) : ofW [(c : Int)] = 2 ^ c ∧ ofE [(c : Int)] = 0 := by
  obtain ⟨h1, h2⟩ := of_good [(c : Int)] fun k hk => by
    match k, hk with
    | 0, _ => exact ⟨by show (0 : Int) ≤ (c : Int); omega, by show (c : Int) ≤ 63; omega⟩
  refine ⟨?_, h2⟩
  rw [h1]
  refine word_ext (wordOf_lt _) (Nat.pow_lt_pow_right (by decide) h) fun i hi => ?_
  rw [wordOf_bit _ i hi, Nat.testBit_two_pow]
  unfold ofF
  rw [Bool.eq_iff_iff]; simp; omega
theorem labInfo : (Try.prog.info? 25).map (fun i => (i.zero, i.size, i.bytes)) = some (some (.int .u64 0), 1, 8) := by kernel_rfl

set_option maxRecDepth 100000 in
set_option maxHeartbeats 4000000 in
theorem refBetween_any (a b : Nat) (w : World) (ha : a < 18446744073709551616) (hb : b < 18446744073709551616) (hle : cnt (lessN b a) ≤ 16) :
    Calls Try.prog 10 #[.int .u64 a, .int .u64 b] w fun e w' => ∃ p n c, e = .returned (.tuple #[.slice p n c, .int .i64 0]) ∧ n = (betw a b).length ∧ NumRow .u64 w' p ((betw a b).map fun x : Nat => (x : Int)) ∧ Below w.heap.size w w' := by
  have cB : Calls Try.prog 20 #[.int .u64 b, .int .u64 a, .int .i64 3] w fun e w' => e = .returned (.int .u64 (lessN b a : Nat)) ∧ Below w.heap.size w w' := by
    have h := refBoth_any b a 3 w hb ha (.inr (.inr rfl))
    rw [both_less b a hb ha] at h
    exact h
  have hcnt : cnt (lessN b a) = (listTo (lessN b a) 64).length := rfl
  have hf := less_lt b a hb
  obtain ⟨i0, hi, hz0, hz1, hz2⟩ := info_parts labInfo
  go_enter Try.func10, Try.ntmps10
  go_wp2_with fail
  refine cB.mono ?_
  rintro e w1 ⟨rfl, hb1⟩
  go_wp2_with fail
  refine (refList_any (lessN b a) w1 hf).mono ?_
  rintro e w2 ⟨pf, cf, rfl, hb2, hof⟩
  have hbw2 := hb1.trans (hb2.mono hb1.size)
  have hn16 : ¬ (16 : Int) < ((listTo (lessN b a) 64).length : Int) := by omega
  have cL := refBelow_any a b w2 ha hb
  clear cB hb1 hb2
  cases hbl : belowB a b
  · rw [hbl] at cL
    have e0 := betw_none a b hbl
    have HE := Lib.hid e0
    clear e0
    go_wp2_with fail
    refine cL.mono ?_
    rintro e w3 ⟨rfl, hb3⟩
    have hbw3 := hbw2.trans (hb3.mono hbw2.size)
    clear cL hb3
    go_wp2_with fail
    go_ret2
    exact ⟨none, 0, 0, rfl, by rw [HE.out]; rfl, by rw [HE.out]; exact fun i hi => absurd hi (Nat.not_lt_zero _), hbw3⟩
  · rw [hbl] at cL
    go_wp2_with fail
    refine cL.mono ?_
    rintro e w3 ⟨rfl, hb3⟩
    have hbw3 := hbw2.trans (hb3.mono hbw2.size)
    have hof3 := own_later hof hb3
    have HOF := Lib.hid hof3
    have HADD := Lib.hid (fun i k hi hk => el_add a b i k ha hb hi hk)
    have HLT := Lib.hid (fun j => el_lt a b j ha hb)
    have H64 := Lib.hid (fun i => list_lt (lessN b a) 64 i)
    have HEL := Lib.hid (els_betw a b hbl)
    have HBL := Lib.hid (betw_len a b hbl)
    have h0 := World.ownsRow_lit (base := w3.heap.size) (e := 25) (size := 1) w3 #[.int .u64 a] 1 (Nat.le_refl _) (by decide) rfl
    have hst : Hid ((w3.alloc (.cells #[.int .u64 a] 25)).ownsRow w3.heap.size 25 1 (.slice (some ⟨w3.heap.size, 0, none⟩) 1 1) (2 ^ 0) (nums .u64 (elsB a b (2 ^ 0)))) := by
      show World.ownsRow _ _ _ _ _ _ _
      have e : nums .u64 (elsB a b (2 ^ 0)) = [.int .u64 (a : Int)] := by
        show nums .u64 (elsB a b (0 + 1)) = _
        rw [els_succ, el_zero]; rfl
      rw [e]; exact h0
    have hB3 := hbw3.size
    clear cL hb3 hof hof3 h0
    generalize listTo (lessN b a) 64 = fs at *
    go_wp2_with fail
    go_loopg [7, 8] fs.length (fun g v i wr => ∃ k : Nat, k + g = fs.length ∧ i = .int .i64 k ∧ Below w3.heap.size w3 wr ∧ Hid (wr.ownsRow w3.heap.size 25 1 v (2 ^ k) (nums .u64 (elsB a b (2 ^ k)))))
    case atStart => exact ⟨0, by omega, rfl, (Below.refl _ _).alloc (Nat.le_refl _) _, hst⟩
    case round =>
      obtain ⟨wo, rfl⟩ : ∃ wo, wo = wr := ⟨_, rfl⟩
      obtain ⟨k, hk, rfl, hbr, ho⟩ := hrel
      by_cases hlt : k < fs.length
      · have hfs : fs.length ≤ 16 := by omega
        have hof := HOF.out
        obtain ⟨g, rfl⟩ : ∃ g, pf = some ⟨g, 0, none⟩ := by
          rcases hof.2 with ⟨hv, h0'⟩ | ⟨g, cap, cur, hv, _⟩
          · omega
          · injection hv with e1 _ _
            exact ⟨g, e1⟩
        have hcf : fs.length ≤ cf := by
          rcases hof.2 with ⟨hv, h0'⟩ | ⟨g', cap, cur, hv, _, _, hc, _⟩
          · omega
          · injection hv with _ _ e3
            omega
        have hck := hof.cellAt k (by omega)
        unfold ints at hck
        rw [List.getElem?_map, List.getElem?_eq_getElem hlt] at hck
        have hgl := World.block_lt_of_cell? w3 _ (show w3.cell? ⟨g, k, none⟩ = some (.int .i64 (fs[k] : Nat)) from hck)
        have hcw := (hbr.cell (p := ⟨g, k, none⟩) hgl).trans hck
        have hc64 := H64.out fs[k] (List.getElem_mem hlt)
        have hadd : Hid (∀ q, q < 2 ^ k → elB a b (2 ^ k + q) = elB a b q + 2 ^ fs[k]) := fun q hq => HADD.out k q hlt hq
        generalize fs[k] = c at *
        have hone := of_one c hc64
        have cO := refOf_any wo (some ⟨g, k, none⟩) 1 (cf - k) [(c : Int)] (fun i hi => by
          match i, hi with
          | 0, _ => exact ⟨g, k, rfl, Nat.lt_of_lt_of_le hgl hbr.size, hcw⟩) rfl (by decide)
        rw [hone.1, hone.2] at cO
        have hkk : (0 : Int) ≤ (k : Int) := Int.natCast_nonneg _
        have hk1 : (k : Int) + 1 ≤ (cf : Int) := by omega
        have hkl : (k : Int) < (fs.length : Int) := by omega
        have hp16 : 2 ^ k ≤ 65536 := (Nat.pow_le_pow_right (by decide : 2 > 0) (by omega) : 2 ^ k ≤ 2 ^ 16)
        obtain ⟨pv, cv, rfl⟩ := own_slice ho.out
        clear hof hck hcw hone HOF
        go_wp2_with fail
        refine cO.mono ?_
        rintro e w5 ⟨rfl, hb5⟩
        have hbr5 := hbr.trans (hb5.mono hbr.size)
        have HO5 := Lib.hid (own_later ho.out hb5)
        have hpc : 2 ^ c < 18446744073709551616 := (Nat.pow_lt_pow_right (by decide : 1 < 2) hc64 : 2 ^ c < 2 ^ 64)
        clear cO hb5 hbr ho
        have hp2 : Hid (2 ^ (k + 1) = 2 ^ k + 2 ^ k) := by show _ = _; rw [Nat.pow_succ]; omega
        generalize 2 ^ c = one at *
        obtain ⟨N, hN⟩ : ∃ N, 2 ^ k = N := ⟨_, rfl⟩
        rw [hN] at hp16 hadd HO5 hp2
        rw [hN]
        clear hN
        go_wp2_with fail
        go_loopg [7, 12] N (fun g' v i wx => ∃ q : Nat, q + g' = N ∧ i = .int .i64 q ∧ Below w3.heap.size w3 wx ∧ Hid (wx.ownsRow w3.heap.size 25 1 v (N + q) (nums .u64 (elsB a b (N + q)))))
        case atStart => exact ⟨0, by omega, rfl, hbr5, HO5⟩
        case round =>
          clear hbr5 HO5
          obtain ⟨q, hq, rfl, hbq, hoq⟩ := hrel
          obtain ⟨pq, cq, rfl⟩ := own_slice hoq.out
          by_cases hqN : q < N
          · have hrq := nums_row' hoq.out
            obtain ⟨b1, o1, rfl, hb1l, h1c⟩ := hrq.at q (by rw [els_len]; omega)
            have g1 := h1c wr (Below.refl _ _)
            have hge : (elsB a b (N + q))[q]'(by rw [els_len]; omega) = ((elB a b q : Nat) : Int) := by
              unfold elsB; rw [List.getElem_map, List.getElem_range]
            rw [hge] at g1
            have hs1 := hadd.out q hqN
            have hl1 := HLT.out (N + q)
            have hsn := Lib.hid (els_succ a b (N + q))
            rw [hs1] at hl1
            rw [hs1] at hsn
            generalize elB a b q = x at *
            have hq0 : (0 : Int) ≤ (q : Int) := Int.natCast_nonneg _
            have hqi : (q : Int) < (N : Int) := by omega
            have hqi2 : (q : Int) < ((N + q : Nat) : Int) := by omega
            have ho' := hoq.out
            have hbsz := hbq.size
            clear hge hs1 h1c hoq hrq hadd
            go_wp2_with (at_builtin; refine wpList_append_own _ rfl _ _ 23 rfl w3.heap.size 25 i0 (.int .u64 0) 1 8 Try.underlying23 hi hz0 hz1 hz2 rfl (by decide) _ _ _ rfl (ho'.alloc _) ⟨wr.heap.size, 0, none⟩ 1 1 [.int .u64 ((x : Int) + (one : Int))] rfl rfl ?c1 ?c2 ?c3 ?c4 ?c5 ?_)
            case c1 =>
              intro j u hj
              match j, hj with
              | 0, hj => simp at hj; subst hj; simp [Addr.add]
            case c2 => intro u hu; simp at hu; subst hu; rfl
            case c3 => unfold maxLen; omega
            case c4 => omega
            case c5 => simp; omega
            intro v' w6 hown' hgrow _
            have hb6 : Below w3.heap.size w3 w6 := (hbq.alloc (by omega) _).grown hgrow (by simp; omega) (fun g hg => (ho'.lt g hg).1)
            have HO6 : Hid (w6.ownsRow w3.heap.size 25 1 v' (N + (q + 1)) (nums .u64 (elsB a b (N + (q + 1))))) := by
              show World.ownsRow _ _ _ _ _ _ _
              rw [show N + (q + 1) = N + q + 1 by omega, hsn.out]
              unfold nums at hown' ⊢
              rw [List.map_append, List.map_singleton]
              exact hown'
            clear ho' hown' hgrow hsn
            go_wp2_with fail
            go_roundg (N - (q + 1))
            case rel => exact ⟨q + 1, by omega, by go_num, hb6, HO6⟩
            case measure => omega
          · obtain rfl : q = N := by omega
            have HO7 : Hid (wr.ownsRow w3.heap.size 25 1 (.slice pq (q + q) cq) (2 ^ (k + 1)) (nums .u64 (elsB a b (2 ^ (k + 1))))) := by
              show World.ownsRow _ _ _ _ _ _ _
              rw [hp2.out]; exact hoq.out
            clear hoq hadd hp2
            go_wp2_with fail
            go_roundg (fs.length - (k + 1))
            case rel => exact ⟨k + 1, by omega, by go_num, hbq, HO7⟩
            case measure => omega
      · obtain rfl : k = fs.length := by omega
        obtain ⟨p, c, rfl⟩ := own_slice ho.out
        have hrow := nums_row' ho.out
        rw [← hcnt, HEL.out] at hrow
        have hfin : 2 ^ fs.length = (betw a b).length := by rw [HBL.out, hcnt]
        have hbe := hbw3.trans (hbr.mono hB3)
        have HF := Lib.hid hfin
        clear ho hfin
        go_wp2_with fail
        go_ret2
        exact ⟨p, _, c, rfl, HF.out, hrow, hbe⟩

set_option maxRecDepth 100000 in
set_option maxHeartbeats 2000000 in
theorem refBetween_big (a b : Nat) (w : World) (ha : a < 18446744073709551616) (hb : b < 18446744073709551616) (hle : 16 < cnt (lessN b a)) :
    Calls Try.prog 10 #[.int .u64 a, .int .u64 b] w fun e w' => e = .returned (.tuple #[.slice none 0 0, .int .i64 1]) ∧ Below w.heap.size w w' := by
  have cB : Calls Try.prog 20 #[.int .u64 b, .int .u64 a, .int .i64 3] w fun e w' => e = .returned (.int .u64 (lessN b a : Nat)) ∧ Below w.heap.size w w' := by
    have h := refBoth_any b a 3 w hb ha (.inr (.inr rfl))
    rw [both_less b a hb ha] at h
    exact h
  have hcnt : cnt (lessN b a) = (listTo (lessN b a) 64).length := rfl
  have hf := less_lt b a hb
  go_enter Try.func10, Try.ntmps10
  go_wp2_with fail
  refine cB.mono ?_
  rintro e w1 ⟨rfl, hb1⟩
  go_wp2_with fail
  refine (refList_any (lessN b a) w1 hf).mono ?_
  rintro e w2 ⟨pf, cf, rfl, hb2, hof⟩
  have hbw2 := hb1.trans (hb2.mono hb1.size)
  have hn16 : (16 : Int) < ((listTo (lessN b a) 64).length : Int) := by omega
  clear cB hb1 hb2 hof
  go_wp2_with fail
  go_ret2
  exact ⟨rfl, hbw2⟩
end Go.Proofs.Ytglpkadpohbfmaa
