/- Texts of the proof, merged: PrTells, PrNewP. -/
import Derived.Test.YtfibbjnkicjbpaaGreatDoorTl7
import Derived.Test.YtfibbjnkicjbpaaGreatDoorTl22
import Derived.Test.YtfibbjnkicjbpaaGreatDoorTl23
import Derived.Test.YtfibbjnkicjbpaaGreatDoorTl39
import Derived.Test.YtfibbjnkicjbpaaGreatDoorTl40
/- tells: a policy tells what the document says of its viewers: by a walk over the contracts. -/
namespace Go.Proofs.YtfibbjnkicjbpaaGreatDoor
open Go Go.RowKit

theorem clrV_two (l : List Vw) (s : List UInt8) : ∃ (y : Nat) (z : Int), clrV l s = .tuple #[.int .u64 y, .int .i64 z] := by
  unfold clrV
  cases look l s with
  | none => exact ⟨0, _, rfl⟩
  | some c => exact ⟨c, _, rfl⟩
set_option maxRecDepth 100000 in
set_option maxHeartbeats 4000000 in
theorem tells_any (w : World) (v : Value) (p : Option Addr) (n c a : Nat) (l : List Vw) (s : ByteArray) (hp : PolAt w v l) (hn : l.length = n) (hr : VwRow w p l) (hs : s.size ≤ maxLen) (ha : a < 18446744073709551616) (hT : BTab w) :
    Calls Tryz.prog 19 #[v, .slice p n c, .string s, .int .u64 a] w fun e w' => e = .returned (.bool true) ∧ Below w.heap.size w w' := by
  have hok := hp.ok
  have hlo := hp.lo
  have h64 : n ≤ 64 := by rw [← hn]; exact hok.1
  have HN := Lib.hid hn
  have HOK := Lib.hid hok
  have HLO := Lib.hid hlo
  have HP0 := Lib.hid hp
  have HR0 := Lib.hid hr
  have HT := Lib.hid hT
  obtain ⟨y, z, hyz⟩ := clrV_two l s.data.toList
  have c1 := clearance_any v l s w hp hs
  have c2 := prClearance_any w p n c l s hn (by omega) hr
  rw [hyz] at c1 c2
  clear hok hlo hn hp hr hT hyz
  go_enter Tryz.func19, Tryz.ntmps19
  go_wp2_with fail
  refine c1.mono ?_
  rintro e w' ⟨rfl, rfl⟩
  clear c1
  go_wp2_with fail
  refine c2.mono ?_
  rintro e w' ⟨rfl, rfl⟩
  have c3 := viewers_any v l w HP0.out
  clear c2
  go_wp2_with fail
  refine c3.mono ?_
  rintro e w1 ⟨hb1, p1, k1, rfl, hr1, _⟩
  have HP1 := Lib.hid (HP0.out.later hb1)
  have HR1 := Lib.hid (HR0.out.later hb1)
  have c4 := prSame_any w1 p1 p l.length k1 c l rfl (by have := HN.out; omega) hr1 HR1.out
  rw [HN.out] at c4 ⊢
  have HB1 := Lib.hid hb1
  clear c3 hb1 hr1 HP0 HR0
  go_wp2_with fail
  refine c4.mono ?_
  rintro e w2 ⟨rfl, hb2⟩
  have HP2 := Lib.hid (HP1.out.later hb2)
  have HR2 := Lib.hid (HR1.out.later hb2)
  have HB2 := Lib.hid (HB1.out.trans (hb2.mono HB1.out.size))
  have c5 := clearances_any v l w2 HP2.out
  clear c4 hb2 HP1 HR1 HB1
  go_wp2_with fail
  refine c5.mono ?_
  rintro e w3 ⟨hb3, p3, k3, rfl, hr3, _⟩
  have HP3 := Lib.hid (HP2.out.later hb3)
  have HR3 := Lib.hid (HR2.out.later hb3)
  have HB3 := Lib.hid (HB2.out.trans (hb3.mono HB2.out.size))
  have HL3 := Lib.hid hr3
  have c6 := prClearances_any w3 p n c l HN.out h64 HR3.out HLO.out
  clear c5 hb3 hr3 HP2 HR2 HB2
  go_wp2_with fail
  refine c6.mono ?_
  rintro e w4 ⟨hb4, p4, k4, rfl, hr4, _⟩
  have HP4 := Lib.hid (HP3.out.later hb4)
  have HR4 := Lib.hid (HR3.out.later hb4)
  have HB4 := Lib.hid (HB3.out.trans (hb4.mono HB3.out.size))
  have c7 := prSameLabels_any w4 p3 p4 (clrL l).length k3 k4 (clrL l) rfl (by have := clr_len l; have := HN.out; omega) (HL3.out.later hb4) hr4
  generalize (clrL l).length = nl at *
  clear c6 hb4 hr4 HP3 HR3 HB3 HL3
  go_wp2_with fail
  refine c7.mono ?_
  rintro e w5 ⟨rfl, hb5⟩
  have HP5 := Lib.hid (HP4.out.later hb5)
  have HR5 := Lib.hid (HR4.out.later hb5)
  have HB5 := Lib.hid (HB4.out.trans (hb5.mono HB4.out.size))
  have c8 := polBelow_any v l a w5 HP5.out ha
  clear c7 hb5 HP4 HR4 HB4
  go_wp2_with fail
  refine c8.mono ?_
  rintro e w6 ⟨hb6, p6, k6, rfl, hr6, _⟩
  have HP6 := Lib.hid (HP5.out.later hb6)
  have HR6 := Lib.hid (HR5.out.later hb6)
  have HB6 := Lib.hid (HB5.out.trans (hb6.mono HB5.out.size))
  have HL6 := Lib.hid hr6
  have c9 := prErase_any w6 p n c a l HN.out h64 HR6.out HLO.out ha
  have hnl : (names (l.filter fun x => belowB x.c a)).length = (l.filter fun x => belowB x.c a).length := by unfold names; rw [List.length_map]
  rw [hnl]
  have hfl : (l.filter fun x => belowB x.c a).length ≤ 64 := by
    have := List.length_filter_le (fun x : Vw => belowB x.c a) l
    have := HN.out
    omega
  have HNL := Lib.hid hnl
  clear c8 hb6 hr6 HP5 HR5 HB5 hnl
  go_wp2_with fail
  refine c9.mono ?_
  rintro e w7 ⟨hb7, p7, k7, rfl, hr7, _⟩
  have HP7 := Lib.hid (HP6.out.later hb7)
  have HR7 := Lib.hid (HR6.out.later hb7)
  have HB7 := Lib.hid (HB6.out.trans (hb7.mono HB6.out.size))
  have HL7 := Lib.hid (HL6.out.later hb7)
  have c10 := prNames_any w7 p7 _ k7 _ rfl hfl hr7
  clear c9 hb7 hr7 HP6 HR6 HB6 HL6
  go_wp2_with fail
  refine c10.mono ?_
  rintro e w8 ⟨hb8, p8, k8, rfl, hr8, _⟩
  have HP8 := Lib.hid (HP7.out.later hb8)
  have HR8 := Lib.hid (HR7.out.later hb8)
  have HB8 := Lib.hid (HB7.out.trans (hb8.mono HB7.out.size))
  have c11 := prSameTexts_any w8 p6 p8 _ k6 k8 (names (l.filter fun x => belowB x.c a)) HNL.out (by omega) (HL7.out.later hb8) hr8
  rw [HNL.out]
  generalize (l.filter fun x => belowB x.c a).length = nb at *
  clear c10 hb8 hr8 HP7 HR7 HB7 HL7 HNL hfl
  go_wp2_with fail
  refine c11.mono ?_
  rintro e w9 ⟨rfl, hb9⟩
  have HP9 := Lib.hid (HP8.out.later hb9)
  have HR9 := Lib.hid (HR8.out.later hb9)
  have HB9 := Lib.hid (HB8.out.trans (hb9.mono HB8.out.size))
  have c12 := polAbove_any v l a w9 HP9.out ha
  clear c11 hb9 HP8 HR8 HB8
  go_wp2_with fail
  refine c12.mono ?_
  rintro e w10 ⟨hb10, p10, k10, rfl, hr10, _⟩
  have HP10 := Lib.hid (HP9.out.later hb10)
  have HR10 := Lib.hid (HR9.out.later hb10)
  have HB10 := Lib.hid (HB9.out.trans (hb10.mono HB9.out.size))
  have HL10 := Lib.hid hr10
  have c13 := prAbove_any w10 p n c a l HN.out h64 HR10.out HLO.out ha
  have hfl : (names (l.filter fun x => belowB a x.c)).length ≤ 64 := by
    unfold names
    rw [List.length_map]
    have := List.length_filter_le (fun x : Vw => belowB a x.c) l
    have := HN.out
    omega
  clear c12 hb10 hr10 HP9 HR9 HB9
  go_wp2_with fail
  refine c13.mono ?_
  rintro e w11 ⟨hb11, p11, k11, rfl, hr11, _⟩
  have HP11 := Lib.hid (HP10.out.later hb11)
  have HR11 := Lib.hid (HR10.out.later hb11)
  have HB11 := Lib.hid (HB10.out.trans (hb11.mono HB10.out.size))
  have c14 := prSameTexts_any w11 p10 p11 _ k10 k11 (names (l.filter fun x => belowB a x.c)) rfl (by omega) (HL10.out.later hb11) hr11
  generalize (names (l.filter fun x => belowB a x.c)).length = na at *
  clear c13 hb11 hr11 HP10 HR10 HB10 HL10 hfl
  go_wp2_with fail
  refine c14.mono ?_
  rintro e w12 ⟨rfl, hb12⟩
  have HP12 := Lib.hid (HP11.out.later hb12)
  have HR12 := Lib.hid (HR11.out.later hb12)
  have HB12 := Lib.hid (HB11.out.trans (hb12.mono HB11.out.size))
  have c15 := print_any v l w12 HP12.out (HT.out.below HB12.out)
  clear c14 hb12 HP11 HR11 HB11
  go_wp2_with fail
  refine c15.mono ?_
  rintro e w13 ⟨rfl, hb13⟩
  have HR13 := Lib.hid (HR12.out.later hb13)
  have HB13 := Lib.hid (HB12.out.trans (hb13.mono HB12.out.size))
  have c16 := prPrint_any w13 p n c l HN.out HR13.out HLO.out HOK.out
  clear c15 hb13 HP12 HR12 HB12
  generalize bs (printL l) = tx at *
  go_wp2_with fail
  refine c16.mono ?_
  rintro e w14 ⟨rfl, hb14⟩
  have HB14 := Lib.hid (HB13.out.trans (hb14.mono HB13.out.size))
  clear c16 hb14 HR13 HB13
  go_wp2_with fail
  go_ret
  exact ⟨rfl, HB14.out⟩
end Go.Proofs.YtfibbjnkicjbpaaGreatDoor
/- An own row of viewers with a row of viewers behind it; plain facts of sorting by insertion. -/
namespace Go.Proofs.YtfibbjnkicjbpaaGreatDoor
open Go Go.RowKit

theorem addrAdd' (b off i : Nat) : (⟨b, off, none⟩ : Addr).add i = ⟨b, off + i, none⟩ := by
  unfold Addr.add
  by_cases h : i = 0
  · subst h; rfl
  · simp [h]
theorem app_vw {P : Program} {w : World} {ops : Array Oper} {rest : List Oper} {o : Oper} {a : Act} {Q : Exit → Act → World → Prop} (hgd : o.guard = none) (s x : Operand) (t : TypeId)
    (ho : o.op = .call { callee := .builtin .append, args := #[s, x], argTypes := #[t, t] })
    (base : Nat) (e : TypeId) (i : TypeInfo) (z : Value) (ht : P.underlying t = some (.slice e)) (hi : P.info? e = some i) (hz : i.zero = some z) (hsize : i.size = 2) (hby : i.bytes = 24) (hzs : z.cells.size = 2)
    (v : Value) (m0 : Nat) (ys : List Vw) (hs : a.eval s = v) (hown : w.ownsRow base e 2 v m0 (flat ys)) (p : Option Addr) (m c : Nat) (xs : List Vw) (hx : a.eval x = .slice p m c) (hl : xs.length = m) (hrow : VwRow w p xs) (hnil : p = none → m = 0 ∧ c = 0)
    (hm : m0 + m ≤ 5864062014804) (hbase : base ≤ w.heap.size)
    (h : ∀ v' w', w'.ownsRow base e 2 v' (m0 + m) (flat (ys ++ xs)) → Below base w w' → wpList P ops Q rest (a.put o.dst v') w') : wpList P ops Q (o :: rest) a w := by
  cases p with
  | none =>
    obtain ⟨rfl, rfl⟩ := hnil rfl
    have e0 : xs = [] := List.eq_nil_of_length_eq_zero hl
    subst e0
    exact wpList_append_own_none hgd s x t ho base e i 2 ht hi v m0 (flat ys) hs hown hx (h v w (by rw [List.append_nil]; exact hown) (Below.refl _ _))
  | some ad =>
    refine wpList_append_own w hgd s x t ho base e i z 2 24 ht hi hz hsize hby hzs (by decide) v m0 (flat ys) hs hown ad m c (flat xs) hx (by rw [flat_len, hl]) ?_ ?_ (by unfold maxLen; omega) (by omega) hbase ?_
    · intro j u hj
      have hjl : j < (flat xs).length := by
        rcases Nat.lt_or_ge j (flat xs).length with h' | h'
        · exact h'
        · rw [List.getElem?_eq_none h'] at hj; cases hj
      rw [flat_len] at hjl
      have hi' : j / 2 < xs.length := by omega
      obtain ⟨b, off, e1, hlt, h0, h1⟩ := hrow (j / 2) hi'
      injection e1 with e1
      subst e1
      have hf := flat_at xs (j / 2) (j % 2) hi' (Nat.mod_lt _ (by decide))
      have ej : j / 2 * 2 + j % 2 = j := by omega
      rw [ej, hj] at hf
      rw [addrAdd']
      have hr : j % 2 = 0 ∨ j % 2 = 1 := by omega
      rcases hr with r | r
      · rw [r] at hf
        rw [show off + j = off + j / 2 * 2 by omega, h0]; exact hf.symm
      · rw [r] at hf
        rw [show off + j = off + j / 2 * 2 + 1 by omega, h1]; exact hf.symm
    · intro u hu
      unfold flat at hu
      obtain ⟨x, _, hx⟩ := List.mem_flatMap.1 hu
      simp [Vw.vals] at hx
      rcases hx with rfl | rfl <;> rfl
    · intro v' w' ho' hg _
      refine h v' w' ?_ ((Below.refl base w).grown hg hbase fun g hg' => (hown.lt g hg').1)
      rw [show flat (ys ++ xs) = flat ys ++ flat xs by simp [flat]]
      exact ho'
/-- Where a name stands in rising names. -/
def AtPlace (S : List Vw) (x : Vw) (k : Nat) : Prop := k ≤ S.length ∧ (∀ j (h : j < S.length), j < k → S[j].s < x.s) ∧ ∀ h : k < S.length, ¬ S[k].s < x.s
theorem place_new {S : List Vw} {x : Vw} {k : Nat} (hS : Rising S) (hp : AtPlace S x k) (hne : ∀ h : k < S.length, S[k].s ≠ x.s) : Rising (S.take k ++ x :: S.drop k) ∧ (S ++ [x]).Perm (S.take k ++ x :: S.drop k) := by
  obtain ⟨hk, h1, h2⟩ := hp
  constructor
  · unfold Rising
    rw [List.pairwise_append]
    refine ⟨List.Pairwise.sublist (List.take_sublist k S) hS, ?_, ?_⟩
    · rw [List.pairwise_cons]
      refine ⟨fun y hy => ?_, List.Pairwise.sublist (List.drop_sublist k S) hS⟩
      obtain ⟨j, hj, rfl⟩ := List.getElem_of_mem hy
      rw [List.getElem_drop]
      have hkl : k < S.length := by rw [List.length_drop] at hj; omega
      have h3 : x.s < S[k].s := by
        rcases Std.lt_trichotomy S[k].s x.s with h | h | h
        · exact absurd h (h2 hkl)
        · exact absurd h (hne hkl)
        · exact h
      rcases Nat.eq_zero_or_pos j with h0 | h0
      · subst h0; exact h3
      · have := List.pairwise_iff_getElem.1 hS k (k + j) hkl (by rw [List.length_drop] at hj; omega) (by omega)
        exact Std.lt_trans h3 this
    · intro y hy z hz
      obtain ⟨i, hi, rfl⟩ := List.getElem_of_mem hy
      rw [List.length_take] at hi
      rw [List.getElem_take]
      rcases List.mem_cons.1 hz with rfl | hz
      · exact h1 i (by omega) (by omega)
      · obtain ⟨j, hj, rfl⟩ := List.getElem_of_mem hz
        rw [List.getElem_drop]
        rw [List.length_drop] at hj
        exact List.pairwise_iff_getElem.1 hS i (k + j) (by omega) (by omega) (by omega)
  · have e : S ++ [x] = (S.take k ++ S.drop k) ++ [x] := by rw [List.take_append_drop]
    rw [e, List.append_assoc]
    exact List.Perm.append_left _ (List.perm_append_comm (l₁ := S.drop k) (l₂ := [x]))
theorem place_twice {S : List Vw} {x : Vw} {k : Nat} (h : k < S.length) (e : S[k].s = x.s) : x.s ∈ names S := by
  rw [← e]; exact List.mem_map_of_mem (List.getElem_mem h)
end Go.Proofs.YtfibbjnkicjbpaaGreatDoor
