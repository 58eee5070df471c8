/- scrimref06.Labels, by its contract: by selection. -/
import Derived.Test.YtdpikdkhemhmdaaViLabels
namespace Go.Proofs.Ytdpikdkhemhmdaa
open Go Go.RowKit

def clrL (l : List Li) : List Nat := onceC (labsOf l)
def cls (l : List Li) : List Nat := labsOf l
theorem clr_mem {l : List Li} {c : Nat} : c ∈ clrL l ↔ c ∈ cls l := mem_onceC _ _
theorem clr_rise (l : List Li) : RiseC (clrL l) := onceC_rise _
theorem rise_at {T : List Nat} (h : RiseC T) {i j : Nat} (hi : i < j) (hj : j < T.length) : T[i]'(by omega) < T[j] := List.pairwise_iff_getElem.1 h i j (by omega) hj hi
/-- May it stand next? -/
def nextE (T : List Nat) (m c : Nat) : Prop := m = 0 ∨ T.getD (m - 1) 0 < c
theorem next_none {l : List Li} {m : Nat} (hm : m ≤ (clrL l).length) (h : ∀ c ∈ cls l, ¬ nextE (clrL l) m c) : m = (clrL l).length := by
  rcases Nat.lt_or_eq_of_le hm with hlt | e
  · exfalso
    refine h _ (clr_mem.1 (List.getElem_mem hlt)) ?_
    rcases Nat.eq_zero_or_pos m with h0 | h0
    · exact .inl h0
    · refine .inr ?_
      rw [List.getD_eq_getElem?_getD, List.getElem?_eq_getElem (by omega)]
      exact rise_at (clr_rise l) (by omega) hlt
  · exact e
theorem next_some {l : List Li} {m a : Nat} (hm : m ≤ (clrL l).length) (ha : a ∈ cls l) (hE : nextE (clrL l) m a) (h : ∀ c ∈ cls l, nextE (clrL l) m c → a ≤ c) : ∃ hlt : m < (clrL l).length, (clrL l)[m] = a := by
  obtain ⟨j, hj, e⟩ := List.getElem_of_mem (clr_mem.2 ha)
  have hmj : m ≤ j := by
    rcases hE with h0 | h0
    · omega
    · rcases Nat.lt_or_ge j m with hlt | hge
      · exfalso
        rw [List.getD_eq_getElem?_getD, List.getElem?_eq_getElem (by omega)] at h0
        simp only [Option.getD_some] at h0
        rcases Nat.lt_or_eq_of_le (Nat.le_sub_one_of_lt hlt) with hl | he
        · have := rise_at (clr_rise l) hl (by omega)
          omega
        · subst he; omega
      · exact hge
  have hlt : m < (clrL l).length := by omega
  refine ⟨hlt, ?_⟩
  have h2 : nextE (clrL l) m (clrL l)[m] := by
    rcases Nat.eq_zero_or_pos m with h0 | h0
    · exact .inl h0
    · refine .inr ?_
      rw [List.getD_eq_getElem?_getD, List.getElem?_eq_getElem (by omega)]
      exact rise_at (clr_rise l) (by omega) hlt
  have h3 := h _ (clr_mem.1 (List.getElem_mem hlt)) h2
  rcases Nat.lt_or_eq_of_le hmj with hl | he
  · have := rise_at (clr_rise l) hl hj
    omega
  · subst he; exact e
theorem wrap_nat (m : Nat) (h : m ≤ 4611686018427387904) : wrap64 (m : Int) = (m : Int) := by unfold wrap64; omega
theorem clr_len (l : List Li) : (clrL l).length ≤ l.length := by have := onceC_len (labsOf l); unfold clrL; rw [labs_len] at this; exact this
/-- What the search has found. -/
def Found (l : List Li) (m j : Nat) (f le : Value) : Prop := (f = .bool false ∧ le = .int .u64 0 ∧ ∀ i (h : i < l.length), i < j → ¬ nextE (clrL l) m l[i].u) ∨
  (∃ a : Nat, f = .bool true ∧ le = .int .u64 a ∧ a < 18446744073709551616 ∧ a ∈ cls l ∧ nextE (clrL l) m a ∧ ∀ i (h : i < l.length), i < j → nextE (clrL l) m l[i].u → a ≤ l[i].u)
theorem found_skip {l : List Li} {m j : Nat} (hj : j < l.length) (h : ¬ nextE (clrL l) m l[j].u) {f le : Value} (hf : Found l m j f le) : Found l m (j + 1) f le := by
  rcases hf with ⟨e1, e2, h3⟩ | ⟨a, e1, e2, h3, h4, h5, h6⟩
  · refine .inl ⟨e1, e2, fun i hi hij => ?_⟩
    by_cases e : i = j
    · subst e; exact h
    · exact h3 i hi (by omega)
  · refine .inr ⟨a, e1, e2, h3, h4, h5, fun i hi hij hE => ?_⟩
    by_cases e : i = j
    · subst e; exact absurd hE h
    · exact h6 i hi (by omega) hE
theorem found_first {l : List Li} {m j : Nat} (hj : j < l.length) (h64 : l[j].u < 18446744073709551616) (h : nextE (clrL l) m l[j].u) {le : Value} (hf : Found l m j (.bool false) le) : Found l m (j + 1) (.bool true) (.int .u64 l[j].u) := by
  rcases hf with ⟨_, _, h3⟩ | ⟨a, e1, _⟩
  · refine .inr ⟨l[j].u, rfl, rfl, h64, List.mem_map_of_mem (List.getElem_mem hj), h, fun i hi hij hE => ?_⟩
    by_cases e : i = j
    · subst e; exact Nat.le_refl _
    · exact absurd hE (h3 i hi (by omega))
  · simp at e1
theorem found_true {l : List Li} {m j : Nat} {a : Nat} (hf : Found l m j (.bool true) (.int .u64 a)) : a < 18446744073709551616 ∧ a ∈ cls l ∧ nextE (clrL l) m a ∧ ∀ i (h : i < l.length), i < j → nextE (clrL l) m l[i].u → a ≤ l[i].u := by
  rcases hf with ⟨e1, _⟩ | ⟨a', _, e2, h⟩
  · simp at e1
  · simp only [Value.int.injEq, true_and] at e2
    have : a = a' := by omega
    subst this
    exact h
theorem found_less {l : List Li} {m j a : Nat} (hj : j < l.length) (h64 : l[j].u < 18446744073709551616) (h : nextE (clrL l) m l[j].u) (hf : Found l m j (.bool true) (.int .u64 a)) (hlt : l[j].u < a) : Found l m (j + 1) (.bool true) (.int .u64 l[j].u) := by
  obtain ⟨_, _, _, h6⟩ := found_true hf
  refine .inr ⟨l[j].u, rfl, rfl, h64, List.mem_map_of_mem (List.getElem_mem hj), h, fun i hi hij hE => ?_⟩
  by_cases e : i = j
  · subst e; exact Nat.le_refl _
  · have := h6 i hi (by omega) hE
    omega
theorem found_keep {l : List Li} {m j a : Nat} (hj : j < l.length) (hf : Found l m j (.bool true) (.int .u64 a)) (hge : a ≤ l[j].u) : Found l m (j + 1) (.bool true) (.int .u64 a) := by
  obtain ⟨h3, h4, h5, h6⟩ := found_true hf
  refine .inr ⟨a, rfl, rfl, h3, h4, h5, fun i hi hij hE => ?_⟩
  by_cases e : i = j
  · subst e; exact hge
  · exact h6 i hi (by omega) hE
set_option maxRecDepth 100000 in
set_option maxHeartbeats 4000000 in
theorem refLabels_any (w : World) (p : Option Addr) (n c : Nat) (l : List Li) (hn : l.length = n) (h64 : n ≤ 3518437208883) (hr : LiRow w p l) (hl : ∀ x ∈ l, x.u < 18446744073709551616) :
    Calls Try.prog 31 #[.slice p n c] w (GivesLab w (clrL l)) := by
  obtain ⟨i0, hi, hz0, hz1, hz2⟩ := info_parts labInfo
  have hTl := clr_len l
  have HN := Lib.hid hn
  clear hn
  obtain ⟨T, hT⟩ : ∃ T, clrL l = T := ⟨_, rfl⟩
  have HT := Lib.hid hT
  rw [hT] at hTl ⊢
  clear hT
  go_enter Try.func31, Try.ntmps31
  go_wp2
  go_loopg [3] (T.length + 1) (fun g u wr => ∃ m : Nat, m + g = T.length + 1 ∧ m ≤ T.length ∧ Below w.heap.size w wr ∧ Hid (wr.ownsRow w.heap.size 24 1 u m (labVals (T.take m))))
  case atStart => exact ⟨0, by omega, by omega, Below.refl _ _, World.ownsRow_nil _ _ _ _⟩
  case round =>
    obtain ⟨wo, rfl⟩ : ∃ wo, wo = wr := ⟨_, rfl⟩
    obtain ⟨G, rfl⟩ : ∃ G, G = gk := ⟨_, rfl⟩
    obtain ⟨m, hm, hml, hbr, HO⟩ := hrel
    have hmT : m ≤ T.length := hml
    have hrow : ∃ pu cu, _ = Value.slice pu m cu ∧ LabRow wo pu (T.take m) := lab_owned (by rw [List.length_take]; omega) HO.out
    obtain ⟨pu, cu, hu, hrow⟩ := hrow
    have ho := HO.out
    rw [hu] at ho ⊢
    have HO2 := Lib.hid ho
    have HR2 := Lib.hid hrow
    have hsr := hbr.size
    have HB := Lib.hid hbr
    clear HO hu ho hrow hbr
    go_wp2_with fail
    go_loopg [4, 5, 6] n (fun g f le i wx => ∃ j : Nat, j + g = n ∧ i = .int .i64 j ∧ wx = wo ∧ Hid (Found l m j f le))
    case atStart => exact ⟨0, by omega, rfl, rfl, .inl ⟨rfl, rfl, fun i _ h => absurd h (Nat.not_lt_zero _)⟩⟩
    case round =>
      obtain ⟨j, hj, rfl, rfl, HF⟩ := hrel
      have hj0 : (0 : Int) ≤ (j : Int) := by omega
      by_cases hlt : j < n
      · have hlt' : j < l.length := by rw [HN.out]; exact hlt
        obtain ⟨b1, o1, rfl, _, h1c⟩ := hr.at j hlt'
        obtain ⟨g0, g1, g2, g3⟩ := h1c _ HB.out
        have hx := hl _ (List.getElem_mem hlt')
        have hxm : l[j].u ∈ cls l := List.mem_map_of_mem (List.getElem_mem hlt')
        have hjI : (j : Int) < (n : Int) := by omega
        have hsk := Lib.hid (@found_skip l m j hlt')
        have hfi := Lib.hid (@found_first l m j hlt' hx)
        have hle := Lib.hid (fun a => @found_less l m j a hlt' hx)
        have hke := Lib.hid (fun a => @found_keep l m j a hlt')
        clear h1c
        generalize l[j] = x at *
        clear hxm hl hr
        rcases Nat.eq_zero_or_pos m with hm0 | hm0
        · subst hm0
          have hE : Hid (nextE (clrL l) 0 x.u) := .inl rfl
          rcases HF.out with ⟨rfl, rfl, _⟩ | ⟨a, rfl, rfl, ha, _⟩
          · have HF2 := Lib.hid (hfi.out hE.out HF.out)
            clear hsk hfi hle hke HF hE
            go_wp2_with fail
            go_roundg (gk - 1)
            case rel => exact ⟨j + 1, by omega, by go_num, rfl, HF2⟩
            case measure => omega
          · by_cases hca : x.u < a
            · have HF2 := Lib.hid (hle.out a hE.out HF.out hca)
              have hcI : ¬ ((a : Int) ≤ (x.u : Int)) := by omega
              clear hsk hfi hle hke HF hE
              go_wp2_with fail
              go_roundg (gk - 1)
              case rel => exact ⟨j + 1, by omega, by go_num, rfl, HF2⟩
              case measure => omega
            · have HF2 := Lib.hid (hke.out a HF.out (by omega))
              have hcI : (a : Int) ≤ (x.u : Int) := by omega
              clear hsk hfi hle hke HF hE
              go_wp2_with fail
              go_roundg (gk - 1)
              case rel => exact ⟨j + 1, by omega, by go_num, rfl, HF2⟩
              case measure => omega
        · obtain ⟨m', rfl⟩ : ∃ m', m = m' + 1 := ⟨m - 1, by omega⟩
          obtain ⟨bq, oq, rfl, _, hqc⟩ := HR2.out.at m' (by rw [List.length_take]; omega)
          have gq := hqc _ (Below.refl _ _)
          have hqd : (T.take (m' + 1))[m']'(by rw [List.length_take]; omega) = (clrL l).getD (m' + 1 - 1) 0 := by
            rw [HT.out, List.getElem_take, List.getD_eq_getElem?_getD, Nat.add_sub_cancel, List.getElem?_eq_getElem (by omega)]; rfl
          have hEi : Hid (nextE (clrL l) (m' + 1) x.u ↔ (T.take (m' + 1))[m']'(by rw [List.length_take]; omega) < x.u) := by
            rw [hqd]
            exact ⟨fun h => by rcases h with h | h; exact absurd h (by omega); exact h, fun h => .inr h⟩
          generalize (T.take (m' + 1))[m']'(by rw [List.length_take]; omega) = q at *
          have hz : (0 : Int) < (m' : Int) + 1 := by omega
          have hm'0 : (0 : Int) ≤ (m' : Int) := by omega
          have hm'1 : (m' : Int) < (m' : Int) + 1 := by omega
          have hwr : wrap64 (m' : Int) = (m' : Int) := wrap_nat m' (by have := HN.out; omega)
          clear hqc hqd
          by_cases hqx : q < x.u
          · have hE := Lib.hid (hEi.out.2 hqx)
            have hqI : ¬ ((x.u : Int) ≤ (q : Int)) := by omega
            rcases HF.out with ⟨rfl, rfl, _⟩ | ⟨a, rfl, rfl, ha, _⟩
            · have HF2 := Lib.hid (hfi.out hE.out HF.out)
              clear hsk hfi hle hke HF hE hEi
              go_wp2_with fail
              go_roundg (gk - 1)
              case rel => exact ⟨j + 1, by omega, by go_num, rfl, HF2⟩
              case measure => omega
            · by_cases hca : x.u < a
              · have HF2 := Lib.hid (hle.out a hE.out HF.out hca)
                have hcI : ¬ ((a : Int) ≤ (x.u : Int)) := by omega
                clear hsk hfi hle hke HF hE hEi
                go_wp2_with fail
                go_roundg (gk - 1)
                case rel => exact ⟨j + 1, by omega, by go_num, rfl, HF2⟩
                case measure => omega
              · have HF2 := Lib.hid (hke.out a HF.out (by omega))
                have hcI : (a : Int) ≤ (x.u : Int) := by omega
                clear hsk hfi hle hke HF hE hEi
                go_wp2_with fail
                go_roundg (gk - 1)
                case rel => exact ⟨j + 1, by omega, by go_num, rfl, HF2⟩
                case measure => omega
          · have HF2 := Lib.hid (hsk.out (fun h => hqx (hEi.out.1 h)) HF.out)
            have hqI : (x.u : Int) ≤ (q : Int) := by omega
            clear hsk hfi hle hke HF hEi
            go_wp2_with fail
            go_roundg (gk - 1)
            case rel => exact ⟨j + 1, by omega, by go_num, rfl, HF2⟩
            case measure => omega
      · obtain rfl : j = n := by omega
        have hjI : ¬ ((j : Int) < (j : Int)) := by omega
        have hln := HN.out
        rcases HF.out with ⟨rfl, rfl, hno⟩ | ⟨a, rfl, rfl, ha, h4, h5, h6⟩
        · have hmT2 : m = T.length := by
            have := next_none (l := l) (m := m) (by rw [HT.out]; exact hmT) fun c hc => by
              obtain ⟨x, hx, rfl⟩ := List.mem_map.1 hc
              obtain ⟨i, hi', rfl⟩ := List.getElem_of_mem hx
              exact hno i hi' (by omega)
            rw [HT.out] at this
            exact this
          subst hmT2
          have HO3 := HO2.out
          have HR3 := HR2.out
          rw [List.take_length] at HO3 HR3
          have HO4 := Lib.hid HO3
          have HR4 := Lib.hid HR3
          clear HF hno HO2 HR2 HO3 HR3 hl hr hln
          go_wp2_with fail
          go_ret
          exact ⟨HB.out, _, _, rfl, HR4.out, HO4.out⟩
        · have hnx := next_some (l := l) (m := m) (by rw [HT.out]; exact hmT) h4 h5 fun c hc hE => by
            obtain ⟨x, hx, rfl⟩ := List.mem_map.1 hc
            obtain ⟨i, hi', rfl⟩ := List.getElem_of_mem hx
            exact h6 i hi' (by omega) hE
          have hstep : m < T.length ∧ T.take (m + 1) = T.take m ++ [a] := by
            obtain ⟨h1, h2⟩ := hnx
            have hlt : m < T.length := by rw [← HT.out]; exact h1
            refine ⟨hlt, ?_⟩
            rw [List.take_succ_eq_append_getElem hlt]
            congr 2
            rw [← h2]
            congr 1
            exact HT.out.symm
          have hmlt := hstep.1
          have HS := Lib.hid hstep.2
          have ho' := HO2.out
          clear HF h4 h5 h6 hnx hstep HO2 HR2 hl hr hln
          go_wp2_with (at_builtin; refine wpList_append_own _ rfl _ _ 45 rfl w.heap.size 24 i0 (.int .u64 0) 1 8 Try.underlying45 hi hz0 hz1 hz2 rfl (by decide) _ _ _ rfl (ho'.alloc _) ⟨wr.heap.size, 0, none⟩ 1 1 [.int .u64 a] rfl rfl ?c1 ?c2 ?c3 ?c4 ?c5 ?_)
          case c2 => rfl
          case c3 => have := HN.out; unfold maxLen; omega
          case c4 => have := HN.out; omega
          case c5 => omega
          intro v2 w2 own2' gr2 _
          have hb2 := Lib.hid ((HB.out.alloc (by omega) _).grown gr2 (by simp; omega) (fun g hg => (ho'.lt g hg).1))
          have HO3 : Hid (w2.ownsRow w.heap.size 24 1 v2 (m + 1) (labVals (T.take (m + 1)))) := by rw [HS.out, labVals_snoc]; exact own2'
          clear ho' own2' gr2 HS
          go_wp2_with fail
          go_roundg (G - 1)
          case rel => exact ⟨m + 1, by omega, by omega, hb2.out, HO3⟩
          case measure => omega
end Go.Proofs.Ytdpikdkhemhmdaa
