/- Texts of the proof, merged: RefCut. -/
import Derived.Test.YtfkkodcppaakjaaGreatDoorRd14
import Derived.Test.YtfkkodcppaakjaaGreatDoorRd49
/- The document's Cut, by its contract. -/
namespace Go.Proofs.YtfkkodcppaakjaaGreatDoor
open Go.RowKit

/-- i bytes are gone over; the texts ds are cut off; the next one begins at f. -/
def CutAt (s : ByteArray) (ds : List ByteArray) (f i : Nat) : Prop := f ≤ i ∧ i ≤ s.size ∧ joinL (listsOf ds) = s.data.toList.take f ∧ (∀ l ∈ listsOf ds, l.contains 10 = false) ∧ ∀ j (h : j < s.size), f ≤ j → j < i → s[j] ≠ 10
theorem cutAt_start (s : ByteArray) : CutAt s [] 0 0 := ⟨Nat.le_refl _, Nat.zero_le _, by simp [joinL, listsOf], fun l hl => by simp [listsOf] at hl, fun j _ _ h => by omega⟩
theorem cutAt_on (s : ByteArray) (ds : List ByteArray) (f i : Nat) (h : i < s.size) (hc : s[i] ≠ 10) (hr : CutAt s ds f i) : CutAt s ds f (i + 1) := by
  obtain ⟨h1, h2, h3, h4, h5⟩ := hr
  refine ⟨by omega, by omega, h3, h4, fun j hj hf hi => ?_⟩
  by_cases e : j = i
  · subst e; exact hc
  · exact h5 j hj hf (by omega)
theorem cutAt_off (s : ByteArray) (ds : List ByteArray) (f i : Nat) (h : i < s.size) (hc : s[i] = 10) (hr : CutAt s ds f i) : CutAt s (ds ++ [s.extract f i]) (i + 1) (i + 1) := by
  obtain ⟨h1, h2, h3, h4, h5⟩ := hr
  have hx : (s.extract f i).data.toList = (s.data.toList.drop f).take (i - f) := by simp
  refine ⟨Nat.le_refl _, by omega, ?_, ?_, fun j _ _ h => by omega⟩
  · unfold listsOf at h3 ⊢
    rw [List.map_append, List.map_singleton, join_snoc, h3, hx, take_snoc s i h, hc]
    have e : s.data.toList.take i = s.data.toList.take f ++ (s.data.toList.drop f).take (i - f) := by
      have := List.take_add (l := s.data.toList) (i := f) (j := i - f)
      rw [show f + (i - f) = i from by omega] at this
      exact this
    rw [e, List.append_assoc]
  · intro l hl
    unfold listsOf at hl h4
    rw [List.map_append] at hl
    rcases List.mem_append.1 hl with hl | hl
    · exact h4 l hl
    · rw [List.map_singleton, List.mem_singleton] at hl
      rw [hl, hx]
      cases hcn : ((s.data.toList.drop f).take (i - f)).contains 10 with
      | false => rfl
      | true =>
        obtain ⟨j, hj, hjc⟩ := List.getElem_of_mem (List.contains_iff_mem.1 hcn)
        rw [List.length_take, List.length_drop, len_size] at hj
        rw [List.getElem_take, List.getElem_drop] at hjc
        exact absurd hjc (h5 (f + j) (by omega) (by omega) (by omega))
theorem cutAt_end (s : ByteArray) (ds : List ByteArray) (f : Nat) (h0 : 1 ≤ s.size) (hl : (s.data.toList.getLast? == some 10) = true) (hr : CutAt s ds f s.size) : listsOf ds = cutL s.data.toList := by
  obtain ⟨h1, h2, h3, h4, h5⟩ := hr
  have hlast : s[s.size - 1]'(by omega) = 10 := by
    have e := beq_iff_eq.1 hl
    rw [List.getLast?_eq_getElem?, len_size] at e
    have h6 : s.size - 1 < s.data.toList.length := by rw [len_size]; omega
    rw [List.getElem?_eq_getElem h6, Option.some.injEq] at e
    exact e
  have hf : f = s.size := by
    by_cases e : f = s.size
    · exact e
    · exact absurd hlast (h5 (s.size - 1) (by omega) (by omega) (by omega))
  have hne : s.data.toList.isEmpty = false := by
    have := (bytes_some s h0).2
    rw [ByteArray.toList_eq] at this; exact this
  rw [hf, take_all] at h3
  unfold cutL
  rw [hne, hl, ← h3]
  have hds : listsOf ds ≠ [] := by
    intro e
    rw [e] at h3
    have h7 := len_size s
    rw [← h3] at h7
    have : (0 : Nat) = s.size := h7
    omega
  exact (cut_join _ h4 hds).symm
theorem lists_texts (ds : List ByteArray) : asTexts (listsOf ds) = ds := by
  unfold asTexts listsOf
  rw [List.map_map]
  conv => rhs; rw [← List.map_id ds]
  rfl
theorem last_byte (s : ByteArray) (h0 : 1 ≤ s.size) : (s.data.toList.getLast? == some 10) = ((((s[s.size - 1]'(by omega)).toNat : Int)) == 10) := by
  have h6 : s.size - 1 < s.data.toList.length := by rw [len_size]; omega
  rw [List.getLast?_eq_getElem?, len_size, List.getElem?_eq_getElem h6, Bool.eq_iff_iff]
  simp only [beq_iff_eq, Option.some.injEq]
  rw [← UInt8.toNat_inj]
  have h10 : (10 : UInt8).toNat = 10 := rfl
  rw [h10]
  show (s[s.size - 1]'(by omega)).toNat = 10 ↔ _
  omega
theorem byte_10 (s : ByteArray) (i : Nat) (h : i < s.size) : (((s[i].toNat : Int)) == 10) = true ↔ s[i] = 10 := by
  rw [beq_iff_eq, ← UInt8.toNat_inj]
  have h10 : (10 : UInt8).toNat = 10 := rfl
  rw [h10]; omega

set_option maxRecDepth 100000 in
set_option maxHeartbeats 4000000 in
theorem refCut_row (s : ByteArray) (w : World) (hs : s.size ≤ 1048576) : Calls Tryz.prog 37 #[.string s] w (CutRow w s) := by
  by_cases h0 : 1 ≤ s.size
  · obtain ⟨hne, hne2⟩ := bytes_some s h0
    have hne3 : s.data.toList.isEmpty = false := by rw [ByteArray.toList_eq] at hne2; exact hne2
    have hk0 : (0 : Int) ≤ (s.size : Int) - 1 := by omega
    have hk1 : (s.size : Int) - 1 < (s.size : Int) := by omega
    have hk3 : ((s.size : Int) - 1).toNat = s.size - 1 := by omega
    cases hl : (s.data.toList.getLast? == some 10)
    · have e1 : cutL s.data.toList = [] := by unfold cutL; rw [hne3, hl]; rfl
      have e2 : cutE s.data.toList = 4 := by unfold cutE cutOk; rw [hne3, hl]; rfl
      have hb := last_byte s h0
      rw [hl] at hb
      have hb2 : ((((s[s.size - 1]'(by omega)).toNat : Int)) == 10) = false := hb.symm
      have hb3 : ((((s[s.size - 1]'(by omega)).toNat : Int)) != 10) = true := by rw [bne, hb2]; rfl
      have hfin : Hid (∀ e w', e = .returned (.tuple #[.slice none 0 0, .int .i64 4]) ∧ w = w' → CutRow w s e w') := by
        rintro e w' ⟨rfl, rfl⟩
        exact ⟨none, 0, by rw [e1, e2]; rfl, Below.refl _ _, by rw [e1]; exact World.ownsRow_nil _ _ _ _⟩
      refine Calls.mono ?_ hfin.out
      clear hfin e1 e2 hl hb
      go_enter Tryz.func37, Tryz.ntmps37
      go_wp2
      go_ret2
      exact ⟨rfl, rfl⟩
    · have hb := last_byte s h0
      rw [hl] at hb
      have hb2 : ((((s[s.size - 1]'(by omega)).toNat : Int)) == 10) = true := hb.symm
      have hb3 : ((((s[s.size - 1]'(by omega)).toNat : Int)) != 10) = false := by rw [bne, hb2]; rfl
      have hfin : Hid (∀ ds w' v, CutAt s ds s.size s.size ∨ (∃ f, CutAt s ds f s.size) → Below w.heap.size w w' → w'.ownsRow w.heap.size 9 1 v ds.length (ds.map Value.string) → CutRow w s (.returned (.tuple #[v, .int .i64 0])) w') := by
        intro ds w' v hc hbw ho
        obtain ⟨f, hc⟩ : ∃ f, CutAt s ds f s.size := by
          rcases hc with hc | hc
          · exact ⟨_, hc⟩
          · exact hc
        have e1 := cutAt_end s ds f h0 hl hc
        have e2 : cutE s.data.toList = 0 := by unfold cutE cutOk; rw [hne3, hl]; rfl
        obtain ⟨p, c, hv, _⟩ := row_owned ho
        have e3 : (cutL s.data.toList).length = ds.length := by rw [← e1]; simp [listsOf]
        refine ⟨p, c, by rw [e2, e3, hv], hbw, ?_⟩
        rw [e3, ← e1, lists_texts, ← hv]
        exact ho
      obtain ⟨i0, hi, hz0, hz1, hz2⟩ := info_parts strInfo
      clear hb hl hne3
      go_enter Tryz.func37, Tryz.ntmps37
      go_wp2
      clear hb2 hb3 hne hne2
      go_loopw [4, 5, 6] (fun v f i wr => ∃ (ds : List ByteArray) (a k : Nat), f = .int .i64 a ∧ i = .int .i64 k ∧ Hid (CutAt s ds a k) ∧ a ≤ k ∧ k ≤ s.size ∧ ds.length ≤ k ∧ Below w.heap.size w wr ∧ wr.ownsRow w.heap.size 9 1 v ds.length (ds.map Value.string)) (fun _ _ i _ => s.size - (intOf i).toNat)
      case atStart => exact ⟨[], 0, 0, rfl, rfl, cutAt_start s, by omega, by omega, by simp, Below.refl _ _, World.ownsRow_nil _ _ _ _⟩
      case round =>
        obtain ⟨ds, a, k, rfl, rfl, hc, hak, hks, hdk, hbw, hown⟩ := hrel
        by_cases hlt : k < s.size
        · cases hb : ((s[k].toNat : Int) == 10)
          · have hst : Hid (CutAt s ds a (k + 1)) := cutAt_on s ds a k hlt (fun e => by rw [(byte_10 s k hlt).2 e] at hb; cases hb) hc.out
            have HO := Lib.hid hown
            clear hown hc
            go_wp2_with fail
            go_roundw
            case rel => exact ⟨ds, a, k + 1, rfl, by go_num, hst, by omega, by omega, by omega, hbw, HO.out⟩
            case measure => simp [intOf]; omega
          · have hst : Hid (CutAt s (ds ++ [s.extract a k]) (k + 1) (k + 1)) := cutAt_off s ds a k hlt ((byte_10 s k hlt).1 hb) hc.out
            have hk0 : (0 : Int) ≤ (a : Int) := by omega
            have hk1 : (a : Int) ≤ (k : Int) := by omega
            have hk2 : (k : Int) ≤ (s.size : Int) := by omega
            have hsz := hbw.size
            clear hc
            go_wp2_with (at_builtin; refine wpList_append_own _ rfl _ _ 75 rfl w.heap.size 9 i0 (.string ⟨#[]⟩) 1 16 Tryz.underlying75 hi hz0 hz1 hz2 rfl (by decide) _ _ _ rfl (hown.alloc _) ⟨wr.heap.size, 0, none⟩ 1 1 [.string (s.extract a k)] rfl rfl ?c1 ?c2 ?c3 ?c4 ?c5 ?_)
            case c1 =>
              intro j u hj
              match j, hj with
              | 0, hj => simp at hj; subst hj; simp [Addr.add]
            case c2 => intro u hu; simp at hu; subst hu; rfl
            case c3 => unfold maxLen; omega
            case c4 => omega
            case c5 => simp; omega
            intro v' w2 hown' hgrow _
            have hb2 : Below w.heap.size w w2 := (hbw.alloc (by omega) _).grown hgrow (by simp; omega) (fun g hg => (hown.lt g hg).1)
            have HO : Hid (w2.ownsRow w.heap.size 9 1 v' (ds ++ [s.extract a k]).length ((ds ++ [s.extract a k]).map Value.string)) := by
              rw [List.length_append, List.length_singleton, List.map_append]
              exact hown'
            have hdl : (ds ++ [s.extract a k]).length ≤ k + 1 := by rw [List.length_append, List.length_singleton]; omega
            clear hown hown' hgrow
            go_wp2_with fail
            go_roundw
            case rel => exact ⟨ds ++ [s.extract a k], k + 1, k + 1, by go_num, by go_num, hst, by omega, by omega, hdl, hb2, HO.out⟩
            case measure => simp [intOf]; omega
        · obtain rfl : k = s.size := by omega
          have hF := Lib.hid (hfin.out ds wr _ (.inr ⟨a, hc.out⟩) hbw hown)
          clear hown hc hfin
          go_wp2_with fail
          go_ret2
          exact hF.out
  · obtain ⟨hne, hne2⟩ := bytes_none s h0
    have hl : s.data.toList = [] := List.eq_nil_of_length_eq_zero (by rw [len_size]; omega)
    have e1 : cutL s.data.toList = [] := by rw [hl]; rfl
    have e2 : cutE s.data.toList = 0 := by rw [hl]; rfl
    have hfin : Hid (∀ e w', e = .returned (.tuple #[.slice none 0 0, .int .i64 0]) ∧ w = w' → CutRow w s e w') := by
      rintro e w' ⟨rfl, rfl⟩
      exact ⟨none, 0, by rw [e1, e2]; rfl, Below.refl _ _, by rw [e1]; exact World.ownsRow_nil _ _ _ _⟩
    refine Calls.mono ?_ hfin.out
    clear hfin e1 e2 hl h0
    go_enter Tryz.func37, Tryz.ntmps37
    go_wp2
    go_ret2
    exact ⟨rfl, rfl⟩
end Go.Proofs.YtfkkodcppaakjaaGreatDoor
