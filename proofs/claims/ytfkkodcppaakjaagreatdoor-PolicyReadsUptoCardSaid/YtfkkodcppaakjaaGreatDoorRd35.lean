/- Texts of the proof, merged: PrLists. -/
import Derived.Test.YtfkkodcppaakjaaGreatDoorRd20
import Derived.Test.YtfkkodcppaakjaaGreatDoorRd30
import Derived.Test.YtfkkodcppaakjaaGreatDoorRd34
/- The document's Clearance, Erase, Names, Above of chapter 3, by contracts. -/
namespace Go.Proofs.YtfkkodcppaakjaaGreatDoor
open Go Go.RowKit

theorem prBeq (t : List UInt8) (s : ByteArray) : ((bs t).toList == s.toList) = (t == s.data.toList) := by
  rw [ByteArray.toList_eq, ByteArray.toList_eq, bs_list]
theorem look_hit {l : List Vw} {s : List UInt8} {k : Nat} (hk : k < l.length) (h : ∀ j (hj : j < l.length), j < k → l[j].s ≠ s) (e : l[k].s = s) : look l s = some l[k].c := by
  unfold look
  have : l.find? (fun x => x.s == s) = some l[k] := by
    rw [List.find?_eq_some_iff_getElem]
    refine ⟨beq_iff_eq.2 e, k, hk, rfl, fun j hj => ?_⟩
    simpa using h j (by omega) hj
  rw [this]; rfl
theorem look_miss {l : List Vw} {s : List UInt8} (h : ∀ j (hj : j < l.length), l[j].s ≠ s) : look l s = none := look_none fun hm => by
  obtain ⟨x, hx, e⟩ := List.mem_map.1 hm
  obtain ⟨j, hj, rfl⟩ := List.getElem_of_mem hx
  exact h j hj e
set_option maxRecDepth 100000 in
set_option maxHeartbeats 1000000 in
theorem prClearance_any (w : World) (p : Option Addr) (n c : Nat) (l : List Vw) (s : ByteArray) (hn : l.length = n) (hnm : n ≤ 9223372036854775807) (hr : VwRow w p l) :
    Calls Tryz.prog 41 #[.slice p n c, .string s] w fun e w' => e = .returned (clrV l s.data.toList) ∧ w = w' := by
  have HN := Lib.hid hn
  have hhit := Lib.hid (fun k (hk : k < l.length) (h : ∀ j (hj : j < l.length), j < k → l[j].s ≠ s.data.toList) (e : l[k].s = s.data.toList) => (show clrV l s.data.toList = .tuple #[.int .u64 l[k].c, .int .i64 0] by unfold clrV; rw [look_hit hk h e]))
  have hmiss := Lib.hid (fun (h : ∀ j (hj : j < l.length), l[j].s ≠ s.data.toList) => (show clrV l s.data.toList = .tuple #[.int .u64 0, .int .i64 160] by unfold clrV; rw [look_miss h]))
  clear hn
  go_enter Tryz.func41, Tryz.ntmps41
  go_wp2
  go_loopg [6] n (fun g vi wr => ∃ k : Nat, k + g = n ∧ vi = .int .i64 k ∧ w = wr ∧ Hid (∀ j (h : j < l.length), j < k → l[j].s ≠ s.data.toList))
  case atStart => exact ⟨0, by omega, rfl, rfl, fun j _ h => absurd h (Nat.not_lt_zero _)⟩
  case round =>
    obtain ⟨k, hk, rfl, rfl, HO⟩ := hrel
    have hk0 : (0 : Int) ≤ (k : Int) := by omega
    by_cases hlt : k < n
    · have hlt' : k < l.length := by rw [HN.out]; exact hlt
      obtain ⟨b1, o1, rfl, _, h1c⟩ := hr.at k hlt'
      obtain ⟨g1, g2⟩ := h1c _ (Below.refl _ _)
      have hh := Lib.hid (hhit.out k hlt' HO.out)
      have hnx := Lib.hid (fun (e : l[k].s ≠ s.data.toList) j (h : j < l.length) (hj : j < k + 1) => (show l[j].s ≠ s.data.toList from by
        by_cases e' : j = k
        · subst e'; exact e
        · exact HO.out j h (by omega)))
      generalize l[k] = x at *
      have hbb := prBeq x.s s
      have hkI : (k : Int) < (n : Int) := by omega
      clear h1c hhit hmiss HO hr
      by_cases e : x.s = s.data.toList
      · have HR := Lib.hid (hh.out e)
        rw [beq_iff_eq.2 e] at hbb
        clear hh hnx e
        go_wp2_with fail
        go_ret2
        exact ⟨by rw [HR.out]; rfl, rfl⟩
      · rw [beq_false_of_ne e] at hbb
        have hnx' := Lib.hid (hnx.out e)
        clear hh hnx e
        go_wp2_with fail
        go_roundg (gk - 1)
        case rel => exact ⟨k + 1, by omega, by go_num, rfl, fun j h hj => hnx'.out j h hj⟩
        case measure => omega
    · obtain rfl : k = n := by omega
      have HR := Lib.hid (hmiss.out fun j h => HO.out j h (by have := HN.out; omega))
      have hkI : ¬ ((k : Int) < (k : Int)) := by omega
      clear hhit hmiss HO
      go_wp2_with fail
      go_ret2
      exact ⟨by rw [HR.out]; rfl, rfl⟩
set_option maxRecDepth 100000 in
set_option maxHeartbeats 2000000 in
theorem prNames_any (w : World) (p : Option Addr) (n c : Nat) (l : List Vw) (hn : l.length = n) (h64 : n ≤ 64) (hr : VwRow w p l) :
    Calls Tryz.prog 49 #[.slice p n c] w (GivesNm w (names l)) := by
  obtain ⟨i0, hi, hz0, hz1, hz2⟩ := info_parts strInfo
  have HN := Lib.hid hn
  clear hn
  go_enter Tryz.func49, Tryz.ntmps49
  go_wp2
  go_loopg [3, 4] n (fun g u vi wr => ∃ k : Nat, k + g = n ∧ vi = .int .i64 k ∧ Below w.heap.size w wr ∧ Hid (wr.ownsRow w.heap.size 9 1 u k (nameVals (names (l.take k)))))
  case atStart => exact ⟨0, by omega, rfl, Below.refl _ _, by rw [List.take_zero]; exact World.ownsRow_nil _ _ _ _⟩
  case round =>
    obtain ⟨k, hk, rfl, hbr, HO⟩ := hrel
    have hsr := hbr.size
    have hk0 : (0 : Int) ≤ (k : Int) := by omega
    by_cases hlt : k < n
    · have hlt' : k < l.length := by rw [HN.out]; exact hlt
      obtain ⟨b1, o1, rfl, hb1, h1c⟩ := hr.at k hlt'
      obtain ⟨g1, g2⟩ := h1c wr hbr
      have hsn : Hid (nameVals (names (l.take (k + 1))) = nameVals (names (l.take k)) ++ [.string (bs l[k].s)]) := by
        show nameVals (names (l.take (k + 1))) = _
        rw [List.take_succ_eq_append_getElem hlt']
        unfold nameVals names
        rw [List.map_append, List.map_append]; rfl
      generalize l[k] = x at *
      have ho' := HO.out
      have HB := Lib.hid hbr
      have hkI : (k : Int) < (n : Int) := by omega
      clear h1c hbr HO
      go_wp2_with (first
        | (at_builtin; refine wpList_append_own _ rfl _ _ 75 rfl w.heap.size 9 i0 (.string ⟨#[]⟩) 1 16 Tryz.underlying75 hi hz0 hz1 hz2 rfl (by decide) _ _ _ rfl (ho'.alloc _) ⟨wr.heap.size, 0, none⟩ 1 1 [.string (bs x.s)] rfl rfl ?c1 ?c2 ?c3 ?c4 ?c5 ?_))
      case c1 =>
        intro j u hj
        match j, hj with
        | 0, hj => simp at hj; subst hj; simp [Addr.add]
      case c2 => intro u hu; simp at hu; subst hu; rfl
      case c3 => unfold maxLen; omega
      case c4 => omega
      case c5 => simp; omega
      intro u' w3 hown' hgrow _
      have hb3 : Below w.heap.size w w3 := (HB.out.alloc (by omega) _).grown hgrow (by simp; omega) (fun g hg => (ho'.lt g hg).1)
      have HO2 : Hid (w3.ownsRow w.heap.size 9 1 u' (k + 1) (nameVals (names (l.take (k + 1))))) := by rw [hsn.out]; exact hown'
      clear ho' hown' hgrow hsn
      go_wp2_with fail
      go_roundg (gk - 1)
      case rel => exact ⟨k + 1, by omega, by go_num, hb3, HO2⟩
      case measure => omega
    · obtain rfl : k = n := by omega
      have hall : l.take k = l := by rw [← HN.out]; exact List.take_length
      have HO2 := Lib.hid HO.out
      rw [hall] at HO2
      have hnl : (names l).length = k := by unfold names; rw [List.length_map]; exact HN.out
      have HB := Lib.hid hbr
      have HL := Lib.hid hnl
      have hkI : ¬ ((k : Int) < (k : Int)) := by omega
      clear HO hbr hall hnl
      go_wp2_with fail
      go_ret
      obtain ⟨p1, c1, hu, hrow⟩ := nm_owned HL.out HO2.out
      have ho := HO2.out
      rw [hu] at ho ⊢
      refine ⟨HB.out, p1, c1, by rw [HL.out]; rfl, hrow, ?_⟩
      rw [HL.out]; exact ho
end Go.Proofs.YtfkkodcppaakjaaGreatDoor
