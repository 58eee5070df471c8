/- label's own List, by its contract. -/
import Derived.Test.YtbcfmckhgjcakaaDoorLbList
import Derived.Test.YtbcfmckhgjcakaaDoorLbTz
import Derived.Test.YtbcfmckhgjcakaaDoorLbCount
import Derived.Laws.MakeOwn
namespace Go.Proofs.YtbcfmckhgjcakaaDoor
open Go.RowKit

set_option maxRecDepth 100000 in
set_option maxHeartbeats 4000000 in
theorem list_any (a : Nat) (w : World) (ha : a < 18446744073709551616) (hT : BTab w) :
    Calls Tryd.prog 38 #[.int .u64 a] w (IntRow w (listTo a 64)) := by
  have cC := count_any a w ha
  obtain ⟨i0, hi, hz0, hz1, hz2⟩ := info_parts intInfo
  have hcl := cnt_le a
  obtain ⟨w1, hrun, hown, hgr⟩ := run_make_own (P := Tryd.prog) w w.heap.size 74 3 i0 (.int .i64 0) 1 Tryd.underlying74 hi hz0 hz1 .i64 .i64 (cnt a) (by rw [hz2]; omega) (by unfold maxLen; omega) (Nat.le_refl _)
  have hb1 : Below w.heap.size w w1 := (Below.refl _ _).grown hgr (Nat.le_refl _) (by simp)
  have hfin : Hid (∀ v w', Below w.heap.size w w' → w'.ownsRow w.heap.size 3 1 v (listTo a 64).length (ints (listTo a 64)) → IntRow w (listTo a 64) (.returned v) w') := by
    intro v w' hb ho
    obtain ⟨p, c, rfl⟩ := int_owned ho
    exact ⟨p, c, rfl, hb, ho⟩
  have HO := Lib.hid hown
  clear hown hgr
  go_enter Tryd.func38, Tryd.ntmps38
  go_wp2_with (go_at_call 52; refine cC.mono ?_; rintro e w' ⟨rfl, rfl⟩)
  have HR := Lib.hid hrun
  clear hrun cC
  go_loopg [0, 3] (cnt a) (fun g x v wr => ∃ (y : Nat) (l : List Nat), x = .int .u64 y ∧ y < 18446744073709551616 ∧ g = (listTo y 64).length ∧ Hid (listTo a 64 = l ++ listTo y 64) ∧ l.length ≤ 64 ∧ Below w.heap.size w wr ∧ Hid (wr.ownsRow w.heap.size 3 1 v l.length (ints l)))
  case atStart => exact ⟨a, [], rfl, ha, rfl, rfl, by simp, hb1, HO.out⟩
  case round =>
    obtain ⟨y, l, rfl, hy, hg, hl, hll, hbr, ho⟩ := hrel
    by_cases h0 : y = 0
    · subst h0
      have hF := hfin.out
      rw [hl.out, list_zero, List.append_nil] at hF
      have HF := Lib.hid (hF _ _ hbr ho.out)
      clear hF hfin ho hg
      go_wp2_with fail
      go_ret
      have e := hl.out
      rw [list_zero, List.append_nil] at e
      rw [e]
      exact HF.out
    · obtain ⟨hlow, hlt, hk⟩ := list_low y h0 hy
      have he : bits .and .u64 (y : Int) ((y : Int) - 1) = ((y &&& (y - 1) : Nat) : Int) := by
        have := u64_and_nat y (y - 1) hy (by omega)
        rw [← this]
        congr 1
        omega
      have cT := tz_any y wr hy h0 (hT.below hbr)
      generalize y &&& (y - 1) = y' at *
      generalize Lib.ctz 64 y = c at *
      have hne : ((y : Int) != 0) = true := by rw [bne, beq_false_of_ne (by omega)]; rfl
      have hy1 : (1 : Int) ≤ (y : Int) := by omega
      have hc0 : (0 : Int) ≤ (c : Int) := Int.natCast_nonneg _
      have HL : Hid (listTo a 64 = (l ++ [c]) ++ listTo y' 64) := by
        have := hl.out
        rw [hlow] at this
        show _ = _
        rw [this]; simp
      have hlen : (l ++ [c]).length ≤ 64 := by
        have h1 := listTo_len a 64
        rw [HL.out, List.length_append] at h1
        omega
      have hg' : gk = (listTo y' 64).length + 1 := by rw [hg, hlow]; rfl
      have HG := Lib.hid hg'
      have HLEN := Lib.hid hlen
      have ho' := ho.out
      have hbsz := hbr.size
      clear hg' hg hlow hl hlen ho hfin
      go_wp2_with (first
        | (go_at_call 53; refine cT.mono ?_; rintro e w' ⟨rfl, rfl⟩)
        | (at_builtin; refine wpList_append_own _ rfl _ _ 74 rfl w.heap.size 3 i0 (.int .i64 0) 1 8 Tryd.underlying74 hi hz0 hz1 hz2 rfl (by decide) _ _ _ rfl (ho'.alloc _) ⟨wr.heap.size, 0, none⟩ 1 1 [.int .i64 c] rfl rfl ?c1 ?c2 ?c3 ?c4 ?c5 ?_))
      case c1 =>
        intro j u hj
        match j, hj with
        | 0, hj => simp at hj; subst hj; simp [Addr.add]
      case c2 => intro u hu; simp at hu; subst hu; rfl
      case c3 => unfold maxLen; omega
      case c4 => omega
      case c5 => simp; omega
      intro v' w3 hown' hgrow _
      have hb2 : Below w.heap.size w w3 := (hbr.alloc (by omega) _).grown hgrow (by simp; omega) (fun g hg => (ho'.lt g hg).1)
      have HO2 : Hid (w3.ownsRow w.heap.size 3 1 v' (l ++ [c]).length (ints (l ++ [c]))) := by
        rw [List.length_append, List.length_singleton]
        unfold ints
        rw [List.map_append]
        exact hown'
      clear ho' hown' hgrow cT
      go_wp2_with fail
      go_roundg (listTo y' 64).length
      case rel => exact ⟨y', l ++ [c], rfl, hlt, rfl, HL, HLEN.out, hb2, HO2⟩
      case measure => have := HG.out; omega
end Go.Proofs.YtbcfmckhgjcakaaDoor
