/- Texts of the proof, merged: LbMyList, LbTextP. -/
import Derived.Test.YtbcfmckhgjcakaaDoorTx5
import Derived.Test.YtbcfmckhgjcakaaDoorTx6
import Derived.Test.YtbcfmckhgjcakaaDoorTx7
import Derived.Test.YtbcfmckhgjcakaaDoorTx8
import Derived.Laws.MakeOwn
import Derived.Lib.Join
import Derived.Lib.ItoaNum
/- label's own List, by its contract. -/
namespace Go.Proofs.YtbcfmckhgjcakaaDoor
open Go.RowKit

set_option maxRecDepth 100000 in
set_option maxHeartbeats 4000000 in
theorem list_any (a : Nat) (w : World) (ha : a < 18446744073709551616) (hT : BTab w) :
    Calls Tryd.prog 38 #[.int .u64 a] w (IntRow w (listTo a 64)) := by
  have cC := count_any a w ha
  obtain ⟨i0, hi, hz0, hz1, hz2⟩ := info_parts intInfo
  have hcl := cnt_le a
  obtain ⟨w1, hrun, hown, hgr⟩ := run_make_own (P := Tryd.prog) w w.heap.size 74 3 i0 (.int .i64 0) 1 Tryd.underlying74 hi hz0 hz1 .i64 .i64 (cnt a) (by rw [hz2]; omega) (by unfold maxLen; omega) (Nat.le_refl _)
  have hb1 : Below w.heap.size w w1 := (Below.refl _ _).grown hgr (Nat.le_refl _) (by simp)
  have hfin : Hid (∀ v w', Below w.heap.size w w' → w'.ownsRow w.heap.size 3 1 v (listTo a 64).length (ints (listTo a 64)) → IntRow w (listTo a 64) (.returned v) w') := by
    intro v w' hb ho
    obtain ⟨p, c, rfl⟩ := int_owned ho
    exact ⟨p, c, rfl, hb, ho⟩
  have HO := Lib.hid hown
  clear hown hgr
  go_enter Tryd.func38, Tryd.ntmps38
  go_wp2_with (go_at_call 52; refine cC.mono ?_; rintro e w' ⟨rfl, rfl⟩)
  have HR := Lib.hid hrun
  clear hrun cC
  go_loopg [0, 3] (cnt a) (fun g x v wr => ∃ (y : Nat) (l : List Nat), x = .int .u64 y ∧ y < 18446744073709551616 ∧ g = (listTo y 64).length ∧ Hid (listTo a 64 = l ++ listTo y 64) ∧ l.length ≤ 64 ∧ Below w.heap.size w wr ∧ Hid (wr.ownsRow w.heap.size 3 1 v l.length (ints l)))
  case atStart => exact ⟨a, [], rfl, ha, rfl, rfl, by simp, hb1, HO.out⟩
  case round =>
    obtain ⟨y, l, rfl, hy, hg, hl, hll, hbr, ho⟩ := hrel
    by_cases h0 : y = 0
    · subst h0
      have hF := hfin.out
      rw [hl.out, list_zero, List.append_nil] at hF
      have HF := Lib.hid (hF _ _ hbr ho.out)
      clear hF hfin ho hg
      go_wp2_with fail
      go_ret
      have e := hl.out
      rw [list_zero, List.append_nil] at e
      rw [e]
      exact HF.out
    · obtain ⟨hlow, hlt, hk⟩ := list_low y h0 hy
      have he : bits .and .u64 (y : Int) ((y : Int) - 1) = ((y &&& (y - 1) : Nat) : Int) := by
        have := u64_and_nat y (y - 1) hy (by omega)
        rw [← this]
        congr 1
        omega
      have cT := tz_any y wr hy h0 (hT.below hbr)
      generalize y &&& (y - 1) = y' at *
      generalize Lib.ctz 64 y = c at *
      have hne : ((y : Int) != 0) = true := by rw [bne, beq_false_of_ne (by omega)]; rfl
      have hy1 : (1 : Int) ≤ (y : Int) := by omega
      have hc0 : (0 : Int) ≤ (c : Int) := Int.natCast_nonneg _
      have HL : Hid (listTo a 64 = (l ++ [c]) ++ listTo y' 64) := by
        have := hl.out
        rw [hlow] at this
        show _ = _
        rw [this]; simp
      have hlen : (l ++ [c]).length ≤ 64 := by
        have h1 := listTo_len a 64
        rw [HL.out, List.length_append] at h1
        omega
      have hg' : gk = (listTo y' 64).length + 1 := by rw [hg, hlow]; rfl
      have HG := Lib.hid hg'
      have HLEN := Lib.hid hlen
      have ho' := ho.out
      have hbsz := hbr.size
      clear hg' hg hlow hl hlen ho hfin
      go_wp2_with (first
        | (go_at_call 53; refine cT.mono ?_; rintro e w' ⟨rfl, rfl⟩)
        | (at_builtin; refine wpList_append_own _ rfl _ _ 74 rfl w.heap.size 3 i0 (.int .i64 0) 1 8 Tryd.underlying74 hi hz0 hz1 hz2 rfl (by decide) _ _ _ rfl (ho'.alloc _) ⟨wr.heap.size, 0, none⟩ 1 1 [.int .i64 c] rfl rfl ?c1 ?c2 ?c3 ?c4 ?c5 ?_))
      case c1 =>
        intro j u hj
        match j, hj with
        | 0, hj => simp at hj; subst hj; simp [Addr.add]
      case c2 => intro u hu; simp at hu; subst hu; rfl
      case c3 => unfold maxLen; omega
      case c4 => omega
      case c5 => simp; omega
      intro v' w3 hown' hgrow _
      have hb2 : Below w.heap.size w w3 := (hbr.alloc (by omega) _).grown hgrow (by simp; omega) (fun g hg => (ho'.lt g hg).1)
      have HO2 : Hid (w3.ownsRow w.heap.size 3 1 v' (l ++ [c]).length (ints (l ++ [c]))) := by
        rw [List.length_append, List.length_singleton]
        unfold ints
        rw [List.map_append]
        exact hown'
      clear ho' hown' hgrow cT
      go_wp2_with fail
      go_roundg (listTo y' 64).length
      case rel => exact ⟨y', l ++ [c], rfl, hlt, rfl, HL, HLEN.out, hb2, HO2⟩
      case measure => have := HG.out; omega
end Go.Proofs.YtbcfmckhgjcakaaDoor
/- A label's text, plainly: no program. -/
namespace Go.Proofs.YtbcfmckhgjcakaaDoor
open Go

/-- A label's text. -/
def textN (a : Nat) : List UInt8 := if a = 0 then [45] else Lib.join ((listTo a 64).map Lib.decDigits) [43]
/-- A number's digits as a text. -/
def digsB (i : Nat) : ByteArray := ⟨(Lib.decDigits i).toArray⟩
theorem dec_lt (i : Nat) (h : i < 100) : Lib.decDigits i = if i < 10 then [UInt8.ofNat (48 + i)] else [UInt8.ofNat (48 + i / 10), UInt8.ofNat (48 + i % 10)] := by
  rw [Lib.decDigits]
  by_cases h1 : i < 10
  · rw [dif_pos h1, if_pos h1]
  · rw [dif_neg h1, if_neg h1, Lib.decDigits, dif_pos (by omega)]; rfl
theorem dec_len2 (i : Nat) (h : i < 100) : (Lib.decDigits i).length ≤ 2 := by
  rw [dec_lt i h]
  split <;> simp
theorem lens_le : ∀ l : List Nat, (∀ i ∈ l, i < 100) → Lib.lens (l.map Lib.decDigits) ≤ 2 * l.length
  | [], _ => by simp [Lib.lens]
  | x :: l, h => by
    have ih := lens_le l fun i hi => h i (List.mem_cons_of_mem _ hi)
    have hx := dec_len2 x (h x (List.mem_cons_self ..))
    simp only [Lib.lens, List.map_cons, List.sum_cons, List.length_cons] at ih ⊢
    omega
theorem list_below (a i : Nat) (h : i ∈ listTo a 64) : i < 100 := by have := list_lt a 64 i h; omega
theorem join_le (l : List Nat) (h : ∀ i ∈ l, i < 100) : (Lib.join (l.map Lib.decDigits) [43]).length ≤ 3 * l.length := by
  cases l with
  | nil => simp [Lib.join_nil]
  | cons x r =>
    have h1 := lens_le (x :: r) h
    rw [List.map_cons] at h1 ⊢
    rw [Lib.join_length]
    simp only [List.length_cons, List.length_nil, List.length_map] at h1 ⊢
    omega
theorem text_le (a : Nat) : (textN a).length ≤ 192 := by
  unfold textN
  split
  · simp
  · have := join_le (listTo a 64) (list_below a)
    have := listTo_len a 64
    omega
theorem digs_map (l : List Nat) : (l.map digsB).map (fun b => b.data.toList) = l.map Lib.decDigits := by
  rw [List.map_map]
  apply List.map_congr_left
  intro i _
  rfl
theorem list_nonzero (a : Nat) (h0 : a ≠ 0) (h : a < 18446744073709551616) : ∃ n, (listTo a 64).length = n + 1 := by
  obtain ⟨e, _⟩ := list_low a h0 h
  exact ⟨_, by rw [e]; rfl⟩
theorem join_snoc (xs : List (List UInt8)) (x sep : List UInt8) : Lib.join (xs ++ [x]) sep = if xs = [] then x else Lib.join xs sep ++ sep ++ x := by
  cases xs with
  | nil => simp [Lib.join_one]
  | cons y r =>
    rw [if_neg (by simp), List.cons_append, Lib.join_cons, Lib.join_cons]
    simp [Lib.joinTail]
end Go.Proofs.YtbcfmckhgjcakaaDoor
