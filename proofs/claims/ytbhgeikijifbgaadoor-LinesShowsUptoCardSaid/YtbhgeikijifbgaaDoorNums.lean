/- Number, digits, Take, Read of package lines, each by its contract. -/
import Derived.Test.YtbhgeikijifbgaaDoorBase
import Derived.Test.YtbhgeikijifbgaaDoorNum
import Derived.Lib.LaidTab
import Derived.Lib.AppendIntMem
import Derived.Lib.OthersKept
import Derived.Deep.LoopGhost
import Derived.Deep.QuietTactic
import Derived.BigQuiet
namespace Go.Proofs.YtbhgeikijifbgaaDoor
open Go.RowKit

/-- The library's table of powers, as the world holds it. -/
def Tabs (w : World) : Prop := Lib.TabIs Tryd.prog w "internal/strconv.uint64pow10" .u64 Lib.pow10Tab
theorem Tabs.below {w w' : World} (h : Tabs w) (hb : Below w.heap.size w w') : Tabs w' := by
  unfold Tabs Lib.TabIs World.var? at h ⊢
  rw [show Tryd.prog.globalNamed "internal/strconv.uint64pow10" = some 1 by kernel_rfl] at h ⊢
  simp only [Option.bind_some] at h ⊢
  have hg : 1 < w.heap.size := by
    cases hh : w.heap[1]? with
    | none => rw [hh] at h; cases h
    | some o => exact (Array.getElem?_eq_some_iff.1 hh).1
  rw [hb.block _ hg]; exact h

set_option maxHeartbeats 400000 in
theorem number_any (n : Int) (h0 : -9223372036854775808 ≤ n) (h1 : n ≤ 9223372036854775807) (w : World) (ht : Tabs w) :
    Calls Tryd.prog 13 #[.int .i64 n] w fun e w' => e = .returned (.string ⟨(Lib.itoa n).toArray⟩) ∧ Below w.heap.size w w' := by
  have hC : Calls Tryd.prog 30 #[.int .i64 n] w fun e w' => e = .returned (.string ⟨(Lib.itoa n).toArray⟩) ∧ Below w.heap.size w w' := (Tryd.strconv_Itoa n h0 h1 w ht).mono (fun e w' ⟨he, k, os, hw⟩ => ⟨he, by rw [hw]; exact Lib.below_grow _ w (Nat.le_refl _) k os⟩)
  obtain ⟨l, hl⟩ : ∃ l, Lib.itoa n = l := ⟨_, rfl⟩
  rw [hl] at hC ⊢
  clear hl h0 h1
  go_enter Tryd.func13, Tryd.ntmps13
  go_wp2_with (go_at_call 30; refine hC.mono ?_; rintro e w' ⟨rfl, hb⟩)
  go_ret
  exact ⟨rfl, hb⟩

/-- Every byte before place k is a digit. -/
def DigTo (s : ByteArray) (k : Nat) : Prop := (s.data.toList.take k).all isDig = true
theorem digTo_step (s : ByteArray) (k : Nat) (h : k < s.size) (hn : DigTo s k) (hb : isDig s[k] = true) : DigTo s (k + 1) := by
  unfold DigTo at hn ⊢
  rw [take_snoc s k h, List.all_append, hn]
  simp [hb]
theorem digTo_split (s : ByteArray) (k : Nat) (hn : DigTo s k) (hend : ∀ h : k < s.size, isDig s[k] = false) :
    s.data.toList.takeWhile isDig = s.data.toList.take k ∧ s.data.toList.dropWhile isDig = s.data.toList.drop k := by
  have e := List.take_append_drop k s.data.toList
  have h0 : (s.data.toList.drop k).takeWhile isDig = [] ∧ (s.data.toList.drop k).dropWhile isDig = s.data.toList.drop k := by
    by_cases h : k < s.size
    · rw [drop_cons s k h, List.takeWhile_cons, List.dropWhile_cons, hend h]; simp
    · rw [List.drop_eq_nil_of_le (by simpa using Nat.le_of_not_lt h)]; simp
  have h1 : ∀ c ∈ s.data.toList.take k, isDig c = true := List.all_eq_true.1 hn
  constructor
  · conv => lhs; rw [← e]
    rw [List.takeWhile_append_of_pos h1, h0.1, List.append_nil]
  · conv => lhs; rw [← e]
    rw [List.dropWhile_append_of_pos h1, h0.2]
theorem dv_take (s : ByteArray) (k : Nat) (h : k < s.size) : dv (s.data.toList.take (k + 1)) = dv (s.data.toList.take k) * 10 + (s[k].toNat - 48) := by
  rw [take_snoc s k h, dv_snoc]

theorem step64 (x : Int) (a d : Nat) (hx : x = wrap64 (a : Int)) : wrap64 (wrap64 (x * 10) + (d : Int)) = wrap64 ((a * 10 + d : Nat) : Int) := by
  subst hx
  unfold wrap64
  omega
theorem notDig (s : ByteArray) (k : Nat) (h : k < s.size) (hb : isDig s[k] = false) : ((Utf8.decode s k).1 : Int) < 48 ∨ 57 < ((Utf8.decode s k).1 : Int) := by
  by_cases hl : s[k].toNat < 128
  · rw [dec_lo s k h hl]
    have : ¬ (48 ≤ s[k].toNat ∧ s[k].toNat ≤ 57) := fun h' => Bool.false_ne_true (hb.symm.trans ((isDig_iff _).2 h'))
    simp only; omega
  · have := dec_hi s k h (by omega); omega
theorem extract_drop (s : ByteArray) (k : Nat) : s.extract k s.size = ⟨(s.data.toList.drop k).toArray⟩ := by
  apply WideShapes.bytes_inj
  rw [Lib.extract_to_end]
theorem pair_ret {n m : Int} {a b : ByteArray} (h1 : n = m) (h2 : a = b) : Ending.returned (.tuple #[.int .i64 n, .string a]) = .returned (.tuple #[.int .i64 m, .string b]) := by rw [h1, h2]

def DigRel (s : ByteArray) (k : Nat) (n : Value) : Prop := ∃ x : Int, n = .int .i64 x ∧ x = wrap64 (dv (s.data.toList.take k)) ∧ DigTo s k

set_option maxHeartbeats 1000000 in
theorem digits_any (s : ByteArray) (w : World) (hs : s.size ≤ maxLen) :
    Calls Tryd.prog 31 #[.string s] w fun e w' => e = .returned (.tuple #[.int .i64 (wrap64 (dv (s.data.toList.takeWhile isDig))), .string ⟨(s.data.toList.dropWhile isDig).toArray⟩]) ∧ Below w.heap.size w w' := by
  unfold maxLen at hs
  obtain ⟨A, hA⟩ : ∃ A, wrap64 (dv (s.data.toList.takeWhile isDig) : Int) = A := ⟨_, rfl⟩
  obtain ⟨B, hB⟩ : ∃ B, (⟨(s.data.toList.dropWhile isDig).toArray⟩ : ByteArray) = B := ⟨_, rfl⟩
  rw [hA, hB]
  have HA := Lib.hid hA; have HB := Lib.hid hB
  clear hA hB
  go_enter Tryd.func31, Tryd.ntmps31
  go_wp2
  go_loopg [2] s.size (fun gf n wx => ∃ k : Nat, wx.heap[w.heap.size]? = some (.stringIter s k) ∧ Below w.heap.size w wx ∧ DigRel s k n ∧ k ≤ s.size ∧ s.size ≤ k + gf)
  case atStart => exact ⟨0, World.iter_heap w s 0, (Below.refl _ w).alloc (Nat.le_refl _) _, ⟨0, rfl, by simp [dv, wrap64], by simp [DigTo]⟩, by omega, by omega⟩
  case round =>
    obtain ⟨k, hit, hbw, ⟨x, rfl, hx, hd⟩, hk, hf⟩ := hrel
    have HX := Lib.hid hx
    clear hx
    by_cases hps : k < s.size
    · obtain ⟨g', rfl⟩ : ∃ g', gk = g' + 1 := ⟨gk - 1, by omega⟩
      have hnx : ∀ ty, (Instr.next (.pointer (some ⟨w.heap.size, 0, none⟩)) true ty).run Tryd.prog wr = _ := fun ty => Lib.run_next_any_at wr w.heap.size s k ty hit hps
      have hit2 := Lib.iterAt_heap wr w.heap.size s k (k + (Utf8.decode s k).2) hit
      have hbw2 := Lib.below_iterAt hbw (k := w.heap.size) (Nat.le_refl _) s (k + (Utf8.decode s k).2)
      cases hb : isDig s[k]
      · have hR := notDig s k hps hb
        obtain ⟨R, hRd⟩ : ∃ R, (Utf8.decode s k).1 = R := ⟨_, rfl⟩
        obtain ⟨W, hWd⟩ : ∃ W, wr.iterAt w.heap.size s (k + (Utf8.decode s k).2) = W := ⟨_, rfl⟩
        rw [hRd, hWd] at hnx
        rw [hRd] at hR
        rw [hWd] at hbw2
        have hsp := digTo_split s k hd (fun _ => hb)
        have hfin : Hid (x = A ∧ s.extract k s.size = B) := ⟨by rw [HX.out, ← HA.out, hsp.1], by rw [extract_drop, ← HB.out, hsp.2]⟩
        clear hsp hb hit2 hWd hRd hd hit
        have hk0 : (0 : Int) ≤ (k : Int) := Int.natCast_nonneg _
        have hk1 : (k : Int) ≤ (s.size : Int) := by omega
        rcases hR with hR | hR
        all_goals go_wp2
        all_goals go_quiet (fail)
        all_goals go_wp2
        all_goals go_ret2
        all_goals exact ⟨pair_ret hfin.out.1 hfin.out.2, below_drewN' hbw2 _⟩
      · have hdig := (isDig_iff _).1 hb
        have hdec := dec_lo s k hps (by omega)
        rw [hdec] at hnx hit2 hbw2
        obtain ⟨R, hRd⟩ : ∃ R, s[k].toNat = R := ⟨_, rfl⟩
        obtain ⟨W, hWd⟩ : ∃ W, wr.iterAt w.heap.size s (k + 1) = W := ⟨_, rfl⟩
        simp only at hnx hit2 hbw2
        rw [hWd] at hnx hbw2 hit2
        have hst : Hid (DigRel s (k + 1) (.int .i64 (wrap64 (wrap64 (x * 10) + ((R : Int) - 48))))) := by
          refine ⟨_, rfl, ?_, digTo_step s k hps hd hb⟩
          rw [dv_take s k hps, ← step64 x _ _ HX.out, hRd, show ((R - 48 : Nat) : Int) = (R : Int) - 48 from by omega]
        rw [hRd] at hnx hdig
        have hR0 : (48 : Int) ≤ (R : Int) := by omega
        have hR1 : (R : Int) ≤ 57 := by omega
        clear hdec hWd hRd hd hit hdig hb
        go_wp2
        go_roundg g'
        case measure => omega
        case rel => exact ⟨k + 1, hit2, hbw2, hst.out, by omega, by omega⟩
    · have hnx : ∀ ty, (Instr.next (.pointer (some ⟨w.heap.size, 0, none⟩)) true ty).run Tryd.prog wr = _ := fun ty => Lib.run_next_end_at wr w.heap.size s k ty hit hps
      have hsp := digTo_split s k hd (fun h => absurd h hps)
      have hfin : Hid (x = A ∧ (⟨#[]⟩ : ByteArray) = B) := ⟨by rw [HX.out, ← HA.out, hsp.1], by rw [← HB.out, hsp.2, List.drop_eq_nil_of_le (by simpa using Nat.le_of_not_lt hps)]⟩
      clear hsp hd hit
      go_wp2
      go_ret2
      exact ⟨pair_ret hfin.out.1 hfin.out.2, hbw⟩
end Go.Proofs.YtbhgeikijifbgaaDoor
