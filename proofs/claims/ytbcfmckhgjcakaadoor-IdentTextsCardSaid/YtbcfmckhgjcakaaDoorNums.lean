/- Number, digits, Take, Read of package lines, each by its contract. -/
import Derived.Test.YtbcfmckhgjcakaaDoorBase
import Derived.Test.YtbcfmckhgjcakaaDoorNum
import Derived.Lib.LaidTab
import Derived.Lib.AppendIntMem
import Derived.Lib.OthersKept
import Derived.Deep.LoopGhost
import Derived.Deep.QuietTactic
import Derived.BigQuiet
namespace Go.Proofs.YtbcfmckhgjcakaaDoor
open Go.RowKit

/-- The library's table of powers, as the world holds it. -/
def Tabs (w : World) : Prop := Lib.TabIs Tryd.prog w "internal/strconv.uint64pow10" .u64 Lib.pow10Tab
theorem Tabs.below {w w' : World} (h : Tabs w) (hb : Below w.heap.size w w') : Tabs w' := by
  unfold Tabs Lib.TabIs World.var? at h ⊢
  rw [show Tryd.prog.globalNamed "internal/strconv.uint64pow10" = some 4 by kernel_rfl] at h ⊢
  simp only [Option.bind_some] at h ⊢
  have hg : 4 < w.heap.size := by
    cases hh : w.heap[4]? with
    | none => rw [hh] at h; cases h
    | some o => exact (Array.getElem?_eq_some_iff.1 hh).1
  rw [hb.block _ hg]; exact h

/-- Every byte before place k is a digit. -/
def DigTo (s : ByteArray) (k : Nat) : Prop := (s.data.toList.take k).all isDig = true
theorem digTo_step (s : ByteArray) (k : Nat) (h : k < s.size) (hn : DigTo s k) (hb : isDig s[k] = true) : DigTo s (k + 1) := by
  unfold DigTo at hn ⊢
  rw [take_snoc s k h, List.all_append, hn]
  simp [hb]
theorem digTo_split (s : ByteArray) (k : Nat) (hn : DigTo s k) (hend : ∀ h : k < s.size, isDig s[k] = false) :
    s.data.toList.takeWhile isDig = s.data.toList.take k ∧ s.data.toList.dropWhile isDig = s.data.toList.drop k := by
  have e := List.take_append_drop k s.data.toList
  have h0 : (s.data.toList.drop k).takeWhile isDig = [] ∧ (s.data.toList.drop k).dropWhile isDig = s.data.toList.drop k := by
    by_cases h : k < s.size
    · rw [drop_cons s k h, List.takeWhile_cons, List.dropWhile_cons, hend h]; simp
    · rw [List.drop_eq_nil_of_le (by simpa using Nat.le_of_not_lt h)]; simp
  have h1 : ∀ c ∈ s.data.toList.take k, isDig c = true := List.all_eq_true.1 hn
  constructor
  · conv => lhs; rw [← e]
    rw [List.takeWhile_append_of_pos h1, h0.1, List.append_nil]
  · conv => lhs; rw [← e]
    rw [List.dropWhile_append_of_pos h1, h0.2]
theorem dv_take (s : ByteArray) (k : Nat) (h : k < s.size) : dv (s.data.toList.take (k + 1)) = dv (s.data.toList.take k) * 10 + (s[k].toNat - 48) := by
  rw [take_snoc s k h, dv_snoc]

theorem step64 (x : Int) (a d : Nat) (hx : x = wrap64 (a : Int)) : wrap64 (wrap64 (x * 10) + (d : Int)) = wrap64 ((a * 10 + d : Nat) : Int) := by
  subst hx
  unfold wrap64
  omega
theorem notDig (s : ByteArray) (k : Nat) (h : k < s.size) (hb : isDig s[k] = false) : ((Utf8.decode s k).1 : Int) < 48 ∨ 57 < ((Utf8.decode s k).1 : Int) := by
  by_cases hl : s[k].toNat < 128
  · rw [dec_lo s k h hl]
    have : ¬ (48 ≤ s[k].toNat ∧ s[k].toNat ≤ 57) := fun h' => Bool.false_ne_true (hb.symm.trans ((isDig_iff _).2 h'))
    simp only; omega
  · have := dec_hi s k h (by omega); omega
theorem extract_drop (s : ByteArray) (k : Nat) : s.extract k s.size = ⟨(s.data.toList.drop k).toArray⟩ := by
  apply WideShapes.bytes_inj
  rw [Lib.extract_to_end]
theorem pair_ret {n m : Int} {a b : ByteArray} (h1 : n = m) (h2 : a = b) : Ending.returned (.tuple #[.int .i64 n, .string a]) = .returned (.tuple #[.int .i64 m, .string b]) := by rw [h1, h2]

def DigRel (s : ByteArray) (k : Nat) (n : Value) : Prop := ∃ x : Int, n = .int .i64 x ∧ x = wrap64 (dv (s.data.toList.take k)) ∧ DigTo s k

end Go.Proofs.YtbcfmckhgjcakaaDoor
