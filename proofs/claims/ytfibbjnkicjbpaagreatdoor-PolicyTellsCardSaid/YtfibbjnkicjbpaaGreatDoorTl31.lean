/- Texts of the proof, merged: Nums, Take, Show. -/
import Derived.Test.YtfibbjnkicjbpaaGreatDoorTl3
import Derived.Test.YtfibbjnkicjbpaaGreatDoorTl26
import Derived.Test.YtfibbjnkicjbpaaGreatDoorTl30
import Derived.Lib.LaidTab
import Derived.Lib.AppendIntMem
import Derived.Lib.OthersKept
import Derived.Deep.LoopGhost
import Derived.Deep.QuietTactic
import Derived.BigQuiet
import Derived.Deep.RegionHeld3
import Derived.StillTactics
import Derived.OwnWalk
/- Number, digits, Take, Read of package lines, each by its contract. -/
namespace Go.Proofs.YtfibbjnkicjbpaaGreatDoor
open Go.RowKit

/-- The library's table of powers, as the world holds it. -/
def Tabs (w : World) : Prop := Lib.TabIs Tryz.prog w "internal/strconv.uint64pow10" .u64 Lib.pow10Tab
theorem Tabs.below {w w' : World} (h : Tabs w) (hb : Below w.heap.size w w') : Tabs w' := by
  unfold Tabs Lib.TabIs World.var? at h ⊢
  rw [show Tryz.prog.globalNamed "internal/strconv.uint64pow10" = some 2 by kernel_rfl] at h ⊢
  simp only [Option.bind_some] at h ⊢
  have hg : 2 < w.heap.size := by
    cases hh : w.heap[2]? with
    | none => rw [hh] at h; cases h
    | some o => exact (Array.getElem?_eq_some_iff.1 hh).1
  rw [hb.block _ hg]; exact h

/-- Every byte before place k is a digit. -/
def DigTo (s : ByteArray) (k : Nat) : Prop := (s.data.toList.take k).all isDig = true
theorem digTo_step (s : ByteArray) (k : Nat) (h : k < s.size) (hn : DigTo s k) (hb : isDig s[k] = true) : DigTo s (k + 1) := by
  unfold DigTo at hn ⊢
  rw [take_snoc s k h, List.all_append, hn]
  simp [hb]
theorem digTo_split (s : ByteArray) (k : Nat) (hn : DigTo s k) (hend : ∀ h : k < s.size, isDig s[k] = false) :
    s.data.toList.takeWhile isDig = s.data.toList.take k ∧ s.data.toList.dropWhile isDig = s.data.toList.drop k := by
  have e := List.take_append_drop k s.data.toList
  have h0 : (s.data.toList.drop k).takeWhile isDig = [] ∧ (s.data.toList.drop k).dropWhile isDig = s.data.toList.drop k := by
    by_cases h : k < s.size
    · rw [drop_cons s k h, List.takeWhile_cons, List.dropWhile_cons, hend h]; simp
    · rw [List.drop_eq_nil_of_le (by simpa using Nat.le_of_not_lt h)]; simp
  have h1 : ∀ c ∈ s.data.toList.take k, isDig c = true := List.all_eq_true.1 hn
  constructor
  · conv => lhs; rw [← e]
    rw [List.takeWhile_append_of_pos h1, h0.1, List.append_nil]
  · conv => lhs; rw [← e]
    rw [List.dropWhile_append_of_pos h1, h0.2]
theorem dv_take (s : ByteArray) (k : Nat) (h : k < s.size) : dv (s.data.toList.take (k + 1)) = dv (s.data.toList.take k) * 10 + (s[k].toNat - 48) := by
  rw [take_snoc s k h, dv_snoc]

theorem step64 (x : Int) (a d : Nat) (hx : x = wrap64 (a : Int)) : wrap64 (wrap64 (x * 10) + (d : Int)) = wrap64 ((a * 10 + d : Nat) : Int) := by
  subst hx
  unfold wrap64
  omega
theorem notDig (s : ByteArray) (k : Nat) (h : k < s.size) (hb : isDig s[k] = false) : ((Utf8.decode s k).1 : Int) < 48 ∨ 57 < ((Utf8.decode s k).1 : Int) := by
  by_cases hl : s[k].toNat < 128
  · rw [dec_lo s k h hl]
    have : ¬ (48 ≤ s[k].toNat ∧ s[k].toNat ≤ 57) := fun h' => Bool.false_ne_true (hb.symm.trans ((isDig_iff _).2 h'))
    simp only; omega
  · have := dec_hi s k h (by omega); omega
theorem extract_drop (s : ByteArray) (k : Nat) : s.extract k s.size = ⟨(s.data.toList.drop k).toArray⟩ := by
  apply WideShapes.bytes_inj
  rw [Lib.extract_to_end]
theorem pair_ret {n m : Int} {a b : ByteArray} (h1 : n = m) (h2 : a = b) : Ending.returned (.tuple #[.int .i64 n, .string a]) = .returned (.tuple #[.int .i64 m, .string b]) := by rw [h1, h2]

def DigRel (s : ByteArray) (k : Nat) (n : Value) : Prop := ∃ x : Int, n = .int .i64 x ∧ x = wrap64 (dv (s.data.toList.take k)) ∧ DigTo s k

end Go.Proofs.YtfibbjnkicjbpaaGreatDoor
/- lines.Take and lines.Read, each by its contract. -/
namespace Go.Proofs.YtfibbjnkicjbpaaGreatDoor
open Go.RowKit

theorem prefix_neg (l : List UInt8) : Lib.hasPrefix l [45] = negB l := by
  cases l with
  | nil => rfl
  | cons a t => simp only [Lib.hasPrefix, negB, List.isPrefixOf, Bool.and_true, List.head?_cons, Option.some_beq_some]; exact BEq.comm
theorem trim_body (l : List UInt8) : Lib.trimPrefix l [45] = bodyL l := by
  unfold Lib.trimPrefix bodyL
  rw [prefix_neg]
  cases l with
  | nil => simp
  | cons a t => simp
theorem val_neg (l : List UInt8) (h : negB l = true) : wrap64 (-(wrap64 (dv (digsL l)))) = wrap64 (valL l) := by
  unfold valL; rw [h]; simp only [if_true]; unfold wrap64; omega
theorem val_pos (l : List UInt8) (h : negB l = false) : wrap64 (dv (digsL l)) = wrap64 (valL l) := by
  unfold valL; rw [h]; simp only [Bool.false_eq_true, if_false]
theorem wrap64_lo (n : Int) : -9223372036854775808 ≤ wrap64 n ∧ wrap64 n ≤ 9223372036854775807 := by unfold wrap64; omega
theorem wrap64_same (n : Int) (h0 : -9223372036854775808 ≤ n) (h1 : n ≤ 9223372036854775807) : wrap64 n = n := by unfold wrap64; omega
theorem ok_range (l : List UInt8) (h : takeOk l = true) : -9223372036854775808 ≤ valL l ∧ valL l ≤ 9223372036854775807 := by
  unfold takeOk at h
  simp only [Bool.and_eq_true, decide_eq_true_eq] at h
  exact ⟨h.1.2, h.2⟩
theorem ok_iff (l : List UInt8) : Lib.itoa (wrap64 (valL l)) = formL l ↔ takeOk l = true := by
  constructor
  · intro h
    exact (ok_of_form l _ (wrap64_lo _).1 (wrap64_lo _).2 h).1
  · intro h
    obtain ⟨h0, h1⟩ := ok_range l h
    rw [wrap64_same _ h0 h1]
    exact form_of_ok l h
theorem rest_len (l : List UInt8) : (restL l).length ≤ l.length := by
  have := congrArg List.length (form_rest l)
  rw [List.length_append] at this; omega
theorem form_take (l : List UInt8) : l.take (l.length - (restL l).length) = formL l := by
  have h := form_rest l
  have h2 := congrArg List.length h
  rw [List.length_append] at h2
  conv => lhs; rw [← h]
  rw [List.take_append_of_le_length (by rw [h]; omega)]
  rw [List.take_of_length_le (by rw [h]; omega)]
theorem three_ret {n m e f : Int} {a b : ByteArray} (h1 : n = m) (h2 : a = b) (h3 : e = f) : Ending.returned (.tuple #[.int .i64 n, .string a, .int .i64 e]) = .returned (.tuple #[.int .i64 m, .string b, .int .i64 f]) := by rw [h1, h2, h3]

theorem flipW {P : Program} {f : Nat} {a : Array Value} {w : World} {E : Ending → Prop} (h : Calls P f a w fun e w' => E e ∧ w' = w) : Calls P f a w fun e w' => E e ∧ w = w' := h.mono fun _ _ ⟨h1, h2⟩ => ⟨h1, h2.symm⟩
theorem take_bad {l F : List UInt8} {x : Int} (hx : x = wrap64 (valL l)) (hf : F = formL l) (h : (!F == Lib.itoa x) = true) : 0 = takeN l ∧ (⟨#[]⟩ : ByteArray) = ⟨(takeT l).toArray⟩ ∧ 4 = takeE l := by
  have hno : takeOk l = false := by
    cases hk : takeOk l with
    | false => rfl
    | true =>
      rw [hx, hf, (ok_iff l).2 hk] at h
      simp at h
  unfold takeN takeT takeE
  rw [hno]
  exact ⟨rfl, rfl, rfl⟩
theorem take_good {l F : List UInt8} {x : Int} {R : ByteArray} (hx : x = wrap64 (valL l)) (hf : F = formL l) (hR : R.data.toList = restL l) (h : (!F == Lib.itoa x) = false) : x = takeN l ∧ R = ⟨(takeT l).toArray⟩ ∧ 0 = takeE l := by
  have hok : takeOk l = true := by
    rw [← ok_iff, ← hx, ← hf]
    simp only [Bool.not_eq_false', beq_iff_eq] at h
    exact h.symm
  unfold takeN takeT takeE
  rw [hok]
  obtain ⟨h0, h1⟩ := ok_range l hok
  refine ⟨by rw [hx, wrap64_same _ h0 h1]; rfl, ?_, rfl⟩
  apply WideShapes.bytes_inj
  rw [hR]; rfl
theorem extract_upto (s : ByteArray) (k : Nat) : (s.extract 0 k).data.toList = s.data.toList.take k := by simp
theorem form_bytes (s R : ByteArray) (hR : R.data.toList = restL s.data.toList) : (s.extract 0 (s.size - R.size)).toList = formL s.data.toList := by
  rw [ByteArray.toList_eq, extract_upto, ← form_take, len_size, ← hR, len_size]
def NumS (w W : World) : Prop := Tabs W ∧ Below w.heap.size w W
theorem NumS.drew {w W : World} (h : NumS w W) : NumS w W.drew := ⟨h.1, h.2.drew⟩
theorem NumS.next {w W W' : World} (hb : Below W.heap.size W W') (h : NumS w W) : NumS w W' := ⟨h.1.below hb, h.2.trans (hb.mono h.2.size)⟩

end Go.Proofs.YtfibbjnkicjbpaaGreatDoor
/- Show and Shown of package lines, each by its contract. -/
namespace Go.Proofs.YtfibbjnkicjbpaaGreatDoor
open Go.RowKit

/-- The counted text. -/
def showL (l : List UInt8) : List UInt8 := Lib.itoa l.length ++ 58 :: l
def shownOk (l : List UInt8) : Bool := takeOk l && ((restL l).head? == some 58) && decide (0 ≤ valL l) && decide (valL l ≤ ((restL l).tail.length : Int))
def shownT (l : List UInt8) : List UInt8 := if shownOk l then (restL l).tail.take (valL l).toNat else []
def shownR (l : List UInt8) : List UInt8 := if shownOk l then (restL l).tail.drop (valL l).toNat else []
def shownE (l : List UInt8) : Int := if shownOk l then 0 else 4

theorem show_bytes (s : ByteArray) : (⟨(Lib.itoa (s.size : Int)).toArray⟩ ++ ⟨#[58]⟩ ++ s : ByteArray) = ⟨(showL s.data.toList).toArray⟩ := by
  apply WideShapes.bytes_inj
  rw [Joins.data_append, Joins.data_append]
  unfold showL
  rw [len_size]
  simp

theorem str3_ret {a b c d : ByteArray} {e f : Int} (h1 : a = b) (h2 : c = d) (h3 : e = f) : Ending.returned (.tuple #[.string a, .string c, .int .i64 e]) = .returned (.tuple #[.string b, .string d, .int .i64 f]) := by rw [h1, h2, h3]
theorem shown_no (l : List UInt8) (h : shownOk l = false) : (⟨#[]⟩ : ByteArray) = ⟨(shownT l).toArray⟩ ∧ (⟨#[]⟩ : ByteArray) = ⟨(shownR l).toArray⟩ ∧ 4 = shownE l := by
  unfold shownT shownR shownE; rw [h]; exact ⟨rfl, rfl, rfl⟩
theorem shown_bad1 (l : List UInt8) (h : takeOk l = false) : shownOk l = false := by unfold shownOk; rw [h]; rfl
theorem shown_bad2 (l : List UInt8) (h : Lib.hasPrefix (restL l) [58] = false) : shownOk l = false := by
  unfold shownOk
  rw [show ((restL l).head? == some 58) = false from ?_]
  · simp
  · cases hr : restL l with
    | nil => rfl
    | cons a t =>
      rw [hr] at h
      simp only [Lib.hasPrefix, List.isPrefixOf, Bool.and_true] at h
      simp only [List.head?_cons, Option.some_beq_some]
      rw [BEq.comm]; exact h
theorem shown_bad3 (l : List UInt8) (h : valL l < 0) : shownOk l = false := by
  unfold shownOk; rw [decide_eq_false (by omega : ¬ 0 ≤ valL l)]; simp
theorem shown_bad4 (l : List UInt8) (h : ((restL l).tail.length : Int) < valL l) : shownOk l = false := by
  unfold shownOk; rw [decide_eq_false (by omega : ¬ valL l ≤ ((restL l).tail.length : Int))]; simp
theorem shown_yes (l : List UInt8) (B : ByteArray) (n : Nat) (hB : B.data.toList = (restL l).tail) (h : takeOk l = true) (hp : Lib.hasPrefix (restL l) [58] = true) (hn : valL l = n) (h1 : n ≤ B.size) :
    B.extract 0 n = ⟨(shownT l).toArray⟩ ∧ B.extract n B.size = ⟨(shownR l).toArray⟩ ∧ 0 = shownE l := by
  have hok : shownOk l = true := by
    unfold shownOk
    rw [h, hn, ← hB, len_size]
    have : ((restL l).head? == some 58) = true := by
      cases hr : restL l with
      | nil => rw [hr] at hp; cases hp
      | cons a t =>
        rw [hr] at hp
        simp only [Lib.hasPrefix, List.isPrefixOf, Bool.and_true] at hp
        simp only [List.head?_cons, Option.some_beq_some]
        rw [BEq.comm]; exact hp
    rw [this, decide_eq_true (by omega : (0 : Int) ≤ (n : Int)), decide_eq_true (by omega : (n : Int) ≤ (B.size : Int))]; rfl
  unfold shownT shownR shownE
  rw [hok, hn, ← hB, Int.toNat_natCast]
  refine ⟨?_, ?_, rfl⟩
  · apply WideShapes.bytes_inj; rw [extract_upto]; rfl
  · apply WideShapes.bytes_inj; rw [Lib.extract_to_end]; rfl
theorem trim_colon (l : List UInt8) (h : Lib.hasPrefix l [58] = true) : Lib.trimPrefix l [58] = l.tail := by
  unfold Lib.trimPrefix; rw [h]
  cases l with
  | nil => rfl
  | cons a t => rfl
theorem take_is (l : List UInt8) (h : takeOk l = true) : takeN l = valL l ∧ takeT l = restL l ∧ takeE l = 0 := by
  unfold takeN takeT takeE; rw [h]; exact ⟨rfl, rfl, rfl⟩
theorem take_not (l : List UInt8) (h : takeOk l = false) : takeN l = 0 ∧ takeT l = [] ∧ takeE l = 4 := by
  unfold takeN takeT takeE; rw [h]; exact ⟨rfl, rfl, rfl⟩

end Go.Proofs.YtfibbjnkicjbpaaGreatDoor
