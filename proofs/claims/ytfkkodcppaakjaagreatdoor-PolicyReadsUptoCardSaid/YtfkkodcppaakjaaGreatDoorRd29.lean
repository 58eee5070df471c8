/- Texts of the proof, merged: PrParseP, LbRefText. -/
import Derived.Test.YtfkkodcppaakjaaGreatDoorRd4
import Derived.Test.YtfkkodcppaakjaaGreatDoorRd15
import Derived.Test.YtfkkodcppaakjaaGreatDoorRd22
import Derived.Test.YtfkkodcppaakjaaGreatDoorRd24
import Derived.Test.YtfkkodcppaakjaaGreatDoorRd28
/- The document's reading of a policy's text, plainly: which texts it takes. No program. -/
namespace Go.Proofs.YtfkkodcppaakjaaGreatDoor
open Go

theorem blank_parts {t : List UInt8} (h : (32 : UInt8) ∈ t) : nameOf t ++ 32 :: wordAt t = t := by
  unfold nameOf wordAt
  have h1 := List.takeWhile_append_dropWhile (p := (· != 32)) (l := t)
  cases hd : t.dropWhile (· != 32) with
  | nil =>
    rw [hd, List.append_nil] at h1
    rw [← h1] at h
    have := List.all_eq_true.1 (List.all_takeWhile (p := (· != 32)) (l := t)) 32 h
    simp at this
  | cons c r =>
    have hc : (c != 32) = false := by
      have := List.head?_dropWhile_not (p := (· != 32)) t
      rw [hd] at this
      simpa using this
    have e : c = 32 := by simpa using hc
    subst e
    rw [hd] at h1
    simpa using h1
theorem blank_at {t : List UInt8} {k : Nat} (h : ∀ j (h : j < t.length), j < k → t[j] ≠ 32) (hk : k < t.length) (hc : t[k] = 32) : nameOf t = t.take k ∧ wordAt t = t.drop (k + 1) ∧ (32 : UInt8) ∈ t := by
  have e : t = t.take k ++ 32 :: t.drop (k + 1) := by
    rw [← hc, List.getElem_cons_drop, List.take_append_drop]
  have hp : ∀ c ∈ t.take k, (c != 32) = true := fun c hm => by
    obtain ⟨j, hj, rfl⟩ := List.getElem_of_mem hm
    rw [List.length_take] at hj
    rw [List.getElem_take]
    simpa using h j (by omega) (by omega)
  refine ⟨?_, ?_, by rw [← hc]; exact List.getElem_mem hk⟩
  · unfold nameOf
    conv => lhs; rw [e]
    rw [List.takeWhile_append_of_pos hp]
    simp
  · unfold wordAt
    conv => lhs; rw [e]
    rw [List.dropWhile_append_of_pos hp]
    simp
theorem blank_none {t : List UInt8} (h : ∀ j (h : j < t.length), t[j] ≠ 32) : (32 : UInt8) ∉ t := fun hm => by
  obtain ⟨j, hj, e⟩ := List.getElem_of_mem hm
  exact h j hj e
theorem none_of_noblank {s : List UInt8} {k : Nat} (hk : k < (cutL s).length) (h : (32 : UInt8) ∉ (cutL s)[k]) : ¬ ∃ l, Spells s l := by
  rintro ⟨l, ho, hr, hl, rfl⟩
  have e := (cut_print ho.2.2).1
  apply h
  rw [List.getElem_of_eq e hk, List.getElem_map]
  unfold lineOf
  simp
theorem none_of_fall {s : List UInt8} {k : Nat} {l : List Vw} (hk : k ≤ (cutL s).length) (h : Reads ((cutL s).take k) l) (hr : ¬ Rising l) : ¬ ∃ l', Spells s l' := by
  rintro ⟨l', ho, hr', hl, rfl⟩
  have e := (cut_print ho.2.2).1
  have := reads_lines h l' k ho.2.2 hl (by rw [e]) (by rw [e, List.length_map] at hk; exact hk)
  rw [this] at hr
  exact hr (List.Pairwise.sublist (List.take_sublist k l') hr')
theorem reads_map {ts : List (List UInt8)} {l : List Vw} (h : Reads ts l) : (∀ t ∈ ts, (32 : UInt8) ∈ t) → l.map lineOf = ts := by
  induction h with
  | nil => intro _; rfl
  | @snoc ts l t a h ha e ih =>
    intro hb
    rw [List.map_append, ih fun t ht => hb t (by simp [ht])]
    congr 1
    rw [List.map_singleton]
    unfold lineOf
    simp only
    rw [e, blank_parts (hb t (by simp))]
theorem join_cutL {s : List UInt8} (hc : cutE s = 0) : joinL (cutL s) = s := by
  unfold cutE cutOk at hc
  unfold cutL
  cases h0 : s.isEmpty
  · rw [h0] at hc
    cases hl : (s.getLast? == some 10)
    · rw [hl] at hc; simp at hc
    · simp
      exact join_cut s hl
  · have : s = [] := by simpa using h0
    subst this
    rfl
theorem spells_lines {s : List UInt8} {l : List Vw} (hc : cutE s = 0) (h : Reads (cutL s) l) (hb : ∀ t ∈ cutL s, (32 : UInt8) ∈ t) (ho : okL l) (hr : Rising l) : Spells s l :=
  ⟨ho, hr, h.lo, by unfold printL; rw [reads_map h hb, join_cutL hc]⟩
theorem rising_snoc {l : List Vw} {x : Vw} (h : Rising l) (hx : ∀ h : 0 < l.length, l[l.length - 1].s < x.s) : Rising (l ++ [x]) := by
  unfold Rising at h ⊢
  rw [List.pairwise_append]
  refine ⟨h, List.pairwise_singleton _ _, fun y hy z hz => ?_⟩
  rw [List.mem_singleton] at hz
  subst hz
  obtain ⟨j, hj, rfl⟩ := List.getElem_of_mem hy
  have h0 := hx (by omega)
  by_cases e : j = l.length - 1
  · subst e; exact h0
  · exact Std.lt_trans (List.pairwise_iff_getElem.1 h j (l.length - 1) hj (by omega) (by omega)) h0
theorem not_rising {l : List Vw} {x : Vw} (h0 : 0 < l.length) (h : ¬ l[l.length - 1].s < x.s) : ¬ Rising (l ++ [x]) := fun hr => by
  unfold Rising at hr
  rw [List.pairwise_append] at hr
  exact h (hr.2.2 _ (List.getElem_mem _) x (by simp))
end Go.Proofs.YtfkkodcppaakjaaGreatDoor
/- The document's digits and Text, by contract. -/
namespace Go.Proofs.YtfkkodcppaakjaaGreatDoor
open Go.RowKit

theorem digit_nat (d : Nat) (h : d < 10) : (UInt8.ofNat (48 + d)).toNat = 48 + d := by
  rw [UInt8.toNat_ofNat']; exact Nat.mod_eq_of_lt (by omega)
theorem digit1 (w : World) (d : Nat) (hd : d < 10) :
    (convert 55 9 (.slice (some ⟨w.heap.size, 0, none⟩) 1 1)).run Tryz.prog (w.alloc (.cells #[.int .u8 (48 + (d : Int))] 5)) = .ok (.string ⟨#[UInt8.ofNat (48 + d)]⟩) (w.alloc (.cells #[.int .u8 (48 + (d : Int))] 5)) := by
  refine run_convert_bytes_back (P := Tryz.prog) _ 55 9 5 ⟨w.heap.size, 0, none⟩ 1 [UInt8.ofNat (48 + d)] Tryz.underlying55 Tryz.underlying5 Tryz.underlying9 (fun j hj => ?_)
  obtain rfl : j = 0 := by simpa using hj
  simp only [List.getElem_cons_zero, digit_nat d hd]
  rw [show (⟨w.heap.size, 0, none⟩ : Addr).add 0 = ⟨w.heap.size, 0, none⟩ from rfl, World.cell?_alloc_mark]
  simp
theorem digit2 (w : World) (c d : Nat) (hc : c < 10) (hd : d < 10) :
    (convert 55 9 (.slice (some ⟨w.heap.size, 0, none⟩) 2 2)).run Tryz.prog (w.alloc (.cells #[.int .u8 (48 + (c : Int)), .int .u8 (48 + (d : Int))] 5)) = .ok (.string ⟨#[UInt8.ofNat (48 + c), UInt8.ofNat (48 + d)]⟩) (w.alloc (.cells #[.int .u8 (48 + (c : Int)), .int .u8 (48 + (d : Int))] 5)) := by
  refine run_convert_bytes_back (P := Tryz.prog) _ 55 9 5 ⟨w.heap.size, 0, none⟩ 2 [UInt8.ofNat (48 + c), UInt8.ofNat (48 + d)] Tryz.underlying55 Tryz.underlying5 Tryz.underlying9 (fun j hj => ?_)
  match j, hj with
  | 0, _ =>
    simp only [List.getElem_cons_zero, digit_nat c hc]
    rw [show (⟨w.heap.size, 0, none⟩ : Addr).add 0 = ⟨w.heap.size, 0, none⟩ from rfl, World.cell?_alloc_mark]
    simp
  | 1, _ =>
    simp only [List.getElem_cons_succ, List.getElem_cons_zero, digit_nat d hd]
    rw [addr_plus, World.cell?_alloc_mark]
    simp
theorem str_app (x y : List UInt8) : (⟨x.toArray⟩ ++ ⟨y.toArray⟩ : ByteArray) = ⟨(x ++ y).toArray⟩ :=
  WideShapes.bytes_inj (by rw [Joins.data_append])
/-- What is written when k of them are. -/
def jn (l : List Nat) : List UInt8 := Lib.join (l.map Lib.decDigits) [43]
theorem jn_nil : jn [] = [] := rfl
theorem jn_snoc (l : List Nat) (x : Nat) : jn (l ++ [x]) = if l = [] then Lib.decDigits x else jn l ++ [43] ++ Lib.decDigits x := by
  unfold jn
  rw [List.map_append, List.map_singleton, join_snoc_lb]
  by_cases h : l = []
  · rw [if_pos h, if_pos (by rw [h]; rfl)]
  · rw [if_neg h, if_neg (by simpa using h)]

end Go.Proofs.YtfkkodcppaakjaaGreatDoor
