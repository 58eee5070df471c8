/- Patches as lists of hunks with whatever place: which may be, which fit, what comes of them, what undoes them. Plain. -/
import Derived.Test.YtjmnbnlhahbcjaaHuSeg
import Derived.Test.YtjmnbnlhahbcjaaPlain
namespace Go.Proofs.Ytjmnbnlhahbcjaa
open Go Go.RowKit

structure Hu where
  pos : Int
  old : List Tx
  new : List Tx
def fineT (t : Tx) : Bool := textL t.data.toList
/-- The least place behind a hunk. -/
def lst (h : Hu) : Int := h.pos + (h.old.length : Int) + 1
def stp (l : Int) (h : Hu) : Bool := decide (l ≤ h.pos) && decide (h.pos ≤ 2147483647) && decide (0 < h.old.length + h.new.length) && h.old.all fineT && h.new.all fineT
/-- How many hunks, from the first one on, may be. -/
def may : Int → List Hu → Nat
  | _, [] => 0
  | l, h :: hs => if stp l h = true then may (lst h) hs + 1 else 0
def Good : Int → List Hu → Prop
  | _, [] => True
  | l, h :: hs => stp l h = true ∧ Good (lst h) hs
theorem may_le : ∀ (l : Int) (hs : List Hu), may l hs ≤ hs.length
  | _, [] => Nat.le_refl _
  | l, h :: hs => by
    unfold may
    have := may_le (lst h) hs
    split <;> simp <;> omega
theorem good_may : ∀ (l : Int) (hs : List Hu), may l hs = hs.length ↔ Good l hs
  | _, [] => by simp [may, Good]
  | l, h :: hs => by
    have ih := good_may (lst h) hs
    unfold may Good
    split
    · rename_i e
      simp [e, ← ih]
    · rename_i e
      simp [e]
theorem stp_iff (l : Int) (h : Hu) : stp l h = true ↔ l ≤ h.pos ∧ h.pos ≤ 2147483647 ∧ 0 < h.old.length + h.new.length ∧ h.old.all fineT = true ∧ h.new.all fineT = true := by
  unfold stp
  simp only [Bool.and_eq_true, decide_eq_true_eq]
  constructor
  · rintro ⟨⟨⟨⟨a, b⟩, c⟩, d⟩, e⟩; exact ⟨a, b, c, d, e⟩
  · rintro ⟨a, b, c, d, e⟩; exact ⟨⟨⟨⟨a, b⟩, c⟩, d⟩, e⟩
/-- What Check answers: a place and an error's number. -/
def chkX (hs : List Hu) : Nat × Int := if may 0 hs < hs.length then (may 0 hs, 80) else (0, 0)
theorem chkX_bad {hs : List Hu} (h : may 0 hs < hs.length) : chkX hs = (may 0 hs, 80) := by unfold chkX; rw [if_pos h]
theorem chkX_ok {hs : List Hu} (h : may 0 hs = hs.length) : chkX hs = (0, 0) := by unfold chkX; rw [if_neg (by omega)]
theorem may_yes {l : Int} {h : Hu} {hs : List Hu} (e : stp l h = true) : may l (h :: hs) = may (lst h) hs + 1 := by simp [may, e]
theorem may_no {l : Int} {h : Hu} {hs : List Hu} (e : stp l h = false) : may l (h :: hs) = 0 := by simp [may, e]
theorem may_step {hs : List Hu} {k : Nat} {l : Int} (hk : k < hs.length) (e : may 0 hs = k + may l (hs.drop k)) (hs1 : stp l hs[k] = true) : may 0 hs = (k + 1) + may (lst hs[k]) (hs.drop (k + 1)) := by
  rw [List.drop_eq_getElem_cons hk, may_yes hs1] at e; omega
theorem may_stop {hs : List Hu} {k : Nat} {l : Int} (hk : k < hs.length) (e : may 0 hs = k + may l (hs.drop k)) (hs1 : stp l hs[k] = false) : may 0 hs = k := by
  rw [List.drop_eq_getElem_cons hk, may_no hs1] at e; omega
theorem may_all {hs : List Hu} {k : Nat} {l : Int} (hk : k = hs.length) (e : may 0 hs = k + may l (hs.drop k)) : may 0 hs = hs.length := by
  subst hk
  rw [List.drop_length] at e; simpa [may] using e
/-- Does a hunk fit? -/
def fit1 (a : List Tx) (h : Hu) : Int := if (a.length : Int) < h.pos + (h.old.length : Int) then 81 else if seg a h.pos.toNat (h.pos.toNat + h.old.length) = h.old then 0 else 82
def fitG (a : List Tx) : Nat → List Hu → Nat × Int
  | _, [] => (0, 0)
  | i, h :: hs => if fit1 a h = 0 then fitG a (i + 1) hs else (i, fit1 a h)
def fitX (a : List Tx) (hs : List Hu) : Nat × Int := if may 0 hs < hs.length then (may 0 hs, 80) else fitG a 0 hs
theorem fitX_bad {a : List Tx} {hs : List Hu} (h : may 0 hs < hs.length) : fitX a hs = (may 0 hs, 80) := by unfold fitX; rw [if_pos h]
theorem fitX_ok {a : List Tx} {hs : List Hu} (h : ¬ may 0 hs < hs.length) : fitX a hs = fitG a 0 hs := by unfold fitX; rw [if_neg h]
theorem fitG_step {a : List Tx} {hs : List Hu} {k : Nat} {x : Nat × Int} (hk : k < hs.length) (e : fitG a k (hs.drop k) = x) (h : fit1 a hs[k] = 0) : fitG a (k + 1) (hs.drop (k + 1)) = x := by
  rw [List.drop_eq_getElem_cons hk] at e
  simpa [fitG, h] using e
theorem fitG_stop {a : List Tx} {hs : List Hu} {k : Nat} {x : Nat × Int} (hk : k < hs.length) (e : fitG a k (hs.drop k) = x) (h : fit1 a hs[k] ≠ 0) : x = (k, fit1 a hs[k]) := by
  rw [List.drop_eq_getElem_cons hk] at e
  simpa [fitG, h] using e.symm
theorem Good.at : ∀ {l : Int} {hs : List Hu}, Good l hs → 0 ≤ l → ∀ (k : Nat) (hk : k < hs.length), 0 ≤ hs[k].pos ∧ hs[k].pos ≤ 2147483647 ∧ 0 < hs[k].old.length + hs[k].new.length
  | l, h :: hs, g, h0, 0, _ => by
    obtain ⟨s, _⟩ := g
    obtain ⟨s1, s2, s3, _⟩ := (stp_iff l h).1 s
    exact ⟨by simp; omega, s2, s3⟩
  | l, h :: hs, g, h0, k + 1, hk => by
    obtain ⟨s, g⟩ := g
    obtain ⟨s1, s2, s3, _⟩ := (stp_iff l h).1 s
    exact g.at (by unfold lst; omega) k (by simpa using hk)
/-- A patch applied from a place on. -/
def ap (a : List Tx) : Nat → List Hu → List Tx
  | k, [] => a.drop k
  | k, h :: hs => seg a k h.pos.toNat ++ (h.new ++ ap a (h.pos.toNat + h.old.length) hs)
/-- What undoes hunks, from a difference on. -/
def inv : Int → List Hu → List Hu
  | _, [] => []
  | m, h :: hs => ⟨wrap64 (h.pos + m), h.new, h.old⟩ :: inv (wrap64 (m + ((h.new.length : Int) - (h.old.length : Int)))) hs
theorem inv_len : ∀ (m : Int) (hs : List Hu), (inv m hs).length = hs.length
  | _, [] => rfl
  | m, h :: hs => by simp [inv, inv_len _ hs]
/-- Lists of bounded length, of texts that a string can hold. -/
def HuB (hs : List Hu) : Prop := ∀ h ∈ hs, h.old.length ≤ 8796093021952 ∧ h.new.length ≤ 8796093021952 ∧ (∀ t ∈ h.old, t.size ≤ 140737488355328) ∧ ∀ t ∈ h.new, t.size ≤ 140737488355328
theorem HuB.at {hs : List Hu} (h : HuB hs) (k : Nat) (hk : k < hs.length) : hs[k].old.length ≤ 8796093021952 ∧ hs[k].new.length ≤ 8796093021952 ∧ (∀ t ∈ hs[k].old, t.size ≤ 140737488355328) ∧ ∀ t ∈ hs[k].new, t.size ≤ 140737488355328 := h _ (List.getElem_mem hk)
end Go.Proofs.Ytjmnbnlhahbcjaa
