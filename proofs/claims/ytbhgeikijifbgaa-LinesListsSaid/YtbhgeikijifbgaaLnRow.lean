/- Lines, rows of lines, and whether two are the same: by their contracts. -/
import Derived.Test.YtbhgeikijifbgaaBase
import Derived.Deep.Slices
import Derived.Deep.Fields
import Derived.Deep.RegionHeld3
import Derived.BigQuiet
import Derived.ChangeSame
import Derived.StillTactics
import Derived.OwnWalk
import Derived.OpenShut
import Derived.Deep.LoopGhost
namespace Go.Proofs.Ytbhgeikijifbgaa
open Go.RowKit

/-- A line. -/
structure Ln where
  u : Int
  n : Int
  r : Int
  s : ByteArray
def Ln.agg (x : Ln) : Value := .agg #[.int .u64 x.u, .int .i64 x.n, .int .i64 x.r, .string x.s]
def Ln.vals (x : Ln) : List Value := [.int .u64 x.u, .int .i64 x.n, .int .i64 x.r, .string x.s]
def oneB (x y : Ln) : Bool := x.u == y.u && x.n == y.n && x.r == y.r && x.s.toList == y.s.toList
def sameB : List Ln → List Ln → Bool
  | [], [] => true
  | x :: xs, y :: ys => oneB x y && sameB xs ys
  | _, _ => false
theorem oneB_refl (x : Ln) : oneB x x = true := by simp [oneB]
theorem sameB_refl : ∀ xs : List Ln, sameB xs xs = true
  | [] => rfl
  | x :: xs => by rw [sameB, oneB_refl, sameB_refl xs]; rfl
theorem sameB_len : ∀ (xs ys : List Ln), xs.length ≠ ys.length → sameB xs ys = false
  | [], [], h => absurd rfl h
  | [], _ :: _, _ => rfl
  | _ :: _, [], _ => rfl
  | x :: xs, y :: ys, h => by rw [sameB, sameB_len xs ys (fun e => h (by simp [e])), Bool.and_false]
theorem sameB_hit : ∀ (xs ys : List Ln) (k : Nat) (h : k < xs.length) (h' : k < ys.length), oneB xs[k] ys[k] = false → sameB xs ys = false
  | x :: xs, y :: ys, 0, _, _, e => by rw [sameB]; simp only [List.getElem_cons_zero] at e; rw [e]; rfl
  | x :: xs, y :: ys, k + 1, h, h', e => by
    rw [sameB, sameB_hit xs ys k (Nat.lt_of_succ_lt_succ h) (Nat.lt_of_succ_lt_succ h') e, Bool.and_false]
theorem sameB_all : ∀ (xs ys : List Ln), xs.length = ys.length → (∀ (k : Nat) (h : k < xs.length) (h' : k < ys.length), oneB xs[k] ys[k] = true) → sameB xs ys = true
  | [], [], _, _ => rfl
  | [], _ :: _, h, _ => by simp at h
  | _ :: _, [], h, _ => by simp at h
  | x :: xs, y :: ys, h, e => by
    have h0 := e 0 (by simp) (by simp)
    simp only [List.getElem_cons_zero] at h0
    rw [sameB, h0, sameB_all xs ys (by simpa using h) (fun k hk hk' => e (k + 1) (Nat.succ_lt_succ hk) (Nat.succ_lt_succ hk'))]; rfl

/-- The slice at p holds these lines. -/
def LnAt (w : World) (b o : Nat) (x : Ln) : Prop := w.cell? ⟨b, o, none⟩ = some (.int .u64 x.u) ∧ w.cell? ⟨b, o + 1, none⟩ = some (.int .i64 x.n) ∧ w.cell? ⟨b, o + 2, none⟩ = some (.int .i64 x.r) ∧ w.cell? ⟨b, o + 3, none⟩ = some (.string x.s)
def LnRow (w : World) (p : Option Addr) (xs : List Ln) : Prop := ∀ i (h : i < xs.length), ∃ b off, p = some ⟨b, off, none⟩ ∧ b < w.heap.size ∧ LnAt w b (off + i * 4) xs[i]
theorem LnAt.below {w W : World} {b o : Nat} {x : Ln} {B : Nat} (h : LnAt w b o x) (hb : Below B w W) (hlt : b < B) : LnAt W b o x :=
  ⟨(hb.cell (p := ⟨b, o, none⟩) hlt).trans h.1, (hb.cell (p := ⟨b, o + 1, none⟩) hlt).trans h.2.1, (hb.cell (p := ⟨b, o + 2, none⟩) hlt).trans h.2.2.1, (hb.cell (p := ⟨b, o + 3, none⟩) hlt).trans h.2.2.2⟩
theorem LnRow.at {w : World} {p : Option Addr} {xs : List Ln} (h : LnRow w p xs) (i : Nat) (hi : i < xs.length) : ∃ b off, p = some ⟨b, off, none⟩ ∧ b < w.heap.size ∧ ∀ W, Below w.heap.size w W → LnAt W b (off + i * 4) xs[i] := by
  obtain ⟨b, off, e, hlt, hc⟩ := h i hi
  exact ⟨b, off, e, hlt, fun W hb => hc.below hb hlt⟩
theorem LnRow.later {w W : World} {p : Option Addr} {xs : List Ln} (h : LnRow w p xs) (hb : Below w.heap.size w W) : LnRow W p xs := fun i hi => by
  obtain ⟨b, off, e, hlt, hc⟩ := h i hi
  exact ⟨b, off, e, Nat.lt_of_lt_of_le hlt hb.size, hc.below hb hlt⟩

set_option maxHeartbeats 1000000 in
theorem one_any (x y : Ln) (w : World) : Calls Try.prog 21 #[x.agg, y.agg] w fun e w' => e = .returned (.bool (oneB x y)) ∧ Below w.heap.size w w' := by
  obtain ⟨u, n, r, s⟩ := x
  obtain ⟨u', n', r', s'⟩ := y
  unfold Ln.agg
  by_cases h1 : u = u'
  · subst h1
    by_cases h2 : n = n'
    · subst h2
      by_cases h3 : r = r'
      · subst h3
        have e : oneB ⟨u, n, r, s⟩ ⟨u, n, r, s'⟩ = (s.toList == s'.toList) := by simp [oneB]
        rw [e]; clear e
        go_enter Try.func21, Try.ntmps21
        go_wp2
        go_ret
        exact ⟨rfl, ((Below.refl _ _).alloc (Nat.le_refl _) _).alloc (by simp) _⟩
      · have e : oneB ⟨u, n, r, s⟩ ⟨u, n, r', s'⟩ = false := by simp [oneB, h3]
        have hb : (r == r') = false := beq_false_of_ne h3
        rw [e]; clear e h3
        go_enter Try.func21, Try.ntmps21
        go_wp2
        go_ret
        exact ⟨rfl, ((Below.refl _ _).alloc (Nat.le_refl _) _).alloc (by simp) _⟩
    · have e : oneB ⟨u, n, r, s⟩ ⟨u, n', r', s'⟩ = false := by simp [oneB, h2]
      have hb : (n == n') = false := beq_false_of_ne h2
      rw [e]; clear e h2
      go_enter Try.func21, Try.ntmps21
      go_wp2
      go_ret
      exact ⟨rfl, ((Below.refl _ _).alloc (Nat.le_refl _) _).alloc (by simp) _⟩
  · have e : oneB ⟨u, n, r, s⟩ ⟨u', n', r', s'⟩ = false := by simp [oneB, h1]
    have hb : (u == u') = false := beq_false_of_ne h1
    rw [e]; clear e h1
    go_enter Try.func21, Try.ntmps21
    go_wp2
    go_ret
    exact ⟨rfl, ((Below.refl _ _).alloc (Nat.le_refl _) _).alloc (by simp) _⟩

set_option maxHeartbeats 1000000 in
theorem sameOne_any (x y : Ln) (w : World) : Calls Try.prog 20 #[x.agg, y.agg] w fun e w' => e = .returned (.bool (oneB x y)) ∧ Below w.heap.size w w' := by
  obtain ⟨u, n, r, s⟩ := x
  obtain ⟨u', n', r', s'⟩ := y
  unfold Ln.agg
  by_cases h1 : u = u'
  · subst h1
    by_cases h2 : n = n'
    · subst h2
      by_cases h3 : r = r'
      · subst h3
        have e : oneB ⟨u, n, r, s⟩ ⟨u, n, r, s'⟩ = (s.toList == s'.toList) := by simp [oneB]
        rw [e]; clear e
        go_enter Try.func20, Try.ntmps20
        go_wp2
        go_ret
        exact ⟨rfl, ((Below.refl _ _).alloc (Nat.le_refl _) _).alloc (by simp) _⟩
      · have e : oneB ⟨u, n, r, s⟩ ⟨u, n, r', s'⟩ = false := by simp [oneB, h3]
        have hb : (r == r') = false := beq_false_of_ne h3
        rw [e]; clear e h3
        go_enter Try.func20, Try.ntmps20
        go_wp2
        go_ret
        exact ⟨rfl, ((Below.refl _ _).alloc (Nat.le_refl _) _).alloc (by simp) _⟩
    · have e : oneB ⟨u, n, r, s⟩ ⟨u, n', r', s'⟩ = false := by simp [oneB, h2]
      have hb : (n == n') = false := beq_false_of_ne h2
      rw [e]; clear e h2
      go_enter Try.func20, Try.ntmps20
      go_wp2
      go_ret
      exact ⟨rfl, ((Below.refl _ _).alloc (Nat.le_refl _) _).alloc (by simp) _⟩
  · have e : oneB ⟨u, n, r, s⟩ ⟨u', n', r', s'⟩ = false := by simp [oneB, h1]
    have hb : (u == u') = false := beq_false_of_ne h1
    rw [e]; clear e h1
    go_enter Try.func20, Try.ntmps20
    go_wp2
    go_ret
    exact ⟨rfl, ((Below.refl _ _).alloc (Nat.le_refl _) _).alloc (by simp) _⟩
end Go.Proofs.Ytbhgeikijifbgaa
