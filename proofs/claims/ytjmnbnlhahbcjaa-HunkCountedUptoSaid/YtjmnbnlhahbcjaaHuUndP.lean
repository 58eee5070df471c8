/- What a patch did, its inverse undoes: plain. -/
import Derived.Test.YtjmnbnlhahbcjaaHuApP
import Derived.Test.YtjmnbnlhahbcjaaHuInv
namespace Go.Proofs.Ytjmnbnlhahbcjaa
open Go Go.RowKit

theorem seg_mid (p s r : List Tx) (x y : Nat) (hx : p.length = x) (hy : x + s.length = y) : seg (p ++ (s ++ r)) x y = s := by
  subst hx hy
  unfold seg
  rw [← List.append_assoc, List.take_append_of_le_length (by rw [List.length_append]; omega), List.take_of_length_le (by rw [List.length_append]; omega), List.drop_left]
theorem w64 {x : Int} (h : -9223372036854775808 ≤ x) (h' : x ≤ 9223372036854775807) : wrap64 x = x := Go.IntWalk.wrap64_in _ ⟨h, by omega⟩
theorem undo_fit (a b : List Tx) (ha : a.length ≤ 1048576) (hb : b.length ≤ 2097152) : ∀ (hs : List Hu) (k : Nat) (l m : Int) (pre : List Tx), Good l hs → FitS a k hs → k ≤ a.length → b = pre ++ ap a k hs → (pre.length : Int) = (k : Int) + m → (∀ h ∈ hs, h.old.length ≤ 8796093021952 ∧ h.new.length ≤ 8796093021952) →
    Good (l + m) (inv m hs) ∧ (∀ h ∈ inv m hs, fit1 b h = 0) ∧ ap b pre.length (inv m hs) = a.drop k ∧ inv (-m) (inv m hs) = hs
  | [], k, l, m, pre, _, _, _, hbe, _, _ => by
    refine ⟨trivial, fun h hh => (by simp [inv] at hh), ?_, rfl⟩
    show b.drop pre.length = _
    rw [hbe, List.drop_left]
    rfl
  | h :: hs, k, l, m, pre, g, f, hk, hbe, hp, hB => by
    obtain ⟨s, g⟩ := g
    obtain ⟨s1, s2, s3, s4, s5⟩ := (stp_iff l h).1 s
    obtain ⟨f1, f2, f3, f4, f5⟩ := f
    obtain ⟨z1, z2⟩ := hB h (.head _)
    obtain ⟨ps, old, nw⟩ := h
    dsimp only at *
    obtain ⟨P, rfl⟩ : ∃ P : Nat, ps = (P : Int) := ⟨ps.toNat, by omega⟩
    rw [Int.toNat_natCast] at f2 f3 f4 f5
    have hbe1 : b = pre ++ (seg a k P ++ (nw ++ ap a (P + old.length) hs)) := by
      rw [hbe]
      simp only [ap, Int.toNat_natCast]
    have hsl : (seg a k P).length = P - k := seg_len a k P (by omega)
    have hbl := congrArg List.length hbe1
    simp only [List.length_append] at hbl
    have hw1 : wrap64 ((P : Int) + m) = (P : Int) + m := w64 (by omega) (by omega)
    have hw2 : wrap64 (m + ((nw.length : Int) - (old.length : Int))) = m + ((nw.length : Int) - (old.length : Int)) := w64 (by omega) (by omega)
    obtain ⟨i1, i2, i3, i4⟩ := undo_fit a b ha hb hs (P + old.length) (lst ⟨(P : Int), old, nw⟩) (m + ((nw.length : Int) - (old.length : Int))) (pre ++ (seg a k P ++ nw)) g f5 f3
      (by rw [hbe1]; simp only [List.append_assoc]) (by simp only [List.length_append, hsl]; omega) (fun x hx => hB x (.tail _ hx))
    obtain ⟨Q, hQ⟩ : ∃ Q : Nat, (P : Int) + m = (Q : Int) := ⟨((P : Int) + m).toNat, by omega⟩
    have hQ2 : pre.length + (P - k) = Q := by omega
    have e1 : seg b pre.length Q = seg a k P := by rw [hbe1]; exact seg_mid _ _ _ _ _ rfl (by rw [hsl]; exact hQ2)
    have e2 : seg b Q (Q + nw.length) = nw := by
      rw [hbe1, ← List.append_assoc]
      exact seg_mid _ _ _ _ _ (by rw [List.length_append, hsl]; exact hQ2) rfl
    have hl2 : (pre ++ (seg a k P ++ nw)).length = Q + nw.length := by simp only [List.length_append, hsl]; omega
    rw [hl2] at i3
    unfold inv
    rw [hw1, hw2, hQ]
    refine ⟨⟨(stp_iff _ _).2 ⟨by dsimp only; omega, by dsimp only; omega, by dsimp only; omega, s5, s4⟩, ?_⟩, fun x hx => ?_, ?_, ?_⟩
    · have : lst ⟨(Q : Int), nw, old⟩ = lst ⟨(P : Int), old, nw⟩ + (m + ((nw.length : Int) - (old.length : Int))) := by unfold lst; dsimp only; omega
      rw [this]; exact i1
    · rcases List.mem_cons.1 hx with rfl | hx
      · unfold fit1
        dsimp only
        rw [if_neg (by omega), Int.toNat_natCast, if_pos e2]
      · exact i2 x hx
    · show seg b pre.length (Q : Int).toNat ++ (old ++ ap b ((Q : Int).toNat + nw.length) _) = _
      have e3 : old ++ a.drop (P + old.length) = a.drop P := by
        have := seg_drop a P (P + old.length) (by omega)
        rwa [f4] at this
      rw [Int.toNat_natCast, e1, i3, e3, seg_drop _ _ _ f2]
    · simp only [inv]
      rw [hw1, hw2, hQ, show wrap64 ((Q : Int) + -m) = (P : Int) by rw [w64 (by omega) (by omega)]; omega, show wrap64 (-m + ((old.length : Int) - (nw.length : Int))) = -(m + ((nw.length : Int) - (old.length : Int))) by rw [w64 (by omega) (by omega)]; omega, i4]
theorem undone {a : List Tx} {hs : List Hu} (ha : a.length + comesN hs ≤ 1048576) (hB : HuB hs) (hf : (fitX a hs).2 = 0) :
    invX hs = (0, inv 0 hs) ∧ fitX (ap a 0 hs) (inv 0 hs) = (0, 0) ∧ ap (ap a 0 hs) 0 (inv 0 hs) = a ∧ invX (inv 0 hs) = (0, hs) := by
  obtain ⟨_, g, _, f⟩ := fitX_zero hf
  have hl := ap_len 0 hs f (Nat.zero_le _)
  obtain ⟨i1, i2, i3, i4⟩ := undo_fit a (ap a 0 hs) (by omega) (by omega) hs 0 0 0 [] g f (Nat.zero_le _) rfl rfl (fun h hh => ⟨(hB h hh).1, (hB h hh).2.1⟩)
  have m1 : may 0 hs = hs.length := (good_may 0 hs).2 g
  have m2 : may 0 (inv 0 hs) = (inv 0 hs).length := (good_may 0 _).2 i1
  have i4' : inv 0 (inv 0 hs) = hs := i4
  refine ⟨?_, ?_, i3, ?_⟩
  · unfold invX
    rw [if_neg (by omega), if_neg (by omega)]
  · rw [fitX_ok (by omega)]
    have key : ∀ (i : Nat) (gs : List Hu), (∀ h ∈ gs, fit1 (ap a 0 hs) h = 0) → fitG (ap a 0 hs) i gs = (0, 0) := by
      intro i gs
      induction gs generalizing i with
      | nil => intro _; rfl
      | cons x gs ih =>
        intro h
        unfold fitG
        rw [if_pos (h x (.head _))]
        exact ih _ fun y hy => h y (.tail _ hy)
    exact key 0 _ i2
  · unfold invX
    rw [if_neg (by omega), i4', if_neg (by omega)]
theorem apX_nil (a : List Tx) : apX a [] = (0, a) := rfl
theorem inv_comes : ∀ (m : Int) (hs : List Hu), comesN (inv m hs) = goesN hs
  | _, [] => rfl
  | m, h :: hs => by
    have := inv_comes (wrap64 (m + ((h.new.length : Int) - (h.old.length : Int)))) hs
    simp only [comesN, goesN, inv, List.map_cons, List.sum_cons] at this ⊢
    rw [this]
end Go.Proofs.Ytjmnbnlhahbcjaa
