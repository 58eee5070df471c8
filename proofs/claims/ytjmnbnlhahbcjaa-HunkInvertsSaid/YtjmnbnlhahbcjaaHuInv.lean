/- hunk.Invert: by its contract. -/
import Derived.Test.YtjmnbnlhahbcjaaHuCheck
import Derived.Test.YtjmnbnlhahbcjaaHuTwin
import Derived.Laws.MakeOwn
namespace Go.Proofs.Ytjmnbnlhahbcjaa
open Go Go.RowKit

def zero3 : Nat → List Value
  | 0 => []
  | n + 1 => .int .i64 0 :: .slice none 0 0 :: .slice none 0 0 :: zero3 n
theorem zero3_len : ∀ n, (zero3 n).length = n * 3
  | 0 => rfl
  | n + 1 => by simp only [zero3, List.length_cons, zero3_len n]; omega
/-- The first hunks of a row that was made. -/
structure PartOwn (B : Nat) (W : World) (v : Value) (n : Nat) (hs : List Hu) (us : List (Value × Value)) : Prop where
  len : hs.length = us.length
  le : hs.length ≤ n
  row : W.ownsRow B 47 3 v n (huCells hs us ++ zero3 (n - hs.length))
  subs : ∀ i (h : i < hs.length) (h' : i < us.length), W.ownsRow B 9 1 us[i].1 hs[i].old.length (hs[i].old.map Value.string) ∧ W.ownsRow B 9 1 us[i].2 hs[i].new.length (hs[i].new.map Value.string)
  dis : (flatV us).Pairwise Apart
  top : ∀ x ∈ flatV us, Apart x v
theorem PartOwn.whole {B : Nat} {W : World} {v : Value} {n : Nat} {hs : List Hu} {us : List (Value × Value)} (h : PartOwn B W v n hs us) (hn : hs.length = n) : HuOwn B W v hs us := by
  have hr := h.row
  rw [hn, Nat.sub_self, zero3, List.append_nil] at hr
  exact ⟨h.len, by rw [hn]; exact hr, h.subs, h.dis, h.top⟩
theorem PartOwn.later {B : Nat} {w W : World} {v : Value} {n : Nat} {hs : List Hu} {us : List (Value × Value)} (h : PartOwn B w v n hs us) (hb : Below w.heap.size w W) : PartOwn B W v n hs us :=
  ⟨h.len, h.le, row_later h.row hb, fun i hi hi' => ⟨row_later (h.subs i hi hi').1 hb, row_later (h.subs i hi hi').2 hb⟩, h.dis, h.top⟩
theorem PartOwn.lt {B : Nat} {W : World} {v : Value} {n : Nat} {hs : List Hu} {us : List (Value × Value)} (h : PartOwn B W v n hs us) : ∀ x ∈ v :: flatV us, ∀ k, x.ownBlock = some k → B ≤ k ∧ k < W.heap.size := fun x hx k hk => by
  rcases List.mem_cons.1 hx with rfl | hx
  · exact h.row.lt k hk
  · obtain ⟨u, hu, e⟩ := flatV_mem.1 hx
    obtain ⟨i, hi, rfl⟩ := List.mem_iff_getElem.1 hu
    have := h.subs i (by rw [h.len]; exact hi) hi
    rcases e with rfl | rfl
    · exact this.1.lt k hk
    · exact this.2.lt k hk
theorem set3 (xs : List Value) (n : Nat) (a b c : Value) (k : Nat) (hk : xs.length = k * 3) : (((xs ++ zero3 (n + 1)).set (k * 3) a).set (k * 3 + 1) b).set (k * 3 + 2) c = xs ++ [a, b, c] ++ zero3 n := by
  rw [← hk]
  have e : ∀ (l r : List Value) (i : Nat) (v : Value), (l ++ r).set (l.length + i) v = l ++ r.set i v := fun l r i v => by
    rw [List.set_append_right _ _ (by omega)]
    congr 1
    congr 1
    omega
  have e0 : (xs ++ zero3 (n + 1)).set xs.length a = xs ++ (zero3 (n + 1)).set 0 a := e xs _ 0 a
  rw [e0, e, e]
  simp [zero3]
/-- One hunk more, stored at its place. -/
theorem PartOwn.put {B : Nat} {W : World} {g c n : Nat} {v1 v2 : Value} {hs : List Hu} {us : List (Value × Value)} {k : Int} {lo : Nat} {t1 t2 : List Tx} (h : PartOwn B W (.slice (some ⟨g, 0, none⟩) n c) n hs us) (hlt : hs.length < n) (hlo : ∀ x ∈ (Value.slice (some ⟨g, 0, none⟩) n c) :: flatV us, ∀ b, x.ownBlock = some b → b < lo)
    (r1 : W.ownsRow B 9 1 v1 t1.length (t1.map Value.string)) (r2 : W.ownsRow B 9 1 v2 t2.length (t2.map Value.string)) (n1 : ∀ b, v1.ownBlock = some b → lo ≤ b) (n2 : ∀ b, v2.ownBlock = some b → lo ≤ b ∧ v1.ownBlock ≠ some b) :
    PartOwn B (((W.setCell ⟨g, hs.length * 3, none⟩ (.int .i64 k)).setCell ⟨g, hs.length * 3 + 1, none⟩ v1).setCell ⟨g, hs.length * 3 + 2, none⟩ v2) (.slice (some ⟨g, 0, none⟩) n c) n (hs ++ [⟨k, t1, t2⟩]) (us ++ [(v1, v2)]) ∧
    W.grownBy (((W.setCell ⟨g, hs.length * 3, none⟩ (.int .i64 k)).setCell ⟨g, hs.length * 3 + 1, none⟩ v1).setCell ⟨g, hs.length * 3 + 2, none⟩ v2) (some g) := by
  obtain ⟨a1, b1⟩ := h.row.stored (hs.length * 3) (.int .i64 k)
  obtain ⟨a2, b2⟩ := a1.stored (hs.length * 3 + 1) v1
  obtain ⟨a3, b3⟩ := a2.stored (hs.length * 3 + 2) v2
  have hgr : W.grownBy (((W.setCell ⟨g, hs.length * 3, none⟩ (.int .i64 k)).setCell ⟨g, hs.length * 3 + 1, none⟩ v1).setCell ⟨g, hs.length * 3 + 2, none⟩ v2) (some g) :=
    ⟨rfl, rfl, rfl, by simp, fun q hq hne => by rw [heap_setCell_other _ _ _ _ (fun e => hne (by simp [e])), heap_setCell_other _ _ _ _ (fun e => hne (by simp [e])), heap_setCell_other _ _ _ _ (fun e => hne (by simp [e]))]⟩
  have hcl := huCells_len hs us h.len
  rw [show n - hs.length = (n - (hs.length + 1)) + 1 by omega, set3 _ _ _ _ _ _ hcl] at a3
  have keep : ∀ {x : Value} {m : Nat} {cs : List Value}, W.ownsRow B 9 1 x m cs → Apart x (.slice (some ⟨g, 0, none⟩) n c) → (((W.setCell ⟨g, hs.length * 3, none⟩ (.int .i64 k)).setCell ⟨g, hs.length * 3 + 1, none⟩ v1).setCell ⟨g, hs.length * 3 + 2, none⟩ v2).ownsRow B 9 1 x m cs := fun {x m cs} hr ha => by
    refine hr.kept hgr ?_
    cases hx : x.ownBlock with
    | none => exact .inl rfl
    | some b => exact .inr fun e => ha b hx e.symm
  have hvlt : g < lo := hlo _ (.head _) g rfl
  have hult : ∀ x ∈ flatV us, ∀ b, x.ownBlock = some b → b < lo := fun x hx b hb => hlo x (.tail _ hx) b hb
  have q1 : Apart v1 (.slice (some ⟨g, 0, none⟩) n c) := fun b hb e => by
    have := n1 b hb
    have e2 : g = b := by simpa [Value.ownBlock] using e
    omega
  have q2 : Apart v2 (.slice (some ⟨g, 0, none⟩) n c) := fun b hb e => by
    have := (n2 b hb).1
    have e2 : g = b := by simpa [Value.ownBlock] using e
    omega
  refine ⟨⟨by simp [h.len], by simp; omega, ?_, fun i hi hi' => ?_, ?_, fun x hx => ?_⟩, hgr⟩
  · rw [huCells_snoc _ _ _ _ h.len, List.length_append]
    exact a3
  · by_cases e : i < hs.length
    · have e' : i < us.length := by rw [← h.len]; exact e
      obtain ⟨s1, s2⟩ := h.subs i e e'
      have m1 : us[i].1 ∈ flatV us := flatV_mem.2 ⟨_, List.getElem_mem e', .inl rfl⟩
      have m2 : us[i].2 ∈ flatV us := flatV_mem.2 ⟨_, List.getElem_mem e', .inr rfl⟩
      simp only [List.getElem_append_left e, List.getElem_append_left e']
      exact ⟨keep s1 (h.top _ m1), keep s2 (h.top _ m2)⟩
    · have e1 : i = hs.length := by simp at hi; omega
      subst e1
      have hL := h.len
      simp only [List.getElem_append_right (Nat.le_refl hs.length), List.getElem_append_right (show us.length ≤ hs.length by omega)]
      simp only [hL, Nat.sub_self, List.getElem_cons_zero]
      rw [← hL]
      exact ⟨keep r1 q1, keep r2 q2⟩
  · rw [flatV_snoc, List.pairwise_append]
    refine ⟨h.dis, ?_, fun x hx y hy => ?_⟩
    · refine List.Pairwise.cons (fun y hy => ?_) (List.pairwise_singleton _ _)
      rw [List.mem_singleton] at hy
      subst hy
      exact fun b hb e => (n2 b e).2 hb
    · intro b hb e
      have h1 := hult x hx b hb
      simp only [List.mem_cons, List.not_mem_nil, or_false] at hy
      rcases hy with rfl | rfl
      · have := n1 b e; omega
      · have := (n2 b e).1; omega
  · rw [flatV_snoc, List.mem_append] at hx
    rcases hx with hx | hx
    · exact h.top x hx
    · simp only [List.mem_cons, List.not_mem_nil, or_false] at hx
      rcases hx with rfl | rfl
      · exact q1
      · exact q2
theorem copiedH_any (w : World) (p : Option Addr) (n c : Nat) (xs : List Tx) (hn : xs.length = n) (hnm : n ≤ 8796093022208) (hr : TxP w p c xs) :
    Calls Try.prog 69 #[.slice p n c] w fun e w' => Below w.heap.size w w' ∧ ∃ v, e = .returned v ∧ w'.ownsRow w.heap.size 9 1 v n (xs.map Value.string) := by
  obtain ⟨i0, hi, hz0, hz1, hz2⟩ := info_parts strInfo
  have hnil : p = none → n = 0 ∧ c = 0 := by rw [← hn]; exact hr.2.1
  go_enter Try.func69, Try.ntmps69
  go_wp2_with (at_builtin; refine app_tx rfl _ _ 33 rfl w.heap.size 9 i0 (.string ⟨#[]⟩) Try.underlying33 hi hz0 hz1 hz2 rfl _ 0 [] rfl (World.ownsRow_nil _ _ _ _) p n c xs rfl hn hr.1 hnil (by omega) (Nat.le_refl _) ?_)
  intro v' w' ho' hgr _
  have hb : Below w.heap.size w w' := (Below.refl _ _).grown hgr (Nat.le_refl _) (fun g hg => by cases hg)
  clear hgr
  go_wp2_with fail
  go_ret
  exact ⟨hb, _, rfl, ho'⟩
/-- What Invert answers: an error's number, and the hunks. -/
def invX (hs : List Hu) : Int × List Hu := if may 0 hs < hs.length then (80, []) else if may 0 (inv 0 hs) < (inv 0 hs).length then (80, []) else (0, inv 0 hs)
/-- Hunks handed out, or an error. -/
def GivesI (w : World) (x : Int × List Hu) (e : Ending) (w' : World) : Prop := Below w.heap.size w w' ∧ ∃ v us, e = .returned (.tuple #[v, .int .i64 x.1]) ∧ HuOwn w.heap.size w' v x.2 us
theorem GivesI.none {w w' : World} {e : Int} (hb : Below w.heap.size w w') : GivesI w (e, []) (.returned (.tuple #[.slice none 0 0, .int .i64 e])) w' := ⟨hb, _, [], rfl, HuOwn.nil _ _⟩
/-- What the hunks ahead add. -/
def moreX : Int → List Hu → Int
  | m, [] => m
  | m, h :: hs => moreX (wrap64 (m + ((h.new.length : Int) - (h.old.length : Int)))) hs
theorem inv_snoc : ∀ (m : Int) (hs : List Hu) (h : Hu), inv m (hs ++ [h]) = inv m hs ++ [⟨wrap64 (h.pos + moreX m hs), h.new, h.old⟩]
  | _, [], _ => rfl
  | m, x :: hs, h => by simp only [List.cons_append, inv, inv_snoc _ hs h, moreX]
theorem moreX_snoc : ∀ (m : Int) (hs : List Hu) (h : Hu), moreX m (hs ++ [h]) = wrap64 (moreX m hs + ((h.new.length : Int) - (h.old.length : Int)))
  | _, [], _ => rfl
  | m, x :: hs, h => by simp only [List.cons_append, moreX, moreX_snoc _ hs h]
theorem inv_b : ∀ (m : Int) (hs : List Hu), HuB hs → HuB (inv m hs)
  | _, [], _ => fun x hx => by cases hx
  | m, h :: hs, hB => fun x hx => by
    unfold inv at hx
    rcases List.mem_cons.1 hx with rfl | hx
    · have := hB h (.head _)
      exact ⟨this.2.1, this.1, this.2.2.2, this.2.2.1⟩
    · exact inv_b _ hs (fun y hy => hB y (.tail _ hy)) x hx
end Go.Proofs.Ytjmnbnlhahbcjaa
