/- Patches applied: plain; copy onto a part of a row of the call's own. -/
import Derived.Test.YtjmnbnlhahbcjaaHuFits
import Derived.Test.YtjmnbnlhahbcjaaHuRefFt
import Derived.Test.YtjmnbnlhahbcjaaHuSizes
import Derived.Test.YtjmnbnlhahbcjaaHuTwin
import Derived.Laws.CopyOwn
import Derived.Laws.Tables
namespace Go.Proofs.Ytjmnbnlhahbcjaa
open Go Go.RowKit

theorem sumI_small (l : List Nat) (h : l.sum ≤ 4611686018427387904) : sumI l = (l.sum : Int) := by
  have key : ∀ (l : List Nat) (s : Nat), s + l.sum ≤ 4611686018427387904 → l.foldl (fun (s : Int) (n : Nat) => wrap64 (s + (n : Int))) (s : Int) = ((s + l.sum : Nat) : Int) := by
    intro l
    induction l with
    | nil => intro s _; simp
    | cons n l ih =>
      intro s hs
      rw [List.sum_cons] at hs ⊢
      rw [List.foldl_cons, Go.IntWalk.wrap64_in _ ⟨by omega, by omega⟩, ← Int.natCast_add, ih (s + n) (by omega)]
      omega
  have := key l 0 (by omega)
  simpa [sumI] using this
def goesN (hs : List Hu) : Nat := (hs.map (·.old.length)).sum
def comesN (hs : List Hu) : Nat := (hs.map (·.new.length)).sum
theorem goes_small {hs : List Hu} (h : goesN hs ≤ 4611686018427387904) : goes hs = (goesN hs : Int) := sumI_small _ h
theorem comes_small {hs : List Hu} (h : comesN hs ≤ 4611686018427387904) : comes hs = (comesN hs : Int) := sumI_small _ h
/-- Hunks that fit, from a place on. -/
def FitS (a : List Tx) : Nat → List Hu → Prop
  | _, [] => True
  | k, h :: hs => 0 ≤ h.pos ∧ k ≤ h.pos.toNat ∧ h.pos.toNat + h.old.length ≤ a.length ∧ seg a h.pos.toNat (h.pos.toNat + h.old.length) = h.old ∧ FitS a (h.pos.toNat + h.old.length) hs
theorem fit1_zero {a : List Tx} {h : Hu} (e : fit1 a h = 0) : h.pos + (h.old.length : Int) ≤ (a.length : Int) ∧ seg a h.pos.toNat (h.pos.toNat + h.old.length) = h.old := by
  unfold fit1 at e
  split at e
  · omega
  · split at e
    · rename_i h1 h2; exact ⟨by omega, h2⟩
    · omega
theorem fitG_zero {a : List Tx} : ∀ (i : Nat) (hs : List Hu), (fitG a i hs).2 = 0 → fitG a i hs = (0, 0) ∧ ∀ h ∈ hs, fit1 a h = 0
  | _, [], _ => ⟨rfl, fun h hh => by cases hh⟩
  | i, h :: hs, e => by
    unfold fitG at e ⊢
    split at e
    · rename_i h1
      rw [if_pos h1]
      obtain ⟨e1, e2⟩ := fitG_zero (i + 1) hs e
      exact ⟨e1, fun x hx => by rcases List.mem_cons.1 hx with rfl | hx; exact h1; exact e2 x hx⟩
    · rename_i h1
      exact absurd e h1
theorem fitS_of {a : List Tx} : ∀ (k : Nat) (l : Int) (hs : List Hu), Good l hs → (k : Int) ≤ l → (∀ h ∈ hs, fit1 a h = 0) → FitS a k hs
  | _, _, [], _, _, _ => trivial
  | k, l, h :: hs, g, hk, hf => by
    obtain ⟨s, g⟩ := g
    obtain ⟨s1, s2, s3, _⟩ := (stp_iff l h).1 s
    obtain ⟨f1, f2⟩ := fit1_zero (hf h (.head _))
    exact ⟨by omega, by omega, by omega, f2, fitS_of _ (lst h) hs g (by unfold lst; omega) (fun x hx => hf x (.tail _ hx))⟩
theorem ap_len {a : List Tx} : ∀ (k : Nat) (hs : List Hu), FitS a k hs → k ≤ a.length → (ap a k hs).length + goesN hs = a.length - k + comesN hs
  | k, [], _, _ => by simp [ap, goesN, comesN]
  | k, h :: hs, f, hk => by
    obtain ⟨f1, f2, f3, f4, f5⟩ := f
    have ih := ap_len _ hs f5 f3
    have hl : (seg a k h.pos.toNat).length = h.pos.toNat - k := seg_len _ _ _ (by omega)
    simp only [goesN, comesN, List.map_cons, List.sum_cons, ap, List.length_append] at ih ⊢
    rw [hl]
    omega
/-- What Fits says of fitting hunks. -/
theorem fitX_zero {a : List Tx} {hs : List Hu} (e : (fitX a hs).2 = 0) : fitX a hs = (0, 0) ∧ Good 0 hs ∧ (∀ h ∈ hs, fit1 a h = 0) ∧ FitS a 0 hs := by
  unfold fitX at e ⊢
  split at e
  · simp at e
  · rename_i h1
    rw [if_neg h1]
    obtain ⟨e1, e2⟩ := fitG_zero 0 hs e
    have g := Good.of_may h1
    exact ⟨e1, g, e2, fitS_of 0 0 hs g (Int.le_refl _) e2⟩
/-- What Apply answers: an error's number, and the texts. -/
def apX (a : List Tx) (hs : List Hu) : Int × List Tx := if (fitX a hs).2 = 0 then (0, ap a 0 hs) else ((fitX a hs).2, [])
/-- Texts handed out, or an error. -/
def GivesA (w : World) (x : Int × List Tx) (e : Ending) (w' : World) : Prop := Below w.heap.size w w' ∧ ∃ v, e = .returned (.tuple #[v, .int .i64 x.1]) ∧ w'.ownsRow w.heap.size 9 1 v x.2.length (x.2.map Value.string)
theorem GivesA.none {w w' : World} {e : Int} (hb : Below w.heap.size w w') : GivesA w (e, []) (.returned (.tuple #[.slice none 0 0, .int .i64 e])) w' := ⟨hb, _, rfl, World.ownsRow_nil _ _ _ _⟩
theorem grownBy_setRow (w : World) (g : Nat) (cs : Array Value) : w.grownBy (w.setRow g cs) (some g) := ⟨rfl, rfl, rfl, by simp, fun k _ hne => setRow_other w g k cs (fun e => hne (by rw [e]))⟩
def tZ : Tx := ⟨#[]⟩
section
variable {P : Program}
theorem run_copy_row1 (w : World) (dT sT ty elem : TypeId) (g o dLen dCap : Nat) (a : Addr) (sLen sCap : Nat) (cur : Array Value) (t : TypeId) (cs : List Value)
    (hu : P.underlying dT = some (.slice elem)) (hs : (P.info? elem).map (·.size) = some 1)
    (hg : w.heap[g]? = some (.cells cur t (0, 0))) (hn : cs.length = Nat.min sLen dLen)
    (hsrc : ∀ j v, cs[j]? = some v → w.cell? (a.add j) = some v) (hfit : o + cs.length ≤ cur.size) (h1 : ∀ v ∈ cs, v.oneCell' = true) :
    (Builtin.copy_ #[dT, sT] ty #[.slice (some ⟨g, o, none⟩) dLen dCap, .slice (some a) sLen sCap]).run P w =
      .ok (goInt (Nat.min sLen dLen)) (w.setRow g (cur.toList.take o ++ cs ++ cur.toList.drop (o + cs.length)).toArray) := by
  have hl := run_loadCells_list (P := P) w a cs hsrc
  have hst := run_storeCells_at P g o t cs 0 cur w hg (by simpa using hfit) h1
  cases hq : P.info? elem with
  | none => simp [hq] at hs
  | some i =>
    have hi : i.size = 1 := by simpa [hq] using hs
    have hn' : min sLen dLen = cs.length := hn.symm
    simp [Builtin.copy_, run_underlying hu, Builtin.lenOf, Builtin.firstCells, sizeOf, typeInfo, hq, hi, hn', hl, hst]
theorem run_copy_none1 (w : World) (dT sT ty elem : TypeId) (d a : Option Addr) (dLen dCap sLen sCap : Nat) (hu : P.underlying dT = some (.slice elem)) (hs : (P.info? elem).map (·.size) = some 1) (hn : Nat.min sLen dLen = 0) :
    (Builtin.copy_ #[dT, sT] ty #[.slice d dLen dCap, .slice a sLen sCap]).run P w = .ok (goInt 0) w := by
  cases hq : P.info? elem with
  | none => simp [hq] at hs
  | some i =>
    have hn' : min sLen dLen = 0 := hn
    cases d <;> cases a <;> simp [Builtin.copy_, run_underlying hu, Builtin.lenOf, Builtin.firstCells, sizeOf, typeInfo, hq, hn', loadCells, loadCellsFrom, storeCells]
/-- copy of texts onto an own row from a place on, at one operation. -/
theorem wp_copytx {o : Oper} {a : Act} {w : World} {K : Act → World → Prop} {Q : Exit → Act → World → Prop} (d s : Operand) (T : TypeId)
    (ho : o.op = .call { callee := .builtin .copy, args := #[d, s], argTypes := #[T, T] }) (e : TypeId) (hu : P.underlying T = some (.slice e)) (hsz : (P.info? e).map (·.size) = some 1)
    (base g N C tp : Nat) (p0 : Option Addr) (hp0 : some ⟨g, 0, none⟩ = p0) (ys : List Tx) (hown : w.ownsRow base e 1 (.slice p0 N C) N (ys.map Value.string)) (hNC : N ≤ C)
    (D : Option Addr) (hD : cutA p0 C tp = D) (dl dc : Nat) (hdl : dl = N - tp) (hd : a.eval d = .slice D dl dc)
    (sp : Option Addr) (m sc : Nat) (hs : a.eval s = .slice sp m sc) (xs : List Tx) (hl : xs.length = m) (hsrc : StrRow w sp xs)
    (hfit : tp + m ≤ N)
    (h : ∀ w', w'.ownsRow base e 1 (.slice p0 N C) N ((ys.take tp ++ xs ++ ys.drop (tp + m)).map Value.string) → w.grownBy w' (some g) → K (a.put o.dst (.int .i64 (m : Nat))) w') : Oper.wp P o a w K Q := by
  have hmin : Nat.min m dl = m := by subst hdl; simp only [Nat.min_def]; split <;> omega
  subst hp0
  by_cases h0 : m = 0
  · subst h0
    have hrun := run_copy_none1 (P := P) w T T o.type e D sp dl dc 0 sc hu hsz (by simp)
    unfold Oper.wp
    simp only [execOp, ho, resolve, invoke, builtin, Sem.run_bind, Sem.run_pure, Result.andThen_ok, List.map_toArray, List.map_cons, List.map_nil, hd, hs, hrun]
    have e0 : xs = [] := List.eq_nil_of_length_eq_zero hl
    subst e0
    exact h w (by rw [Nat.add_zero, List.append_nil, List.take_append_drop]; exact hown) ⟨rfl, rfl, rfl, Nat.le_refl _, fun _ _ _ => rfl⟩
  · have hne : C ≠ tp := by omega
    have hD' : D = some ⟨g, tp, none⟩ := by
      rw [← hD]
      unfold cutA
      rw [if_neg hne, Option.map_some, addrAdd, Nat.zero_add]
    subst hD'
    rcases hown.2 with ⟨hv, _⟩ | ⟨g', cap, cur, hv, hB, hg, hnc, hcm, hcs, htake⟩
    · simp at hv
    · injection hv with e1 e2 e3
      injection e1 with e1
      injection e1 with e1
      subst e1 e3
      obtain ⟨ad, rfl⟩ : ∃ ad, sp = some ad := by
        obtain ⟨b, off, e, _⟩ := hsrc 0 (by omega)
        exact ⟨_, e⟩
      have hrun := run_copy_row1 (P := P) w T T o.type e g tp dl dc ad m sc cur e (xs.map Value.string) hu hsz hg (by rw [List.length_map, hmin, hl]) (tx_cell hsrc) (by rw [List.length_map, hl, hcs]; omega) (tx_one xs)
      unfold Oper.wp
      simp only [execOp, ho, resolve, invoke, builtin, Sem.run_bind, Sem.run_pure, Result.andThen_ok, List.map_toArray, List.map_cons, List.map_nil, hd, hs, hrun, hmin]
      refine h _ ?_ (grownBy_setRow _ _ _)
      have hyl : ys.length = N := by have := hown.1; rw [List.length_map] at this; omega
      have hcl : cur.toList.length = C := by have := hcs; rw [Nat.mul_one] at this; simpa using this
      refine ⟨by simp only [List.length_map, List.length_append, List.length_take, List.length_drop]; omega, .inr ⟨g, C, _, rfl, hB, setRow_heap w g _ _ e _ hg, hnc, hcm, ?_, ?_⟩⟩
      · simp only [List.size_toArray, List.length_append, List.length_take, List.length_drop, List.length_map, hcl]; omega
      · have ht : cur.toList.take (N * 1) = ys.map Value.string := htake
        rw [Nat.mul_one] at ht ⊢
        simp only at *
        rw [List.length_map, hl]
        have e1 : (ys.take tp).map Value.string = cur.toList.take tp := by rw [List.map_take, ← ht, List.take_take, Nat.min_eq_left (by omega)]
        have e2 : (ys.drop (tp + m)).map Value.string = (cur.toList.drop (tp + m)).take (N - (tp + m)) := by rw [List.map_drop, ← ht, List.drop_take]
        rw [List.map_append, List.map_append, e1, e2]
        have hlen : (cur.toList.take tp ++ xs.map Value.string).length = tp + m := by simp only [List.length_append, List.length_take, List.length_map, hcl, hl]; omega
        rw [List.take_append, List.take_of_length_le (by omega), hlen]
end
end Go.Proofs.Ytjmnbnlhahbcjaa
