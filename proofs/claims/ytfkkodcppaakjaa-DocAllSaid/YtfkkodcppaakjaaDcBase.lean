/- A document in memory: the struct, its row of lines, its map of places. -/
import Derived.Test.YtfkkodcppaakjaaDcP
import Derived.Test.YtfkkodcppaakjaaCheck
import Derived.Laws.OwnMore
namespace Go.Proofs.Ytfkkodcppaakjaa
open Go Go.RowKit Go.Maps

theorem dIdLaw : Keyed Try.prog 65 := Keyed.of_law (deep_law_laid (P := Try.prog) (by kernel_rfl) (m := 2) (by omega) (of_decide_eq_true (by kernel_rfl)) (by kernel_rfl) (by kernel_rfl))
theorem dIdDeep : Try.prog.keyTypeAt (Try.prog.types.size + 1) 65 = true := by kernel_rfl
theorem dIdCells : Try.prog.cellsOf 65 = 2 := by kernel_rfl
theorem dId_key {u : Nat} {n : Int} (hu : u < 18446744073709551616) (hn : (Lit.int .i64 n).wf = true) : keyOf Try.prog 65 (.agg #[.int .u64 u, .int .i64 n]) = some (idLit u n) := by
  have hw := wf_lab hu
  obtain ⟨m, hm⟩ : ∃ m, Try.prog.types.size = m + 1 := ⟨Try.prog.types.size - 1, by have : Try.prog.types.size ≠ 0 := of_decide_eq_true (by kernel_rfl); omega⟩
  have hk : Try.prog.keyType 65 = true := dIdDeep
  have hl : Try.prog.keyLits (Try.prog.types.size + 1) 65 [.int .u64 u, .int .i64 n] = some [.int .u64 u, .int .i64 n] := by
    rw [hm]
    have e1 : Try.prog.cellsOf 24 = 1 := by kernel_rfl
    have e2 : Try.prog.cellsOf 3 = 1 := by kernel_rfl
    simp [Program.keyLits, Try.underlying65, dIdCells, Try.underlying24, Try.underlying3, e1, e2, hw, hn]
  unfold keyOf
  rw [Try.underlying65]
  simp only [hk, Value.formed, Try.underlying65]
  rw [show (Value.agg #[Value.int .u64 (u : Int), Value.int .i64 n]).cells.toList = [Value.int .u64 (u : Int), Value.int .i64 n] from rfl, hl]
  simp [dIdCells, idLit]
theorem dZeroInt (w : World) : (zeroValue 3).run Try.prog w = .ok (.int .i64 0) w := by kernel_rfl
theorem dMapHint (n : Int) (w : World) : (Instr.makeMap 53 (some (.int .i64 n))).run Try.prog w = .ok (.map (some w.heap.size)) (w.alloc (.map #[] 0)) := by
  simp [Instr.makeMap, asInt, asIntOf, Sem.run_bind, run_underlying Try.underlying53]
theorem dEqlMap (b : Nat) (w : World) : (binOp .eql 53 (.map (some b)) (.map none)).run Try.prog w = .ok (.bool false) w := by kernel_rfl
theorem dNeqMap (b : Nat) (w : World) : (binOp .neq 53 (.map (some b)) (.map none)).run Try.prog w = .ok (.bool true) w := by kernel_rfl

/-- The map of places: where each identity stands. -/
def PlMap (w : World) (m k : Nat) (f : Nat × Int → Option Nat) : Prop := ∃ D : DataW Unit, w.ownsMap Try.prog 65 (plainElem Try.prog 3) m k D ∧ PlIs D f
theorem PlMap.lt {w : World} {m k : Nat} {f : Nat × Int → Option Nat} (h : PlMap w m k f) : m < w.heap.size := by
  obtain ⟨D, ho, _⟩ := h
  exact ho.lt
theorem PlMap.keep {w W : World} {m k : Nat} {f : Nat × Int → Option Nat} (h : PlMap w m k f) (hb : W.heap[m]? = w.heap[m]?) : PlMap W m k f := by
  obtain ⟨D, ⟨es, clock, hb', F, hs', hD⟩, hc⟩ := h
  exact ⟨D, ⟨es, clock, hb.trans hb', F, hs', hD⟩, hc⟩
/-- The document at block a: its lines' row v, its map at block m; all from block B on. -/
structure DocAt (w : World) (B a : Nat) (v : Value) (m k : Nat) (xs : List Li) : Prop where
  blk : w.heap[a]? = some (.cells #[v, .map (some m)] 55 (0, 0))
  ha : B ≤ a
  row : w.ownsRow B 26 4 v xs.length (liCells xs)
  hm : B ≤ m
  map : ∃ f, PlMap w m k f ∧ Part f xs xs.length
  ok : ∀ x ∈ xs, LiOk x
/-- Its own blocks. -/
def docS (a : Nat) (v : Value) (m : Nat) (j : Nat) : Prop := j = a ∨ v.ownBlock = some j ∨ j = m
theorem DocAt.lta {w : World} {B a : Nat} {v : Value} {m k : Nat} {xs : List Li} (h : DocAt w B a v m k xs) : a < w.heap.size := (Array.getElem?_eq_some_iff.1 h.blk).1
theorem DocAt.ltm {w : World} {B a : Nat} {v : Value} {m k : Nat} {xs : List Li} (h : DocAt w B a v m k xs) : m < w.heap.size := by
  obtain ⟨f, hp, _⟩ := h.map
  exact hp.lt
theorem DocAt.own_lt {w : World} {B a : Nat} {v : Value} {m k : Nat} {xs : List Li} (h : DocAt w B a v m k xs) {j : Nat} (hj : docS a v m j) : B ≤ j ∧ j < w.heap.size := by
  rcases hj with rfl | hj | rfl
  · exact ⟨h.ha, h.lta⟩
  · exact h.row.lt j hj
  · exact ⟨h.hm, h.ltm⟩
theorem own_keep {w W : World} {B z : Nat} {e : TypeId} {v : Value} {n : Nat} {cs : List Value} (h : w.ownsRow B e z v n cs) (hb : ∀ j, v.ownBlock = some j → W.heap[j]? = w.heap[j]?) : W.ownsRow B e z v n cs := by
  refine ⟨h.1, ?_⟩
  rcases h.2 with h' | ⟨g, cap, cur, hv, hB, hg, rest⟩
  · exact .inl h'
  · exact .inr ⟨g, cap, cur, hv, hB, (hb g (by rw [hv]; rfl)).trans hg, rest⟩
theorem DocAt.keep {w W : World} {B a : Nat} {v : Value} {m k : Nat} {xs : List Li} (h : DocAt w B a v m k xs) (hb : ∀ j, docS a v m j → W.heap[j]? = w.heap[j]?) : DocAt W B a v m k xs := by
  obtain ⟨f, hp, hq⟩ := h.map
  exact ⟨(hb a (.inl rfl)).trans h.blk, h.ha, own_keep h.row fun j hj => hb j (.inr (.inl hj)), h.hm, ⟨f, hp.keep (hb m (.inr (.inr rfl))), hq⟩, h.ok⟩
theorem DocAt.later {w W : World} {B a : Nat} {v : Value} {m k : Nat} {xs : List Li} (h : DocAt w B a v m k xs) (hb : Below w.heap.size w W) : DocAt W B a v m k xs :=
  h.keep fun j hj => hb.block j (h.own_lt hj).2
/-- What is there stays, but in S. -/
structure KeptBut (S : Nat → Prop) (w w' : World) : Prop where
  os : w'.os = w.os
  tape : w'.tape = w.tape
  output : w'.output = w.output
  size : w.heap.size ≤ w'.heap.size
  block : ∀ k, k < w.heap.size → ¬ S k → w'.heap[k]? = w.heap[k]?
theorem KeptBut.refl (S : Nat → Prop) (w : World) : KeptBut S w w := ⟨rfl, rfl, rfl, Nat.le_refl _, fun _ _ _ => rfl⟩
theorem KeptBut.grown {S : Nat → Prop} {a w w' : World} {row : Option Nat} (h : KeptBut S a w) (hg : w.grownBy w' row) (hr : ∀ g, row = some g → S g ∨ a.heap.size ≤ g) : KeptBut S a w' :=
  ⟨hg.os.trans h.os, hg.tape.trans h.tape, hg.output.trans h.output, Nat.le_trans h.size hg.size, fun k hk hS => (hg.block k (Nat.lt_of_lt_of_le hk h.size) (fun e => by
    rcases hr k e.symm with h' | h'
    · exact hS h'
    · omega)).trans (h.block k hk hS)⟩
theorem KeptBut.alloc {S : Nat → Prop} {a w : World} (h : KeptBut S a w) (o : Obj) : KeptBut S a (w.alloc o) := h.grown (World.grownBy_alloc w o none) fun g e => by cases e
theorem KeptBut.set {S : Nat → Prop} {a w : World} (h : KeptBut S a w) (g i : Nat) (u : Value) (hr : S g ∨ a.heap.size ≤ g) : KeptBut S a (w.setCell ⟨g, i, none⟩ u) :=
  h.grown (row := some g) ⟨rfl, rfl, rfl, by simp, fun k _ hk => heap_setCell_other w ⟨g, i, none⟩ k u (fun e => hk (by simp [e]))⟩ fun g' e => by cases e; exact hr
theorem KeptBut.of_below {S : Nat → Prop} {w w' : World} (h : Below w.heap.size w w') : KeptBut S w w' := ⟨h.os, h.tape, h.output, h.size, fun k hk _ => h.block k hk⟩
theorem KeptBut.below {S : Nat → Prop} {B : Nat} {a w w' : World} (h : KeptBut S w w') (hb : Below B a w) (hB : B ≤ w.heap.size) (hS : ∀ k, S k → B ≤ k) : Below B a w' :=
  hb.trans ⟨h.os, h.tape, h.output, h.size, fun k hk => h.block k (by omega) (fun hs => by have := hS k hs; omega)⟩
theorem KeptBut.trans {S S' : Nat → Prop} {a w w' : World} (h : KeptBut S a w) (h' : KeptBut S' w w') (hS : ∀ k, S' k → S k ∨ a.heap.size ≤ k) : KeptBut S a w' :=
  ⟨h'.os.trans h.os, h'.tape.trans h.tape, h'.output.trans h.output, Nat.le_trans h.size h'.size, fun k hk hs => (h'.block k (Nat.lt_of_lt_of_le hk h.size) (fun e => by
    rcases hS k e with h1 | h1
    · exact hs h1
    · omega)).trans (h.block k hk hs)⟩
/-- Errors, as one tells a line by. -/
def okLine (x : Li) : Bool := checkE x.n x.r x.s.data.toList == 0
end Go.Proofs.Ytfkkodcppaakjaa
