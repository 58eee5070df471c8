/- The document's counters in memory: two rows behind a struct; where a label stands, by its contract. -/
import Derived.Test.YtbcfmckhgjcakaaIdRefTw
import Derived.Maps.AppendAt
import Derived.Laws.OwnMore
namespace Go.Proofs.Ytbcfmckhgjcakaa
open Go Go.RowKit Go.Maps

/-- What is there stays, but in S. -/
structure KeptBut (S : Nat → Prop) (w w' : World) : Prop where
  os : w'.os = w.os
  tape : w'.tape = w.tape
  output : w'.output = w.output
  size : w.heap.size ≤ w'.heap.size
  block : ∀ k, k < w.heap.size → ¬ S k → w'.heap[k]? = w.heap[k]?
theorem KeptBut.refl (S : Nat → Prop) (w : World) : KeptBut S w w := ⟨rfl, rfl, rfl, Nat.le_refl _, fun _ _ _ => rfl⟩
theorem KeptBut.grown {S : Nat → Prop} {a w w' : World} {row : Option Nat} (h : KeptBut S a w) (hg : w.grownBy w' row) (hr : ∀ g, row = some g → S g ∨ a.heap.size ≤ g) : KeptBut S a w' :=
  ⟨hg.os.trans h.os, hg.tape.trans h.tape, hg.output.trans h.output, Nat.le_trans h.size hg.size, fun k hk hS => (hg.block k (Nat.lt_of_lt_of_le hk h.size) (fun e => by
    rcases hr k e.symm with h' | h'
    · exact hS h'
    · omega)).trans (h.block k hk hS)⟩
theorem KeptBut.alloc {S : Nat → Prop} {a w : World} (h : KeptBut S a w) (o : Obj) : KeptBut S a (w.alloc o) := h.grown (World.grownBy_alloc w o none) fun g e => by cases e
theorem KeptBut.set {S : Nat → Prop} {a w : World} (h : KeptBut S a w) (g i : Nat) (u : Value) (hr : S g ∨ a.heap.size ≤ g) : KeptBut S a (w.setCell ⟨g, i, none⟩ u) :=
  h.grown (row := some g) ⟨rfl, rfl, rfl, by simp, fun k _ hk => heap_setCell_other w ⟨g, i, none⟩ k u (fun e => hk (by simp [e]))⟩ fun g' e => by cases e; exact hr
theorem KeptBut.of_below {S : Nat → Prop} {w w' : World} (h : Below w.heap.size w w') : KeptBut S w w' := ⟨h.os, h.tape, h.output, h.size, fun k hk _ => h.block k hk⟩
theorem KeptBut.below {S : Nat → Prop} {B : Nat} {a w w' : World} (h : KeptBut S w w') (hb : Below B a w) (hB : B ≤ w.heap.size) (hS : ∀ k, S k → B ≤ k) : Below B a w' :=
  hb.trans ⟨h.os, h.tape, h.output, h.size, fun k hk => h.block k (by omega) (fun hs => by have := hS k hs; omega)⟩
theorem KeptBut.trans {S S' : Nat → Prop} {a w w' : World} (h : KeptBut S a w) (h' : KeptBut S' w w') (hS : ∀ k, S' k → S k ∨ a.heap.size ≤ k) : KeptBut S a w' :=
  ⟨h'.os.trans h.os, h'.tape.trans h.tape, h'.output.trans h.output, Nat.le_trans h.size h'.size, fun k hk hs => (h'.block k (Nat.lt_of_lt_of_le hk h.size) (fun e => by
    rcases hS k e with h1 | h1
    · exact hs h1
    · omega)).trans (h.block k hk hs)⟩

def labsV (ls : List (Nat × Int)) : List Value := ls.map fun x => .int .u64 (x.1 : Int)
def lastsV (ls : List (Nat × Int)) : List Value := ls.map fun x => .int .i64 x.2
theorem labsV_len (ls : List (Nat × Int)) : (labsV ls).length = ls.length := by simp [labsV]
theorem lastsV_len (ls : List (Nat × Int)) : (lastsV ls).length = ls.length := by simp [lastsV]
/-- The number by a label. -/
def lookF (ls : List (Nat × Int)) (a : Nat) : Int := ((ls.find? fun x => x.1 == a).map (·.2)).getD 0
/-- The struct at block p, its labels' row v1, its numbers' row v2, all from block B on. -/
structure RefAt (w : World) (p B : Nat) (v1 v2 : Value) (ls : List (Nat × Int)) : Prop where
  blk : w.heap[p]? = some (.cells #[v1, v2] 56 (0, 0))
  hp : B ≤ p
  o1 : w.ownsRow B 25 1 v1 ls.length (labsV ls)
  o2 : w.ownsRow B 3 1 v2 ls.length (lastsV ls)
  d1 : v1.ownBlock ≠ some p
  d2 : v2.ownBlock ≠ some p
  d3 : ∀ g, v1.ownBlock = some g → v2.ownBlock ≠ some g
  nd : (ls.map (·.1)).Nodup
  lo : ∀ x ∈ ls, x.1 < 18446744073709551616 ∧ 0 ≤ x.2 ∧ x.2 ≤ 4611686018427387904
/-- Its own blocks. -/
def ownS (p : Nat) (v1 v2 : Value) (k : Nat) : Prop := k = p ∨ v1.ownBlock = some k ∨ v2.ownBlock = some k
theorem RefAt.ltp {w : World} {p B : Nat} {v1 v2 : Value} {ls : List (Nat × Int)} (h : RefAt w p B v1 v2 ls) : p < w.heap.size := (Array.getElem?_eq_some_iff.1 h.blk).1
theorem RefAt.own_lt {w : World} {p B : Nat} {v1 v2 : Value} {ls : List (Nat × Int)} (h : RefAt w p B v1 v2 ls) {k : Nat} (hk : ownS p v1 v2 k) : B ≤ k ∧ k < w.heap.size := by
  rcases hk with rfl | hk | hk
  · exact ⟨h.hp, h.ltp⟩
  · exact h.o1.lt k hk
  · exact h.o2.lt k hk
theorem RefAt.keep {w W : World} {p B : Nat} {v1 v2 : Value} {ls : List (Nat × Int)} (h : RefAt w p B v1 v2 ls) (hb : ∀ k, ownS p v1 v2 k → W.heap[k]? = w.heap[k]?) : RefAt W p B v1 v2 ls := by
  refine ⟨(hb p (.inl rfl)).trans h.blk, h.hp, ?_, ?_, h.d1, h.d2, h.d3, h.nd, h.lo⟩
  · refine ⟨h.o1.1, ?_⟩
    rcases h.o1.2 with h' | ⟨g, cap, cur, hv, hB, hg, rest⟩
    · exact .inl h'
    · exact .inr ⟨g, cap, cur, hv, hB, by rw [hb g (.inr (.inl (by rw [hv]; rfl)))]; exact hg, rest⟩
  · refine ⟨h.o2.1, ?_⟩
    rcases h.o2.2 with h' | ⟨g, cap, cur, hv, hB, hg, rest⟩
    · exact .inl h'
    · exact .inr ⟨g, cap, cur, hv, hB, by rw [hb g (.inr (.inr (by rw [hv]; rfl)))]; exact hg, rest⟩
theorem RefAt.later {w W : World} {p B : Nat} {v1 v2 : Value} {ls : List (Nat × Int)} (h : RefAt w p B v1 v2 ls) (hb : Below w.heap.size w W) : RefAt W p B v1 v2 ls := h.keep fun k hk => hb.block k (h.own_lt hk).2
theorem RefAt.kept {w W : World} {p B : Nat} {v1 v2 : Value} {ls : List (Nat × Int)} {S : Nat → Prop} (h : RefAt w p B v1 v2 ls) (hb : KeptBut S w W) (hd : ∀ k, ownS p v1 v2 k → ¬ S k) : RefAt W p B v1 v2 ls := h.keep fun k hk => hb.block k (h.own_lt hk).2 (hd k hk)
theorem cells2 {w : World} {p : Nat} {v1 v2 : Value} {T : TypeId} (h : w.heap[p]? = some (.cells #[v1, v2] T (0, 0))) : w.cell? ⟨p, 0, none⟩ = some v1 ∧ w.cell? ⟨p, 1, none⟩ = some v2 ∧ w.frozen? ⟨p, 0, none⟩ = false ∧ w.frozen? ⟨p, 1, none⟩ = false := by
  refine ⟨?_, ?_, ?_, ?_⟩ <;> simp [World.cell?, World.frozen?, h]
theorem row_form {W : World} {B : Nat} {e : TypeId} {v : Value} {n : Nat} {cs : List Value} (h : W.ownsRow B e 1 v n cs) : ∃ p c, v = .slice p n c := by
  rcases h.2 with ⟨hv, h0⟩ | ⟨g, cap, cur, hv, _⟩
  · exact ⟨none, 0, by rw [hv, h0]⟩
  · exact ⟨some ⟨g, 0, none⟩, cap, hv⟩
theorem row_some {W : World} {B : Nat} {e : TypeId} {v : Value} {n : Nat} {cs : List Value} (h : W.ownsRow B e 1 v n cs) (h0 : 0 < n) : ∃ g cap, v = .slice (some ⟨g, 0, none⟩) n cap ∧ g < W.heap.size := by
  rcases h.2 with ⟨_, h0'⟩ | ⟨g, cap, cur, hv, hB, hg, hc, _⟩
  · omega
  · exact ⟨g, cap, hv, (Array.getElem?_eq_some_iff.1 hg).1⟩
theorem lookF_hit {ls : List (Nat × Int)} (hn : (ls.map (·.1)).Nodup) {i : Nat} (hi : i < ls.length) : lookF ls ls[i].1 = ls[i].2 := by
  unfold lookF
  induction ls generalizing i with
  | nil => simp at hi
  | cons y l ih =>
    rw [List.map_cons, List.nodup_cons] at hn
    match i, hi with
    | 0, _ => simp
    | i + 1, hi =>
      simp only [List.getElem_cons_succ]
      have hi' : i < l.length := by simpa using hi
      have hne : y.1 ≠ (l[i]).1 := fun e => hn.1 (by rw [e]; exact List.mem_map_of_mem (List.getElem_mem hi'))
      rw [List.find?_cons, beq_false_of_ne hne]
      exact ih hn.2 hi'
theorem lookF_miss {ls : List (Nat × Int)} {a : Nat} (h : ∀ x ∈ ls, x.1 ≠ a) : lookF ls a = 0 := by
  unfold lookF
  rw [List.find?_eq_none.2 fun x hx => by simpa using h x hx]; rfl
theorem lookF_snoc (ls : List (Nat × Int)) (a : Nat) : lookF (ls ++ [(a, 0)]) = lookF ls := by
  funext b
  unfold lookF
  rw [List.find?_append]
  cases hf : ls.find? fun x => x.1 == b with
  | some y => rfl
  | none =>
    by_cases e : a = b
    · simp [e]
    · simp [e]
theorem labsV_snoc (ls : List (Nat × Int)) (x : Nat × Int) : labsV (ls ++ [x]) = labsV ls ++ [.int .u64 (x.1 : Int)] := by simp [labsV]
theorem lastsV_snoc (ls : List (Nat × Int)) (x : Nat × Int) : lastsV (ls ++ [x]) = lastsV ls ++ [.int .i64 x.2] := by simp [lastsV]
theorem labInfo : (Try.prog.info? 25).map (fun i => (i.zero, i.size, i.bytes)) = some (some (.int .u64 0), 1, 8) := by kernel_rfl
theorem intInfo : (Try.prog.info? 3).map (fun i => (i.zero, i.size, i.bytes)) = some (some (.int .i64 0), 1, 8) := by kernel_rfl
theorem one_cell (w : World) (y : Value) (T : TypeId) : ∀ j u, [y][j]? = some u → (w.alloc (.cells #[y] T)).cell? ((⟨w.heap.size, 0, none⟩ : Addr).add j) = some u := by
  intro j u hj
  match j, hj with
  | 0, hj => simp at hj; subst hj; simp [Addr.add]

/-- A label that stands: its first place. -/
theorem at_hit (w : World) (p B : Nat) (v1 v2 : Value) (ls : List (Nat × Int)) (i : Nat) (hi : i < ls.length) (h : RefAt w p B v1 v2 ls) (hlen : ls.length < 17592186044416) :
    Calls Try.prog 23 #[.pointer (some ⟨p, 0, none⟩), .int .u64 (ls[i].1 : Int)] w fun e w' => e = .returned (.int .i64 (i : Nat)) ∧ w = w' := by
  obtain ⟨k0, k1, f0, f1⟩ := cells2 h.blk
  have hnd := h.nd
  obtain ⟨g1, cap1, rfl, hg1⟩ := row_some h.o1 (by omega)
  have hcell : ∀ k (hk : k < ls.length), w.cell? ⟨g1, k, none⟩ = some (.int .u64 (ls[k].1 : Int)) := fun k hk => by
    have := h.o1.cellAt k (by omega)
    unfold labsV at this
    rw [List.getElem?_map, List.getElem?_eq_getElem hk] at this
    exact this
  have hlt0 : ∀ k (hk : k < ls.length), k < i → ((ls[k].1 : Int) == (ls[i].1 : Int)) = false := fun k hk hki => by
    have hne : ls[k].1 ≠ ls[i].1 := fun e => by
      have h1 : k < (ls.map (·.1)).length := by simpa using hk
      have h2 : i < (ls.map (·.1)).length := by simpa using hi
      have := (List.getElem_inj (i := k) (j := i) (h₀ := h1) (h₁ := h2) hnd).1 (by simpa using e)
      omega
    exact beq_false_of_ne (by omega)
  have HC := Lib.hid hcell
  have HL := Lib.hid hlt0
  obtain ⟨n, hn⟩ : ∃ n, ls.length = n := ⟨_, rfl⟩
  obtain ⟨y, hy⟩ : ∃ y : Nat, ls[i].1 = y := ⟨_, rfl⟩
  have hci := hcell i hi
  rw [hn] at hlen k0
  rw [hy] at HL ⊢
  have HN := Lib.hid hn
  have HY := Lib.hid hy
  have hi' : i < n := by omega
  clear h hcell hlt0 hnd hn hy hci
  go_enter Try.func23, Try.ntmps23
  go_wp2
  go_loopg [5] (i + 1) (fun g vi wr => ∃ k : Nat, k + g = i + 1 ∧ k ≤ i ∧ vi = .int .i64 k ∧ w = wr)
  case atStart => exact ⟨0, by omega, by omega, rfl, rfl⟩
  case round =>
    obtain ⟨k, hk, hki, rfl, rfl⟩ := hrel
    have hkn : k < n := by omega
    have hk0 : (0 : Int) ≤ (k : Int) := by omega
    have hkI : (k : Int) < (n : Int) := by omega
    by_cases e : k = i
    · subst e
      have hc := HC.out k (by rw [HN.out]; exact hkn)
      rw [HY.out] at hc
      have hb : ((y : Int) == (y : Int)) = true := by simp
      clear HC HL
      go_wp2
      go_ret
      exact ⟨rfl, rfl⟩
    · have hc := HC.out k (by rw [HN.out]; exact hkn)
      have hb := HL.out k (by rw [HN.out]; exact hkn) (by omega)
      obtain ⟨z, hz⟩ : ∃ z : Nat, (ls[k]'(by rw [HN.out]; exact hkn)).1 = z := ⟨_, rfl⟩
      rw [hz] at hc hb
      clear HC HL hz
      go_wp2
      go_roundg (gk - 1)
      case rel => exact ⟨k + 1, by omega, by omega, by go_num, rfl⟩
      case measure => omega
end Go.Proofs.Ytbcfmckhgjcakaa
