/- Texts of the proof, merged: LbOf, LbSays, NumCopy, LbRefText. -/
import Derived.Test.YtfibbjnkicjbpaaGreatDoorTl5
import Derived.Test.YtfibbjnkicjbpaaGreatDoorTl23
import Derived.Test.YtfibbjnkicjbpaaGreatDoorTl24
import Derived.Laws.AppendOwnNone
import Derived.Laws.OwnMore
/- The document's Of, by its contract; rows of numbers; lists of numbers compared. -/
namespace Go.Proofs.YtfibbjnkicjbpaaGreatDoor
open Go.RowKit

/-- The slice at p holds these numbers. -/
def NumRow (k : IntKind) (w : World) (p : Option Addr) (xs : List Int) : Prop := ∀ i (h : i < xs.length), ∃ b off, p = some ⟨b, off, none⟩ ∧ b < w.heap.size ∧ w.cell? ⟨b, off + i, none⟩ = some (.int k xs[i])
theorem NumRow.at {kd : IntKind} {w : World} {p : Option Addr} {xs : List Int} (h : NumRow kd w p xs) (i : Nat) (hi : i < xs.length) : ∃ b off, p = some ⟨b, off, none⟩ ∧ b < w.heap.size ∧ ∀ W, Below w.heap.size w W → W.cell? ⟨b, off + i, none⟩ = some (.int kd xs[i]) := by
  obtain ⟨b, off, e, hlt, hc⟩ := h i hi
  exact ⟨b, off, e, hlt, fun W hb => (hb.cell (p := ⟨b, off + i, none⟩) hlt).trans hc⟩
theorem NumRow.later {kd : IntKind} {w W : World} {p : Option Addr} {xs : List Int} (h : NumRow kd w p xs) (hb : Below w.heap.size w W) : NumRow kd W p xs := fun i hi => by
  obtain ⟨b, off, e, hlt, hc⟩ := h i hi
  exact ⟨b, off, e, Nat.lt_of_lt_of_le hlt hb.size, (hb.cell (p := ⟨b, off + i, none⟩) hlt).trans hc⟩

def ofOk (xs : List Int) : Bool := xs.all fun x => decide (0 ≤ x) && decide (x ≤ 63)
def ofF (xs : List Int) (i : Nat) : Bool := xs.contains (i : Int)
def ofW (xs : List Int) : Nat := if ofOk xs then wordOf (ofF xs) else 0
def ofE (xs : List Int) : Int := if ofOk xs then 0 else 1
theorem of_bad (xs : List Int) (k : Nat) (h : k < xs.length) (hx : xs[k] < 0 ∨ 63 < xs[k]) : ofW xs = 0 ∧ ofE xs = 1 := by
  have e : ofOk xs = false := by
    unfold ofOk
    rw [List.all_eq_false]
    refine ⟨xs[k], List.getElem_mem h, ?_⟩
    simp; omega
  unfold ofW ofE; rw [e]; exact ⟨rfl, rfl⟩
theorem of_good (xs : List Int) (h : ∀ (k : Nat) (hk : k < xs.length), 0 ≤ xs[k] ∧ xs[k] ≤ 63) : ofW xs = wordOf (ofF xs) ∧ ofE xs = 0 := by
  have e : ofOk xs = true := by
    unfold ofOk
    rw [List.all_eq_true]
    intro x hx
    obtain ⟨k, hk, rfl⟩ := List.getElem_of_mem hx
    have := h k hk
    simp [this.1, this.2]
  unfold ofW ofE; rw [e]; exact ⟨rfl, rfl⟩
theorem ofF_take (xs : List Int) (k m i : Nat) (h : k < xs.length) (hm : xs[k] = (m : Int)) : ofF (xs.take (k + 1)) i = (ofF (xs.take k) i || decide (i = m)) := by
  unfold ofF
  rw [List.take_succ_eq_append_getElem h, List.contains_append, hm]
  congr 1
  rw [Bool.eq_iff_iff]; simp; omega
theorem zeros_at (i : Nat) (h : i < 64) : (Array.replicate 64 (Value.bool false))[i]? = some (.bool false) := by
  rw [Array.getElem?_replicate, if_pos h]
theorem ofF_all (xs : List Int) (n : Nat) (h : xs.length = n) : ofF (xs.take n) = ofF xs := by rw [List.take_of_length_le (by omega)]

end Go.Proofs.YtfibbjnkicjbpaaGreatDoor
/- Contracts at every world that has grown out of the first one. -/
namespace Go.Proofs.YtfibbjnkicjbpaaGreatDoor
open Go.RowKit

/-- A row of compartments that was made, as a slice that holds them, later on. -/
theorem ints_row {W : World} {B : Nat} {p : Option Addr} {c : Nat} {l : List Nat} (h : W.ownsRow B 3 1 (.slice p l.length c) l.length (ints l)) : NumRow .i64 W p (l.map fun i : Nat => (i : Int)) := by
  intro i hi
  rw [List.length_map] at hi
  rcases h.2 with ⟨hv, h0⟩ | ⟨g, cap, cur, hv, _⟩
  · omega
  · injection hv with e1 e2 e3
    subst e1
    have hc := h.cellAt i (by omega)
    unfold ints at hc
    rw [List.getElem?_map, List.getElem?_eq_getElem hi] at hc
    have hlt := World.block_lt_of_cell? W _ (show W.cell? ⟨g, i, none⟩ = some (.int .i64 (l[i] : Nat)) from hc)
    exact ⟨g, 0, rfl, hlt, by rw [Nat.zero_add, List.getElem_map]; exact hc⟩

/-- A world that has grown out of w. -/
def St (w W : World) : Prop := BTab W ∧ Below w.heap.size w W
theorem St.start {w : World} (h : BTab w) : St w w := ⟨h, Below.refl _ _⟩
theorem St.next {w W W' : World} (h : St w W) (hb : Below W.heap.size W W') : St w W' := ⟨h.1.below hb, h.2.trans (hb.mono h.2.size)⟩
/-- A contract at every world that has grown out of w. -/
def Says (w : World) (f : Nat) (args : Array Value) (v : Value) : Prop := ∀ W, St w W → Calls Tryz.prog f args W fun e w' => e = .returned v ∧ St w w'
theorem says_of {w : World} {f : Nat} {args : Array Value} {v : Value} (h : ∀ W, BTab W → Calls Tryz.prog f args W fun e w' => e = .returned v ∧ Below W.heap.size W w') : Says w f args v :=
  fun W hW => (h W hW.1).mono fun _ _ ⟨h1, h2⟩ => ⟨h1, hW.next h2⟩
theorem says_same {w : World} {f : Nat} {args : Array Value} {v : Value} (h : ∀ W, Calls Tryz.prog f args W fun e w' => e = .returned v ∧ W = w') : Says w f args v :=
  fun W hW => (h W).mono fun _ _ ⟨h1, h2⟩ => ⟨h1, by rw [← h2]; exact hW⟩
/-- A call that gives a row of compartments. -/
def Lists (w : World) (f : Nat) (args : Array Value) (l : List Nat) : Prop := ∀ W, St w W → Calls Tryz.prog f args W fun e w' => ∃ p c, e = .returned (.slice p l.length c) ∧ NumRow .i64 w' p (l.map fun i : Nat => (i : Int)) ∧ St w w' ∧ Below W.heap.size W w'
theorem lists_of {w : World} {f : Nat} {args : Array Value} {l : List Nat} (h : ∀ W, BTab W → Calls Tryz.prog f args W (IntRow W l)) : Lists w f args l :=
  fun W hW => (h W hW.1).mono fun _ _ ⟨p, c, h1, h2, h3⟩ => ⟨p, c, h1, ints_row h3, hW.next h2, h2⟩

end Go.Proofs.YtfibbjnkicjbpaaGreatDoor
/- Rows of numbers that the call owns; a row of numbers copied behind one of the call's own. -/
namespace Go.Proofs.YtfibbjnkicjbpaaGreatDoor
open Go.RowKit

def nums (k : IntKind) (xs : List Int) : List Value := xs.map (Value.int k)
theorem nums_len (k : IntKind) (xs : List Int) : (nums k xs).length = xs.length := by simp [nums]
/-- What is owned can be read. -/
theorem nums_row {k : IntKind} {W : World} {B : Nat} {e : TypeId} {p : Option Addr} {n c : Nat} {xs : List Int} {rest : List Value} (h : W.ownsRow B e 1 (.slice p n c) n (nums k xs ++ rest)) : NumRow k W p xs := by
  intro i hi
  have hn := h.1
  rw [List.length_append, nums_len] at hn
  rcases h.2 with ⟨hv, h0⟩ | ⟨g, cap, cur, hv, _⟩
  · omega
  · injection hv with e1 e2 e3
    subst e1
    have hc := h.cellAt i (by omega)
    rw [List.getElem?_append_left (by rw [nums_len]; exact hi)] at hc
    unfold nums at hc
    rw [List.getElem?_map, List.getElem?_eq_getElem hi] at hc
    have hlt := World.block_lt_of_cell? W _ (show W.cell? ⟨g, i, none⟩ = some (.int k xs[i]) from hc)
    exact ⟨g, 0, rfl, hlt, by rw [Nat.zero_add]; exact hc⟩
theorem nums_row' {k : IntKind} {W : World} {B : Nat} {e : TypeId} {p : Option Addr} {n c : Nat} {xs : List Int} (h : W.ownsRow B e 1 (.slice p n c) n (nums k xs)) : NumRow k W p xs := nums_row (rest := []) (by rw [List.append_nil]; exact h)
theorem own_slice {W : World} {B : Nat} {e : TypeId} {v : Value} {n : Nat} {cs : List Value} (h : W.ownsRow B e 1 v n cs) : ∃ p c, v = .slice p n c := by
  rcases h.2 with ⟨hv, h0⟩ | ⟨g, cap, cur, hv, _⟩
  · exact ⟨none, 0, by rw [hv, h0]⟩
  · exact ⟨some ⟨g, 0, none⟩, cap, hv⟩
theorem own_later {w W : World} {B z : Nat} {e : TypeId} {v : Value} {n : Nat} {cs : List Value} (h : w.ownsRow B e z v n cs) (hb : Below w.heap.size w W) : W.ownsRow B e z v n cs := by
  refine ⟨h.1, ?_⟩
  rcases h.2 with h' | ⟨g, cap, cur, hv, hB, hg, rest⟩
  · exact .inl h'
  · have hlt : g < w.heap.size := (Array.getElem?_eq_some_iff.1 hg).1
    exact .inr ⟨g, cap, cur, hv, hB, by rw [hb.block g hlt]; exact hg, rest⟩
theorem own_some {W : World} {B : Nat} {e : TypeId} {v : Value} {k : Nat} {cs : List Value} (h : W.ownsRow B e 1 v (k + 1) cs) : ∃ g cap, v = .slice (some ⟨g, 0, none⟩) (k + 1) cap ∧ k + 1 ≤ cap ∧ B ≤ g ∧ g < W.heap.size := by
  rcases h.2 with ⟨_, h0⟩ | ⟨g, cap, cur, hv, hB, hg, hc, _⟩
  · omega
  · exact ⟨g, cap, hv, hc, hB, (Array.getElem?_eq_some_iff.1 hg).1⟩
theorem addr_plus (b off i : Nat) : (⟨b, off, none⟩ : Addr).add i = ⟨b, off + i, none⟩ := by
  unfold Addr.add
  by_cases h : i = 0
  · subst h; rfl
  · simp [h]

theorem copy_nums {P : Program} {w : World} {ops : Array Oper} {rest : List Oper} {o : Oper} {a : Act} {Q : Exit → Act → World → Prop} (hgd : o.guard = none) (s x : Operand) (t : TypeId)
    (ho : o.op = .call { callee := .builtin .append, args := #[s, x], argTypes := #[t, t] })
    (base : Nat) (e : TypeId) (i : TypeInfo) (z : Value) (ht : P.underlying t = some (.slice e)) (hi : P.info? e = some i) (hz : i.zero = some z) (hsize : i.size = 1) (hby : i.bytes = 8) (hzs : z.cells.size = 1)
    (v : Value) (hs : a.eval s = v) (hown : w.ownsRow base e 1 v 0 []) (k : IntKind) (p : Option Addr) (m c : Nat) (xs : List Int) (hx : a.eval x = .slice p m c) (hl : xs.length = m) (hrow : NumRow k w p xs) (hnil : p = none → m = 0 ∧ c = 0)
    (hm : m ≤ 17592186044416) (hbase : base ≤ w.heap.size)
    (h : ∀ v' w', w'.ownsRow base e 1 v' m (nums k xs) → Below base w w' → wpList P ops Q rest (a.put o.dst v') w') : wpList P ops Q (o :: rest) a w := by
  cases p with
  | none =>
    obtain ⟨rfl, rfl⟩ := hnil rfl
    have e0 : xs = [] := List.eq_nil_of_length_eq_zero hl
    subst e0
    exact wpList_append_own_none hgd s x t ho base e i 1 ht hi v 0 [] hs hown hx (h v w hown (Below.refl _ _))
  | some ad =>
    refine wpList_append_own w hgd s x t ho base e i z 1 8 ht hi hz hsize hby hzs (by decide) v 0 [] hs hown ad m c (nums k xs) hx (by rw [nums_len, hl, Nat.mul_one]) ?_ ?_ (by unfold maxLen; omega) (by omega) hbase ?_
    · intro j u hj
      have hjl : j < xs.length := by
        rcases Nat.lt_or_ge j xs.length with h' | h'
        · exact h'
        · rw [List.getElem?_eq_none (by rw [nums_len]; exact h')] at hj; cases hj
      obtain ⟨b, off, e1, hlt, hc⟩ := hrow j hjl
      injection e1 with e1
      subst e1
      unfold nums at hj
      rw [List.getElem?_map, List.getElem?_eq_getElem hjl] at hj
      injection hj with hj
      rw [addr_plus, hc, ← hj]
    · intro u hu
      unfold nums at hu
      rw [List.mem_map] at hu
      obtain ⟨y, _, rfl⟩ := hu
      rfl
    · intro v' w' ho' hgr _
      have hb : Below base w w' := (Below.refl _ _).grown hgr hbase (fun k hk => (hown.lt k hk).1)
      rw [Nat.zero_add, List.nil_append] at ho'
      exact h v' w' ho' hb
end Go.Proofs.YtfibbjnkicjbpaaGreatDoor
/- The document's digits and Text, by contract. -/
namespace Go.Proofs.YtfibbjnkicjbpaaGreatDoor
open Go.RowKit

theorem digit_nat (d : Nat) (h : d < 10) : (UInt8.ofNat (48 + d)).toNat = 48 + d := by
  rw [UInt8.toNat_ofNat']; exact Nat.mod_eq_of_lt (by omega)
theorem digit1 (w : World) (d : Nat) (hd : d < 10) :
    (convert 64 9 (.slice (some ⟨w.heap.size, 0, none⟩) 1 1)).run Tryz.prog (w.alloc (.cells #[.int .u8 (48 + (d : Int))] 5)) = .ok (.string ⟨#[UInt8.ofNat (48 + d)]⟩) (w.alloc (.cells #[.int .u8 (48 + (d : Int))] 5)) := by
  refine run_convert_bytes_back (P := Tryz.prog) _ 64 9 5 ⟨w.heap.size, 0, none⟩ 1 [UInt8.ofNat (48 + d)] Tryz.underlying64 Tryz.underlying5 Tryz.underlying9 (fun j hj => ?_)
  obtain rfl : j = 0 := by simpa using hj
  simp only [List.getElem_cons_zero, digit_nat d hd]
  rw [show (⟨w.heap.size, 0, none⟩ : Addr).add 0 = ⟨w.heap.size, 0, none⟩ from rfl, World.cell?_alloc_mark]
  simp
theorem digit2 (w : World) (c d : Nat) (hc : c < 10) (hd : d < 10) :
    (convert 64 9 (.slice (some ⟨w.heap.size, 0, none⟩) 2 2)).run Tryz.prog (w.alloc (.cells #[.int .u8 (48 + (c : Int)), .int .u8 (48 + (d : Int))] 5)) = .ok (.string ⟨#[UInt8.ofNat (48 + c), UInt8.ofNat (48 + d)]⟩) (w.alloc (.cells #[.int .u8 (48 + (c : Int)), .int .u8 (48 + (d : Int))] 5)) := by
  refine run_convert_bytes_back (P := Tryz.prog) _ 64 9 5 ⟨w.heap.size, 0, none⟩ 2 [UInt8.ofNat (48 + c), UInt8.ofNat (48 + d)] Tryz.underlying64 Tryz.underlying5 Tryz.underlying9 (fun j hj => ?_)
  match j, hj with
  | 0, _ =>
    simp only [List.getElem_cons_zero, digit_nat c hc]
    rw [show (⟨w.heap.size, 0, none⟩ : Addr).add 0 = ⟨w.heap.size, 0, none⟩ from rfl, World.cell?_alloc_mark]
    simp
  | 1, _ =>
    simp only [List.getElem_cons_succ, List.getElem_cons_zero, digit_nat d hd]
    rw [addr_plus, World.cell?_alloc_mark]
    simp
theorem str_app (x y : List UInt8) : (⟨x.toArray⟩ ++ ⟨y.toArray⟩ : ByteArray) = ⟨(x ++ y).toArray⟩ :=
  WideShapes.bytes_inj (by rw [Joins.data_append])
/-- What is written when k of them are. -/
def jn (l : List Nat) : List UInt8 := Lib.join (l.map Lib.decDigits) [43]
theorem jn_nil : jn [] = [] := rfl
theorem jn_snoc (l : List Nat) (x : Nat) : jn (l ++ [x]) = if l = [] then Lib.decDigits x else jn l ++ [43] ++ Lib.decDigits x := by
  unfold jn
  rw [List.map_append, List.map_singleton, join_snoc_lb]
  by_cases h : l = []
  · rw [if_pos h, if_pos (by rw [h]; rfl)]
  · rw [if_neg h, if_neg (by simpa using h)]

end Go.Proofs.YtfibbjnkicjbpaaGreatDoor
