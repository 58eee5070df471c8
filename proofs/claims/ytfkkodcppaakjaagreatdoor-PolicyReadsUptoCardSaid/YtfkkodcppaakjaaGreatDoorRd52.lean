/- Texts of the proof, merged: RegOrd, PrPrint, PrClear, PrTells, PoReadsW, Frame, LbOpen, NumOpen, LbLaid, EvLaid. -/
import Derived.Test.YtfkkodcppaakjaaGreatDoorRd6
import Derived.Test.YtfkkodcppaakjaaGreatDoorRd22
import Derived.Test.YtfkkodcppaakjaaGreatDoorRd23
import Derived.Test.YtfkkodcppaakjaaGreatDoorRd28
import Derived.Test.YtfkkodcppaakjaaGreatDoorRd32
import Derived.Test.YtfkkodcppaakjaaGreatDoorRd35
import Derived.Test.YtfkkodcppaakjaaGreatDoorRd36
import Derived.Test.YtfkkodcppaakjaaGreatDoorRd48
import Derived.Test.YtfkkodcppaakjaaGreatDoorRd51
import Derived.Deep.RegionHeld3
import Derived.RowKit
import Derived.OpenVars
import Derived.ProofKit
import Derived.SizedLaws
import Derived.OpenShut
import Derived.ChangeSlices
import Derived.Test.YtfkkodcppaakjaaGreatDoorRows
import Derived.Lib.LaidTab
import Derived.LaidSub
import Derived.LaidMore
import Derived.MakeChecks
import Derived.Deep.DeepHandedRow
/- A region that draws its order, walked once, in an order that is told: what yields in every world that meets S is taken first; a call is taken when nothing else may come up. No program. -/
namespace Go.Proofs.YtfkkodcppaakjaaGreatDoor
open Go Go.RowKit

section
variable {P : Program} {l : List Oper} {Q : Exit → Act → World → Prop} {S : World → Prop}

/-- The operation at a place. -/
def opL : List Oper → Nat → Option Oper
  | [], _ => none
  | o :: _, 0 => some o
  | _ :: r, n + 1 => opL r n
theorem opL_get : ∀ (l : List Oper) (i : Nat), opL l i = l[i]?
  | [], i => by simp [opL]
  | o :: r, 0 => by simp [opL]
  | o :: r, n + 1 => by rw [opL, opL_get r n]; simp
/-- The walk in the order that is told. -/
def wpOrd (P : Program) (l : List Oper) (Q : Exit → Act → World → Prop) (S : World → Prop) : List (Nat × Bool) → Act → World → Prop
  | [], a, w => Q .normal a w
  | (i, true) :: r, a, w => ∃ o v, opL l i = some o ∧ YieldsIf P l.toArray S o v a ∧ wpOrd P l Q S r (a.put o.dst v) w
  | (i, false) :: r, a, w => ∃ o, opL l i = some o ∧ ∀ K : Act → World → Prop, Shut (∀ a' w', S w' → (S w' → wpOrd P l Q S r a' w') → K a' w') → if Region.wanted o (yielded l.toArray a.tmps) = true then Oper.wp P o a w K Q else K (a.put o.dst undef) w
/-- May the order be so? -/
def ordB (l : List Oper) : List (Nat × Bool) → Array Bool → Bool
  | [], listed => (Region.ready .any l.toArray listed).isEmpty
  | (i, true) :: r, listed => Region.free .any l.toArray listed i && (Region.ready .any l.toArray listed).contains i && ordB l r (listed.setIfInBounds i true)
  | (i, false) :: r, listed => decide (Region.ready .any l.toArray listed = [i]) && ordB l r (listed.setIfInBounds i true)

theorem ord_any (hs : Region.noSelect l.toArray = true) (hQ : ∀ c (a : Act) d v w, Q (.panic c) (a.put d v) w → Q (.panic c) a w) : ∀ (ord : List (Nat × Bool)) (listed : Array Bool) (a : Act) (w : World),
    ordB l ord listed = true → S w → wpOrd P l Q S ord a w → wpAnyH P .any l.toArray Q S ord.length listed a w
  | [], listed, a, w, hB, _, h => wpAnyH_done (by simpa [ordB] using hB) h _
  | (i, true) :: r, listed, a, w, hB, hS, h => by
    simp only [ordB, Bool.and_eq_true] at hB
    obtain ⟨⟨hf, hr⟩, hB'⟩ := hB
    obtain ⟨o, v, ho, hy, hr'⟩ := h
    have hi : l.toArray[i]? = some o := by rw [List.getElem?_toArray, ← opL_get]; exact ho
    exact wpAnyH_take hi hs hf hr (fun c a w h => hQ c a _ _ w h) hy hS (ord_any hs hQ r _ _ _ hB' hS hr')
  | (i, false) :: r, listed, a, w, hB, hS, h => by
    simp only [ordB, Bool.and_eq_true, decide_eq_true_eq] at hB
    obtain ⟨hr, hB'⟩ := hB
    obtain ⟨o, ho, h⟩ := h
    have hi : l.toArray[i]? = some o := by rw [List.getElem?_toArray, ← opL_get]; exact ho
    refine wpAnyH_ready hr (by simp) (AllReadyH.cons hi (fun K hK => h K ?_) AllReadyH.nil)
    exact fun a' w' hS' hw' => hK.out a' w' hS' (fun hS'' => ord_any hs hQ r _ _ _ hB' hS'' (hw' hS''))
/-- The region, in the order that is told. (That nothing panics is shown on the way.) -/
theorem region_ord (S : World → Prop) (ord : List (Nat × Bool)) {id : Nat} {a : Act} {w : World} (hm : P.follows .mixedOrders = true) (hs : Region.noSelect l.toArray = true) (hlen : ord.length = l.length) (hB : ordB l ord (Array.replicate l.length false) = true)
    (hS : S w.drew) (h : wpOrd P l (NoPanic Q) S ord a w.drew) : (Code.region id l.toArray true).wp P Q a w := by
  refine wp_region_noPanic (wp_region_held_drew hm hS fun hS' => ?_)
  have := ord_any hs (fun _ _ _ _ _ h => h) ord (Array.replicate l.length false) a w.drew hB hS' h
  rw [hlen] at this
  simpa using this
theorem ord_take {i : Nat} {r : List (Nat × Bool)} {a : Act} {w : World} {o : Oper} {v : Value} (ho : opL l i = some o) (hw : Region.wanted o (yielded l.toArray a.tmps) = true) (hv : ∀ w, S w → (execOp a.eval o).run P w = .ok (.value v) w) (h : wpOrd P l Q S r (a.put o.dst v) w) : wpOrd P l Q S ((i, true) :: r) a w :=
  ⟨o, v, ho, .inl ⟨hw, hv⟩, h⟩
theorem ord_skip {i : Nat} {r : List (Nat × Bool)} {a : Act} {w : World} {o : Oper} (ho : opL l i = some o) (hw : Region.wanted o (yielded l.toArray a.tmps) = false) (h : wpOrd P l Q S r (a.put o.dst undef) w) : wpOrd P l Q S ((i, true) :: r) a w :=
  ⟨o, undef, ho, .inr ⟨hw, rfl⟩, h⟩
theorem ord_call {i : Nat} {r : List (Nat × Bool)} {a : Act} {w : World} {o : Oper} (ho : opL l i = some o) (hw : Region.wanted o (yielded l.toArray a.tmps) = true) (h : ∀ K : Act → World → Prop, Shut (∀ a' w', S w' → (S w' → wpOrd P l Q S r a' w') → K a' w') → Oper.wp P o a w K Q) : wpOrd P l Q S ((i, false) :: r) a w :=
  ⟨o, ho, fun K hK => by rw [if_pos hw]; exact h K hK⟩
theorem ord_end {a : Act} {w : World} (h : Q .normal a w) : wpOrd P l (NoPanic Q) S [] a w := NoPanic.normal h
end
end Go.Proofs.YtfkkodcppaakjaaGreatDoor
/- The document's Print of chapter 3, by its contract. -/
namespace Go.Proofs.YtfkkodcppaakjaaGreatDoor
open Go Go.RowKit

theorem print_snoc {l : List Vw} {k : Nat} (hk : k < l.length) : printL (l.take (k + 1)) = printL (l.take k) ++ l[k].s ++ [32] ++ textN l[k].c ++ [10] := by
  rw [List.take_succ_eq_append_getElem hk]
  unfold printL
  rw [List.map_append]
  simp [joinL, lineOf]
theorem okL_take {l : List Vw} (h : okL l) (k : Nat) : okL (l.take k) := ⟨by rw [List.length_take]; have := h.1; omega, by
  have hs : (names (l.take k)).Sublist (names l) := (List.take_sublist k l).map _
  exact List.Pairwise.sublist hs h.2.1, fun x hx => h.2.2 x (List.mem_of_mem_take hx)⟩
set_option maxRecDepth 100000 in
set_option maxHeartbeats 2000000 in
theorem prPrint_any (w : World) (p : Option Addr) (n c : Nat) (l : List Vw) (hn : l.length = n) (hr : VwRow w p l) (hl : Lo64 l) (hok : okL l) :
    Calls Tryz.prog 53 #[.slice p n c] w fun e w' => e = .returned (.string (bs (printL l))) ∧ Below w.heap.size w w' := by
  have HN := Lib.hid hn
  have h64 : n ≤ 64 := by rw [← hn]; exact hok.1
  have HOK := Lib.hid hok
  clear hn hok
  go_enter Tryz.func53, Tryz.ntmps53
  go_wp2_with fail
  go_loopg [3, 4] n (fun g s i wr => ∃ k : Nat, k + g = n ∧ i = .int .i64 k ∧ s = .string (bs (printL (l.take k))) ∧ Below w.heap.size w wr)
  case atStart => exact ⟨0, by omega, rfl, rfl, Below.refl _ _⟩
  case round =>
    obtain ⟨k, hk, rfl, rfl, hbr⟩ := hrel
    have hk0 : (0 : Int) ≤ (k : Int) := by omega
    by_cases hlt : k < n
    · have hlt' : k < l.length := by rw [HN.out]; exact hlt
      obtain ⟨b1, o1, rfl, hb1, h1c⟩ := hr.at k hlt'
      have hps := print_snoc hlt'
      have hpl := print_le (okL_take HOK.out k)
      have hx := hl _ (List.getElem_mem hlt')
      have hnl := name_le (HOK.out.2.2 _ (List.getElem_mem hlt'))
      generalize l[k] = x at *
      have htl := text_le x.c
      have cT := fun W => prText_any x.c W hx
      have had1 : ∀ W : World, (Op.stringOp .add (bs (printL (l.take k))) (bs x.s)).run Tryz.prog W = .ok (.string (bs (printL (l.take k) ++ x.s))) W := fun W => by
        have := run_string_add_sum (P := Tryz.prog) W (bs (printL (l.take k))) (bs x.s) (by rw [bs_size, bs_size]; omega)
        rwa [bs_add] at this
      have had2 : ∀ W : World, (Op.stringOp .add (bs (printL (l.take k) ++ x.s)) ⟨#[32]⟩).run Tryz.prog W = .ok (.string (bs (printL (l.take k) ++ x.s ++ [32]))) W := fun W => by
        have := run_string_add_sum (P := Tryz.prog) W (bs (printL (l.take k) ++ x.s)) (bs [32]) (by rw [bs_size, bs_size]; simp; omega)
        rwa [bs_add] at this
      have had3 : ∀ W : World, (Op.stringOp .add (bs (printL (l.take k) ++ x.s ++ [32])) (bs (textN x.c))).run Tryz.prog W = .ok (.string (bs (printL (l.take k) ++ x.s ++ [32] ++ textN x.c))) W := fun W => by
        have := run_string_add_sum (P := Tryz.prog) W (bs (printL (l.take k) ++ x.s ++ [32])) (bs (textN x.c)) (by rw [bs_size, bs_size]; simp; omega)
        rwa [bs_add] at this
      have had4 : ∀ W : World, (Op.stringOp .add (bs (printL (l.take k) ++ x.s ++ [32] ++ textN x.c)) ⟨#[10]⟩).run Tryz.prog W = .ok (.string (bs (printL (l.take (k + 1))))) W := fun W => by
        have := run_string_add_sum (P := Tryz.prog) W (bs (printL (l.take k) ++ x.s ++ [32] ++ textN x.c)) (bs [10]) (by rw [bs_size, bs_size]; simp; omega)
        rw [bs_add, ← hps] at this
        exact this
      obtain ⟨e5, he5⟩ : ∃ e, bs (printL (l.take (k + 1))) = e := ⟨_, rfl⟩
      rw [he5] at had4
      have HE5 := Lib.hid he5
      clear he5 hps hpl hnl htl hl hr HOK
      have hkI : (k : Int) < (n : Int) := by omega
      generalize bs (printL (l.take k) ++ x.s ++ [32] ++ textN x.c) = e4 at *
      generalize bs (printL (l.take k) ++ x.s ++ [32]) = e3 at *
      generalize bs (printL (l.take k) ++ x.s) = e2 at *
      generalize bs (printL (l.take k)) = e1 at *
      generalize bs (textN x.c) = et at *
      have hwsz : w.heap.size ≤ wr.heap.size := hbr.size
      have hS : (fun W : World => W.cell? ⟨b1, o1 + k * 2, none⟩ = some (.string (bs x.s)) ∧ W.cell? ⟨b1, o1 + k * 2 + 1, none⟩ = some (.int .u64 x.c) ∧ Hid (Below w.heap.size w W)) wr.drew := by
        obtain ⟨g1, g2⟩ := h1c _ (Below.drew hbr)
        exact ⟨g1, g2, Below.drew hbr⟩
      have HC := Lib.hid h1c
      have HCT := Lib.hid cT
      clear h1c hbr cT
      go_wp2_with fail
      refine region_ord (fun W : World => W.cell? ⟨b1, o1 + k * 2, none⟩ = some (.string (bs x.s)) ∧ W.cell? ⟨b1, o1 + k * 2 + 1, none⟩ = some (.int .u64 x.c) ∧ Hid (Below w.heap.size w W)) [(0, true), (1, true), (2, true), (3, true), (4, true), (5, true), (6, true), (7, true), (8, true), (9, true), (10, true), (11, true), (12, true), (13, false), (14, true), (15, true), (16, true)] (by kernel_rfl) (by kernel_rfl) (by kernel_rfl) (by kernel_rfl) hS ?_
      have HS := Lib.hid hS
      clear hS
      iterate 13 (refine ord_take (v := ?_) rfl (by rfl) ?_ ?_; rotate_left; (focus (intro w hSw; (try dsimp only at hSw); go_simp; (try with_reducible rfl); done)); (try simp (maxSteps := 10000000) only [Act.put, List.setIfInBounds_toArray, List.set_cons_zero, List.set_cons_succ]))
      refine ord_call rfl (by rfl) (fun K hK => ?_)
      go_simp
      refine (HCT.out _).mono ?_
      rintro e u1 ⟨rfl, hb1'⟩
      have hbu := HS.out.2.2.out.trans (hb1'.mono HS.out.2.2.out.size)
      have S1 : Hid (u1.cell? ⟨b1, o1 + k * 2, none⟩ = some (.string (bs x.s)) ∧ u1.cell? ⟨b1, o1 + k * 2 + 1, none⟩ = some (.int .u64 x.c) ∧ Hid (Below w.heap.size w u1)) := by
        obtain ⟨g1, g2⟩ := HC.out _ hbu
        exact ⟨g1, g2, hbu⟩
      clear hb1' hbu HS
      go_wp2_with fail
      refine hK.out _ _ S1.out (fun _ => ?_)
      clear hK
      (try simp (maxSteps := 10000000) only [Act.put, List.setIfInBounds_toArray, List.set_cons_zero, List.set_cons_succ])
      iterate 3 (refine ord_take (v := ?_) rfl (by rfl) ?_ ?_; rotate_left; (focus (intro w hSw; (try dsimp only at hSw); go_simp; (try with_reducible rfl); done)); (try simp (maxSteps := 10000000) only [Act.put, List.setIfInBounds_toArray, List.set_cons_zero, List.set_cons_succ]))
      refine ord_end ?_
      have HB := Lib.hid S1.out.2.2.out
      go_wp2_with fail
      go_roundg (gk - 1)
      case rel => exact ⟨k + 1, by omega, by go_num, by rw [HE5.out], HB.out⟩
      case measure => omega
    · obtain rfl : k = n := by omega
      have hall : l.take k = l := by rw [← HN.out]; exact List.take_length
      rw [hall]
      have HB := Lib.hid hbr
      have hkI : ¬ ((k : Int) < (k : Int)) := by omega
      clear hbr hall hl hr HOK
      go_wp2_with fail
      go_ret
      exact ⟨rfl, HB.out⟩
end Go.Proofs.YtfkkodcppaakjaaGreatDoor
/- The document's Clearances of chapter 3, by its contract: by selection. -/
namespace Go.Proofs.YtfkkodcppaakjaaGreatDoor
open Go Go.RowKit

theorem clr_mem {l : List Vw} {c : Nat} : c ∈ clrL l ↔ c ∈ cls l := mem_onceC _ _
theorem clr_rise (l : List Vw) : RiseC (clrL l) := onceC_rise _
theorem rise_at {T : List Nat} (h : RiseC T) {i j : Nat} (hi : i < j) (hj : j < T.length) : T[i]'(by omega) < T[j] := List.pairwise_iff_getElem.1 h i j (by omega) hj hi
/-- May it stand next? -/
def nextE (T : List Nat) (m c : Nat) : Prop := m = 0 ∨ T.getD (m - 1) 0 < c
theorem next_none {l : List Vw} {m : Nat} (hm : m ≤ (clrL l).length) (h : ∀ c ∈ cls l, ¬ nextE (clrL l) m c) : m = (clrL l).length := by
  rcases Nat.lt_or_eq_of_le hm with hlt | e
  · exfalso
    refine h _ (clr_mem.1 (List.getElem_mem hlt)) ?_
    rcases Nat.eq_zero_or_pos m with h0 | h0
    · exact .inl h0
    · refine .inr ?_
      rw [List.getD_eq_getElem?_getD, List.getElem?_eq_getElem (by omega)]
      exact rise_at (clr_rise l) (by omega) hlt
  · exact e
theorem next_some {l : List Vw} {m a : Nat} (hm : m ≤ (clrL l).length) (ha : a ∈ cls l) (hE : nextE (clrL l) m a) (h : ∀ c ∈ cls l, nextE (clrL l) m c → a ≤ c) : ∃ hlt : m < (clrL l).length, (clrL l)[m] = a := by
  obtain ⟨j, hj, e⟩ := List.getElem_of_mem (clr_mem.2 ha)
  have hmj : m ≤ j := by
    rcases hE with h0 | h0
    · omega
    · rcases Nat.lt_or_ge j m with hlt | hge
      · exfalso
        rw [List.getD_eq_getElem?_getD, List.getElem?_eq_getElem (by omega)] at h0
        simp only [Option.getD_some] at h0
        rcases Nat.lt_or_eq_of_le (Nat.le_sub_one_of_lt hlt) with hl | he
        · have := rise_at (clr_rise l) hl (by omega)
          omega
        · subst he; omega
      · exact hge
  have hlt : m < (clrL l).length := by omega
  refine ⟨hlt, ?_⟩
  have h2 : nextE (clrL l) m (clrL l)[m] := by
    rcases Nat.eq_zero_or_pos m with h0 | h0
    · exact .inl h0
    · refine .inr ?_
      rw [List.getD_eq_getElem?_getD, List.getElem?_eq_getElem (by omega)]
      exact rise_at (clr_rise l) (by omega) hlt
  have h3 := h _ (clr_mem.1 (List.getElem_mem hlt)) h2
  rcases Nat.lt_or_eq_of_le hmj with hl | he
  · have := rise_at (clr_rise l) hl hj
    omega
  · subst he; exact e
theorem wrap_nat (m : Nat) (h : m ≤ 100) : wrap64 (m : Int) = (m : Int) := by unfold wrap64; omega
theorem clr_len (l : List Vw) : (clrL l).length ≤ l.length := by have := onceC_len (l.map (·.c)); unfold clrL; simpa using this
/-- What the search has found. -/
def Found (l : List Vw) (m j : Nat) (f le : Value) : Prop := (f = .bool false ∧ le = .int .u64 0 ∧ ∀ i (h : i < l.length), i < j → ¬ nextE (clrL l) m l[i].c) ∨
  (∃ a : Nat, f = .bool true ∧ le = .int .u64 a ∧ a < 18446744073709551616 ∧ a ∈ cls l ∧ nextE (clrL l) m a ∧ ∀ i (h : i < l.length), i < j → nextE (clrL l) m l[i].c → a ≤ l[i].c)
theorem found_skip {l : List Vw} {m j : Nat} (hj : j < l.length) (h : ¬ nextE (clrL l) m l[j].c) {f le : Value} (hf : Found l m j f le) : Found l m (j + 1) f le := by
  rcases hf with ⟨e1, e2, h3⟩ | ⟨a, e1, e2, h3, h4, h5, h6⟩
  · refine .inl ⟨e1, e2, fun i hi hij => ?_⟩
    by_cases e : i = j
    · subst e; exact h
    · exact h3 i hi (by omega)
  · refine .inr ⟨a, e1, e2, h3, h4, h5, fun i hi hij hE => ?_⟩
    by_cases e : i = j
    · subst e; exact absurd hE h
    · exact h6 i hi (by omega) hE
theorem found_first {l : List Vw} {m j : Nat} (hj : j < l.length) (h64 : l[j].c < 18446744073709551616) (h : nextE (clrL l) m l[j].c) {le : Value} (hf : Found l m j (.bool false) le) : Found l m (j + 1) (.bool true) (.int .u64 l[j].c) := by
  rcases hf with ⟨_, _, h3⟩ | ⟨a, e1, _⟩
  · refine .inr ⟨l[j].c, rfl, rfl, h64, List.mem_map_of_mem (List.getElem_mem hj), h, fun i hi hij hE => ?_⟩
    by_cases e : i = j
    · subst e; exact Nat.le_refl _
    · exact absurd hE (h3 i hi (by omega))
  · simp at e1
theorem found_true {l : List Vw} {m j : Nat} {a : Nat} (hf : Found l m j (.bool true) (.int .u64 a)) : a < 18446744073709551616 ∧ a ∈ cls l ∧ nextE (clrL l) m a ∧ ∀ i (h : i < l.length), i < j → nextE (clrL l) m l[i].c → a ≤ l[i].c := by
  rcases hf with ⟨e1, _⟩ | ⟨a', _, e2, h⟩
  · simp at e1
  · simp only [Value.int.injEq, true_and] at e2
    have : a = a' := by omega
    subst this
    exact h
theorem found_less {l : List Vw} {m j a : Nat} (hj : j < l.length) (h64 : l[j].c < 18446744073709551616) (h : nextE (clrL l) m l[j].c) (hf : Found l m j (.bool true) (.int .u64 a)) (hlt : l[j].c < a) : Found l m (j + 1) (.bool true) (.int .u64 l[j].c) := by
  obtain ⟨_, _, _, h6⟩ := found_true hf
  refine .inr ⟨l[j].c, rfl, rfl, h64, List.mem_map_of_mem (List.getElem_mem hj), h, fun i hi hij hE => ?_⟩
  by_cases e : i = j
  · subst e; exact Nat.le_refl _
  · have := h6 i hi (by omega) hE
    omega
theorem found_keep {l : List Vw} {m j a : Nat} (hj : j < l.length) (hf : Found l m j (.bool true) (.int .u64 a)) (hge : a ≤ l[j].c) : Found l m (j + 1) (.bool true) (.int .u64 a) := by
  obtain ⟨h3, h4, h5, h6⟩ := found_true hf
  refine .inr ⟨a, rfl, rfl, h3, h4, h5, fun i hi hij hE => ?_⟩
  by_cases e : i = j
  · subst e; exact hge
  · exact h6 i hi (by omega) hE
set_option maxRecDepth 100000 in
set_option maxHeartbeats 4000000 in
theorem prClearances_any (w : World) (p : Option Addr) (n c : Nat) (l : List Vw) (hn : l.length = n) (h64 : n ≤ 64) (hr : VwRow w p l) (hl : Lo64 l) :
    Calls Tryz.prog 46 #[.slice p n c] w (GivesLab w (clrL l)) := by
  obtain ⟨i0, hi, hz0, hz1, hz2⟩ := info_parts labInfo
  have hTl := clr_len l
  have HN := Lib.hid hn
  clear hn
  obtain ⟨T, hT⟩ : ∃ T, clrL l = T := ⟨_, rfl⟩
  have HT := Lib.hid hT
  rw [hT] at hTl ⊢
  clear hT
  go_enter Tryz.func46, Tryz.ntmps46
  go_wp2
  go_loopg [3] (T.length + 1) (fun g u wr => ∃ m : Nat, m + g = T.length + 1 ∧ m ≤ T.length ∧ Below w.heap.size w wr ∧ Hid (wr.ownsRow w.heap.size 23 1 u m (labVals (T.take m))))
  case atStart => exact ⟨0, by omega, by omega, Below.refl _ _, World.ownsRow_nil _ _ _ _⟩
  case round =>
    obtain ⟨wo, rfl⟩ : ∃ wo, wo = wr := ⟨_, rfl⟩
    obtain ⟨G, rfl⟩ : ∃ G, G = gk := ⟨_, rfl⟩
    obtain ⟨m, hm, hml, hbr, HO⟩ := hrel
    have hmT : m ≤ T.length := hml
    have hrow : ∃ pu cu, _ = Value.slice pu m cu ∧ LabRow wo pu (T.take m) := lab_owned (by rw [List.length_take]; omega) HO.out
    obtain ⟨pu, cu, hu, hrow⟩ := hrow
    have ho := HO.out
    rw [hu] at ho ⊢
    have HO2 := Lib.hid ho
    have HR2 := Lib.hid hrow
    have hsr := hbr.size
    have HB := Lib.hid hbr
    clear HO hu ho hrow hbr
    go_wp2_with fail
    go_loopg [4, 5, 6] n (fun g f le i wx => ∃ j : Nat, j + g = n ∧ i = .int .i64 j ∧ wx = wo ∧ Hid (Found l m j f le))
    case atStart => exact ⟨0, by omega, rfl, rfl, .inl ⟨rfl, rfl, fun i _ h => absurd h (Nat.not_lt_zero _)⟩⟩
    case round =>
      obtain ⟨j, hj, rfl, rfl, HF⟩ := hrel
      have hj0 : (0 : Int) ≤ (j : Int) := by omega
      by_cases hlt : j < n
      · have hlt' : j < l.length := by rw [HN.out]; exact hlt
        obtain ⟨b1, o1, rfl, _, h1c⟩ := hr.at j hlt'
        obtain ⟨g1, g2⟩ := h1c _ HB.out
        have hx := hl _ (List.getElem_mem hlt')
        have hxm : l[j].c ∈ cls l := List.mem_map_of_mem (List.getElem_mem hlt')
        have hjI : (j : Int) < (n : Int) := by omega
        have hsk := Lib.hid (@found_skip l m j hlt')
        have hfi := Lib.hid (@found_first l m j hlt' hx)
        have hle := Lib.hid (fun a => @found_less l m j a hlt' hx)
        have hke := Lib.hid (fun a => @found_keep l m j a hlt')
        clear h1c
        generalize l[j] = x at *
        clear hxm hl hr
        rcases Nat.eq_zero_or_pos m with hm0 | hm0
        · subst hm0
          have hE : Hid (nextE (clrL l) 0 x.c) := .inl rfl
          rcases HF.out with ⟨rfl, rfl, _⟩ | ⟨a, rfl, rfl, ha, _⟩
          · have HF2 := Lib.hid (hfi.out hE.out HF.out)
            clear hsk hfi hle hke HF hE
            go_wp2_with fail
            go_roundg (gk - 1)
            case rel => exact ⟨j + 1, by omega, by go_num, rfl, HF2⟩
            case measure => omega
          · by_cases hca : x.c < a
            · have HF2 := Lib.hid (hle.out a hE.out HF.out hca)
              have hcI : (x.c : Int) < (a : Int) := by omega
              clear hsk hfi hle hke HF hE
              go_wp2_with fail
              go_roundg (gk - 1)
              case rel => exact ⟨j + 1, by omega, by go_num, rfl, HF2⟩
              case measure => omega
            · have HF2 := Lib.hid (hke.out a HF.out (by omega))
              have hcI : ¬ ((x.c : Int) < (a : Int)) := by omega
              clear hsk hfi hle hke HF hE
              go_wp2_with fail
              go_roundg (gk - 1)
              case rel => exact ⟨j + 1, by omega, by go_num, rfl, HF2⟩
              case measure => omega
        · obtain ⟨m', rfl⟩ : ∃ m', m = m' + 1 := ⟨m - 1, by omega⟩
          obtain ⟨bq, oq, rfl, _, hqc⟩ := HR2.out.at m' (by rw [List.length_take]; omega)
          have gq := hqc _ (Below.refl _ _)
          have hqd : (T.take (m' + 1))[m']'(by rw [List.length_take]; omega) = (clrL l).getD (m' + 1 - 1) 0 := by
            rw [HT.out, List.getElem_take, List.getD_eq_getElem?_getD, Nat.add_sub_cancel, List.getElem?_eq_getElem (by omega)]; rfl
          have hEi : Hid (nextE (clrL l) (m' + 1) x.c ↔ (T.take (m' + 1))[m']'(by rw [List.length_take]; omega) < x.c) := by
            rw [hqd]
            exact ⟨fun h => by rcases h with h | h; exact absurd h (by omega); exact h, fun h => .inr h⟩
          generalize (T.take (m' + 1))[m']'(by rw [List.length_take]; omega) = q at *
          have hz : ((m' : Int) + 1 == 0) = false := beq_false_of_ne (by omega)
          have hm'0 : (0 : Int) ≤ (m' : Int) := by omega
          have hm'1 : (m' : Int) < (m' : Int) + 1 := by omega
          have hwr : wrap64 (m' : Int) = (m' : Int) := wrap_nat m' (by have := HN.out; omega)
          clear hqc hqd
          by_cases hqx : q < x.c
          · have hE := Lib.hid (hEi.out.2 hqx)
            have hqI : (q : Int) < (x.c : Int) := by omega
            rcases HF.out with ⟨rfl, rfl, _⟩ | ⟨a, rfl, rfl, ha, _⟩
            · have HF2 := Lib.hid (hfi.out hE.out HF.out)
              clear hsk hfi hle hke HF hE hEi
              go_wp2_with fail
              go_roundg (gk - 1)
              case rel => exact ⟨j + 1, by omega, by go_num, rfl, HF2⟩
              case measure => omega
            · by_cases hca : x.c < a
              · have HF2 := Lib.hid (hle.out a hE.out HF.out hca)
                have hcI : (x.c : Int) < (a : Int) := by omega
                clear hsk hfi hle hke HF hE hEi
                go_wp2_with fail
                go_roundg (gk - 1)
                case rel => exact ⟨j + 1, by omega, by go_num, rfl, HF2⟩
                case measure => omega
              · have HF2 := Lib.hid (hke.out a HF.out (by omega))
                have hcI : ¬ ((x.c : Int) < (a : Int)) := by omega
                clear hsk hfi hle hke HF hE hEi
                go_wp2_with fail
                go_roundg (gk - 1)
                case rel => exact ⟨j + 1, by omega, by go_num, rfl, HF2⟩
                case measure => omega
          · have HF2 := Lib.hid (hsk.out (fun h => hqx (hEi.out.1 h)) HF.out)
            have hqI : ¬ ((q : Int) < (x.c : Int)) := by omega
            clear hsk hfi hle hke HF hEi
            go_wp2_with fail
            go_roundg (gk - 1)
            case rel => exact ⟨j + 1, by omega, by go_num, rfl, HF2⟩
            case measure => omega
      · obtain rfl : j = n := by omega
        have hjI : ¬ ((j : Int) < (j : Int)) := by omega
        have hln := HN.out
        rcases HF.out with ⟨rfl, rfl, hno⟩ | ⟨a, rfl, rfl, ha, h4, h5, h6⟩
        · have hmT2 : m = T.length := by
            have := next_none (l := l) (m := m) (by rw [HT.out]; exact hmT) fun c hc => by
              obtain ⟨x, hx, rfl⟩ := List.mem_map.1 hc
              obtain ⟨i, hi', rfl⟩ := List.getElem_of_mem hx
              exact hno i hi' (by omega)
            rw [HT.out] at this
            exact this
          subst hmT2
          have HO3 := HO2.out
          have HR3 := HR2.out
          rw [List.take_length] at HO3 HR3
          have HO4 := Lib.hid HO3
          have HR4 := Lib.hid HR3
          clear HF hno HO2 HR2 HO3 HR3 hl hr hln
          go_wp2_with fail
          go_ret
          exact ⟨HB.out, _, _, rfl, HR4.out, HO4.out⟩
        · have hnx := next_some (l := l) (m := m) (by rw [HT.out]; exact hmT) h4 h5 fun c hc hE => by
            obtain ⟨x, hx, rfl⟩ := List.mem_map.1 hc
            obtain ⟨i, hi', rfl⟩ := List.getElem_of_mem hx
            exact h6 i hi' (by omega) hE
          have hstep : m < T.length ∧ T.take (m + 1) = T.take m ++ [a] := by
            obtain ⟨h1, h2⟩ := hnx
            have hlt : m < T.length := by rw [← HT.out]; exact h1
            refine ⟨hlt, ?_⟩
            rw [List.take_succ_eq_append_getElem hlt]
            congr 2
            rw [← h2]
            congr 1
            exact HT.out.symm
          have hmlt := hstep.1
          have HS := Lib.hid hstep.2
          have ho' := HO2.out
          clear HF h4 h5 h6 hnx hstep HO2 HR2 hl hr hln
          go_wp2_with (at_builtin; refine wpList_append_own _ rfl _ _ 52 rfl w.heap.size 23 i0 (.int .u64 0) 1 8 Tryz.underlying52 hi hz0 hz1 hz2 rfl (by decide) _ _ _ rfl (ho'.alloc _) ⟨wr.heap.size, 0, none⟩ 1 1 [.int .u64 a] rfl rfl ?c1 ?c2 ?c3 ?c4 ?c5 ?_)
          case c2 => rfl
          case c3 => have := HN.out; unfold maxLen; omega
          case c4 => have := HN.out; omega
          case c5 => omega
          intro v2 w2 own2' gr2 _
          have hb2 := Lib.hid ((HB.out.alloc (by omega) _).grown gr2 (by simp; omega) (fun g hg => (ho'.lt g hg).1))
          have HO3 : Hid (w2.ownsRow w.heap.size 23 1 v2 (m + 1) (labVals (T.take (m + 1)))) := by rw [HS.out, labVals_snoc]; exact own2'
          clear ho' own2' gr2 HS
          go_wp2_with fail
          go_roundg (G - 1)
          case rel => exact ⟨m + 1, by omega, by omega, hb2.out, HO3⟩
          case measure => omega
end Go.Proofs.YtfkkodcppaakjaaGreatDoor
/- tells: a policy tells what the document says of its viewers: by a walk over the contracts. -/
namespace Go.Proofs.YtfkkodcppaakjaaGreatDoor
open Go Go.RowKit

theorem clrV_two (l : List Vw) (s : List UInt8) : ∃ (y : Nat) (z : Int), clrV l s = .tuple #[.int .u64 y, .int .i64 z] := by
  unfold clrV
  cases look l s with
  | none => exact ⟨0, _, rfl⟩
  | some c => exact ⟨c, _, rfl⟩
set_option maxRecDepth 100000 in
set_option maxHeartbeats 4000000 in
theorem tells_any (w : World) (v : Value) (p : Option Addr) (n c a : Nat) (l : List Vw) (s : ByteArray) (hp : PolAt w v l) (hn : l.length = n) (hr : VwRow w p l) (hs : s.size ≤ maxLen) (ha : a < 18446744073709551616) (hT : BTab w) :
    Calls Tryz.prog 11 #[v, .slice p n c, .string s, .int .u64 a] w fun e w' => e = .returned (.bool true) ∧ Below w.heap.size w w' := by
  have hok := hp.ok
  have hlo := hp.lo
  have h64 : n ≤ 64 := by rw [← hn]; exact hok.1
  have HN := Lib.hid hn
  have HOK := Lib.hid hok
  have HLO := Lib.hid hlo
  have HP0 := Lib.hid hp
  have HR0 := Lib.hid hr
  have HT := Lib.hid hT
  obtain ⟨y, z, hyz⟩ := clrV_two l s.data.toList
  have c1 := clearance_any v l s w hp hs
  have c2 := prClearance_any w p n c l s hn (by omega) hr
  rw [hyz] at c1 c2
  clear hok hlo hn hp hr hT hyz
  go_enter Tryz.func11, Tryz.ntmps11
  go_wp2_with fail
  refine c1.mono ?_
  rintro e w' ⟨rfl, rfl⟩
  clear c1
  go_wp2_with fail
  refine c2.mono ?_
  rintro e w' ⟨rfl, rfl⟩
  have c3 := viewers_any v l w HP0.out
  clear c2
  go_wp2_with fail
  refine c3.mono ?_
  rintro e w1 ⟨hb1, p1, k1, rfl, hr1, _⟩
  have HP1 := Lib.hid (HP0.out.later hb1)
  have HR1 := Lib.hid (HR0.out.later hb1)
  have c4 := prSame_any w1 p1 p l.length k1 c l rfl (by have := HN.out; omega) hr1 HR1.out
  rw [HN.out] at c4 ⊢
  have HB1 := Lib.hid hb1
  clear c3 hb1 hr1 HP0 HR0
  go_wp2_with fail
  refine c4.mono ?_
  rintro e w2 ⟨rfl, hb2⟩
  have HP2 := Lib.hid (HP1.out.later hb2)
  have HR2 := Lib.hid (HR1.out.later hb2)
  have HB2 := Lib.hid (HB1.out.trans (hb2.mono HB1.out.size))
  have c5 := clearances_any v l w2 HP2.out
  clear c4 hb2 HP1 HR1 HB1
  go_wp2_with fail
  refine c5.mono ?_
  rintro e w3 ⟨hb3, p3, k3, rfl, hr3, _⟩
  have HP3 := Lib.hid (HP2.out.later hb3)
  have HR3 := Lib.hid (HR2.out.later hb3)
  have HB3 := Lib.hid (HB2.out.trans (hb3.mono HB2.out.size))
  have HL3 := Lib.hid hr3
  have c6 := prClearances_any w3 p n c l HN.out h64 HR3.out HLO.out
  clear c5 hb3 hr3 HP2 HR2 HB2
  go_wp2_with fail
  refine c6.mono ?_
  rintro e w4 ⟨hb4, p4, k4, rfl, hr4, _⟩
  have HP4 := Lib.hid (HP3.out.later hb4)
  have HR4 := Lib.hid (HR3.out.later hb4)
  have HB4 := Lib.hid (HB3.out.trans (hb4.mono HB3.out.size))
  have c7 := prSameLabels_any w4 p3 p4 (clrL l).length k3 k4 (clrL l) rfl (by have := clr_len l; have := HN.out; omega) (HL3.out.later hb4) hr4
  generalize (clrL l).length = nl at *
  clear c6 hb4 hr4 HP3 HR3 HB3 HL3
  go_wp2_with fail
  refine c7.mono ?_
  rintro e w5 ⟨rfl, hb5⟩
  have HP5 := Lib.hid (HP4.out.later hb5)
  have HR5 := Lib.hid (HR4.out.later hb5)
  have HB5 := Lib.hid (HB4.out.trans (hb5.mono HB4.out.size))
  have c8 := polBelow_any v l a w5 HP5.out ha
  clear c7 hb5 HP4 HR4 HB4
  go_wp2_with fail
  refine c8.mono ?_
  rintro e w6 ⟨hb6, p6, k6, rfl, hr6, _⟩
  have HP6 := Lib.hid (HP5.out.later hb6)
  have HR6 := Lib.hid (HR5.out.later hb6)
  have HB6 := Lib.hid (HB5.out.trans (hb6.mono HB5.out.size))
  have HL6 := Lib.hid hr6
  have c9 := prErase_any w6 p n c a l HN.out h64 HR6.out HLO.out ha
  have hnl : (names (l.filter fun x => belowB x.c a)).length = (l.filter fun x => belowB x.c a).length := by unfold names; rw [List.length_map]
  rw [hnl]
  have hfl : (l.filter fun x => belowB x.c a).length ≤ 64 := by
    have := List.length_filter_le (fun x : Vw => belowB x.c a) l
    have := HN.out
    omega
  have HNL := Lib.hid hnl
  clear c8 hb6 hr6 HP5 HR5 HB5 hnl
  go_wp2_with fail
  refine c9.mono ?_
  rintro e w7 ⟨hb7, p7, k7, rfl, hr7, _⟩
  have HP7 := Lib.hid (HP6.out.later hb7)
  have HR7 := Lib.hid (HR6.out.later hb7)
  have HB7 := Lib.hid (HB6.out.trans (hb7.mono HB6.out.size))
  have HL7 := Lib.hid (HL6.out.later hb7)
  have c10 := prNames_any w7 p7 _ k7 _ rfl hfl hr7
  clear c9 hb7 hr7 HP6 HR6 HB6 HL6
  go_wp2_with fail
  refine c10.mono ?_
  rintro e w8 ⟨hb8, p8, k8, rfl, hr8, _⟩
  have HP8 := Lib.hid (HP7.out.later hb8)
  have HR8 := Lib.hid (HR7.out.later hb8)
  have HB8 := Lib.hid (HB7.out.trans (hb8.mono HB7.out.size))
  have c11 := prSameTexts_any w8 p6 p8 _ k6 k8 (names (l.filter fun x => belowB x.c a)) HNL.out (by omega) (HL7.out.later hb8) hr8
  rw [HNL.out]
  generalize (l.filter fun x => belowB x.c a).length = nb at *
  clear c10 hb8 hr8 HP7 HR7 HB7 HL7 HNL hfl
  go_wp2_with fail
  refine c11.mono ?_
  rintro e w9 ⟨rfl, hb9⟩
  have HP9 := Lib.hid (HP8.out.later hb9)
  have HR9 := Lib.hid (HR8.out.later hb9)
  have HB9 := Lib.hid (HB8.out.trans (hb9.mono HB8.out.size))
  have c12 := polAbove_any v l a w9 HP9.out ha
  clear c11 hb9 HP8 HR8 HB8
  go_wp2_with fail
  refine c12.mono ?_
  rintro e w10 ⟨hb10, p10, k10, rfl, hr10, _⟩
  have HP10 := Lib.hid (HP9.out.later hb10)
  have HR10 := Lib.hid (HR9.out.later hb10)
  have HB10 := Lib.hid (HB9.out.trans (hb10.mono HB9.out.size))
  have HL10 := Lib.hid hr10
  have c13 := prAbove_any w10 p n c a l HN.out h64 HR10.out HLO.out ha
  have hfl : (names (l.filter fun x => belowB a x.c)).length ≤ 64 := by
    unfold names
    rw [List.length_map]
    have := List.length_filter_le (fun x : Vw => belowB a x.c) l
    have := HN.out
    omega
  clear c12 hb10 hr10 HP9 HR9 HB9
  go_wp2_with fail
  refine c13.mono ?_
  rintro e w11 ⟨hb11, p11, k11, rfl, hr11, _⟩
  have HP11 := Lib.hid (HP10.out.later hb11)
  have HR11 := Lib.hid (HR10.out.later hb11)
  have HB11 := Lib.hid (HB10.out.trans (hb11.mono HB10.out.size))
  have c14 := prSameTexts_any w11 p10 p11 _ k10 k11 (names (l.filter fun x => belowB a x.c)) rfl (by omega) (HL10.out.later hb11) hr11
  generalize (names (l.filter fun x => belowB a x.c)).length = na at *
  clear c13 hb11 hr11 HP10 HR10 HB10 HL10 hfl
  go_wp2_with fail
  refine c14.mono ?_
  rintro e w12 ⟨rfl, hb12⟩
  have HP12 := Lib.hid (HP11.out.later hb12)
  have HR12 := Lib.hid (HR11.out.later hb12)
  have HB12 := Lib.hid (HB11.out.trans (hb12.mono HB11.out.size))
  have c15 := print_any v l w12 HP12.out (HT.out.below HB12.out)
  clear c14 hb12 HP11 HR11 HB11
  go_wp2_with fail
  refine c15.mono ?_
  rintro e w13 ⟨rfl, hb13⟩
  have HR13 := Lib.hid (HR12.out.later hb13)
  have HB13 := Lib.hid (HB12.out.trans (hb13.mono HB12.out.size))
  have c16 := prPrint_any w13 p n c l HN.out HR13.out HLO.out HOK.out
  clear c15 hb13 HP12 HR12 HB12
  generalize bs (printL l) = tx at *
  go_wp2_with fail
  refine c16.mono ?_
  rintro e w14 ⟨rfl, hb14⟩
  have HB14 := Lib.hid (HB13.out.trans (hb14.mono HB13.out.size))
  clear c16 hb14 HR13 HB13
  go_wp2_with fail
  go_ret
  exact ⟨rfl, HB14.out⟩
end Go.Proofs.YtfkkodcppaakjaaGreatDoor
/- PolicyReads, by a walk over the contracts. -/
namespace Go.Proofs.YtfkkodcppaakjaaGreatDoor
open Go Go.RowKit

set_option maxRecDepth 100000 in
set_option maxHeartbeats 4000000 in
theorem policyReads_any (w : World) (s t : ByteArray) (a : Nat) (hs : s.size ≤ 1048576) (ht : t.size ≤ maxLen) (ha : a < 18446744073709551616) (hM : MaxS w) (hT : BTab w) (hE : EvW w) :
    Calls Tryz.prog 3 #[.string s, .string t, .int .u64 a] w fun e w' => e = .returned (.bool true) ∧ Below w.heap.size w w' := by
  have c1 := parse_pol s w (by omega) hM hT hE
  have HT := Lib.hid hT
  have HTT := Lib.hid ht
  clear hM hT hE ht
  go_enter Tryz.func3, Tryz.ntmps3
  go_wp2_with fail
  refine c1.mono ?_
  rintro e w1 ⟨hb1, ⟨p, l, rfl, hp, hsp⟩ | ⟨hno, rfl⟩⟩
  · have c2 := prParse_any s w1 hs
    have HP := Lib.hid hp
    have HS := Lib.hid hsp
    have HB := Lib.hid hb1
    clear c1 hp hsp hb1
    go_wp2_with fail
    refine c2.mono ?_
    rintro e w2 ⟨hb2, ⟨q, c, l', rfl, hr, hsp'⟩ | ⟨hno, rfl⟩⟩
    · have hl : l' = l := spells_one hsp' HS.out
      subst hl
      have hb := HB.out.trans (hb2.mono HB.out.size)
      have c3 := tells_any w2 (.pointer (some p)) q l'.length c a l' t (HP.out.later hb2) rfl hr HTT.out ha (HT.out.below hb)
      have HB2 := Lib.hid hb
      obtain ⟨n, hn⟩ : ∃ n, l'.length = n := ⟨_, rfl⟩
      rw [hn] at c3 ⊢
      clear c2 hb2 hr hsp' hb hn
      go_wp2_with fail
      refine c3.mono ?_
      rintro e w3 ⟨rfl, hb3⟩
      have HB3 := Lib.hid (HB2.out.trans (hb3.mono HB2.out.size))
      clear c3 hb3
      go_wp2_with fail
      go_ret
      exact ⟨rfl, HB3.out⟩
    · exact absurd ⟨l, HS.out⟩ hno
  · have c2 := prParse_any s w1 hs
    have HN := Lib.hid hno
    have HB := Lib.hid hb1
    clear c1 hno hb1
    go_wp2_with fail
    refine c2.mono ?_
    rintro e w2 ⟨hb2, ⟨q, c, l', rfl, hr, hsp'⟩ | ⟨hno, rfl⟩⟩
    · exact absurd ⟨l', hsp'⟩ HN.out
    · have HB2 := Lib.hid (HB.out.trans (hb2.mono HB.out.size))
      clear c2 hb2 hno
      go_wp2_with fail
      go_ret
      exact ⟨rfl, HB2.out⟩
end Go.Proofs.YtfkkodcppaakjaaGreatDoor
/- A law's frame, of whatever program: where the call returns true and nothing that was there has turned, the row's post holds. -/
namespace Go.Proofs.YtfkkodcppaakjaaGreatDoor
open Go Go.RowKit Go.ChangeShapes Go.WideShapes Go.ChangeAt

section
variable {H : Type} {enc : TypeId × Value → H} {P : Program}

/-- One closed fact: each type can be read and is a row of the table. -/
def typesRead (P : Program) (ts : List TypeId) : Bool := ts.all fun t => P.readableRec t && decide (t < P.types.size)

theorem below_trodAll (hl : laidOutB P = true) {W W' : World} (hb : Below W.heap.size W W') :
    ∀ {ts : List TypeId} {vs : List Value} {ds : List (DataW H)} {ps : List MemPlace}, typesRead P ts = true → DataW.TrodAll enc P W 0 (fun _ => true) true ts vs ds ps →
      DataW.TrodAll enc P W' 0 (fun b => decide (b < W.heap.size)) true ts vs ds ps
  | [], [], [], _, _, h => h
  | [], [], _ :: _, _, _, h => h.elim
  | [], _ :: _, _, _, _, h => h.elim
  | _ :: _, [], _, _, _, h => h.elim
  | _ :: _, _ :: _, [], _, _, h => h.elim
  | t :: ts, v :: vs, d :: ds, ps, hr, h => by
    obtain ⟨p, q, h1, h2, e⟩ := h
    simp only [typesRead, List.all_cons, Bool.and_eq_true] at hr
    have hlt : ∀ x ∈ p, x.block < W.heap.size := by obtain ⟨m, hm⟩ := h1; exact DataW.trod_lt m _ _ _ hm
    exact ⟨p, q, Below.trod hl hr.1.1 (of_decide_eq_true hr.1.2) h1 hb hlt, below_trodAll hl hb (by simpa [typesRead] using hr.2) h2, e⟩

theorem trodAll_len {W : World} {b : Nat} {sp : Nat → Bool} {hd : Bool} : ∀ {ts : List TypeId} {vs : List Value} {ds : List (DataW H)} {ps : List MemPlace}, DataW.TrodAll enc P W b sp hd ts vs ds ps → ds.length = ts.length
  | [], [], [], _, _ => rfl
  | [], [], _ :: _, _, h => h.elim
  | [], _ :: _, _, _, h => h.elim
  | _ :: _, [], _, _, h => h.elim
  | _ :: _, _ :: _, [], _, h => h.elim
  | _ :: _, _ :: _, _ :: _, _, h => by
    obtain ⟨_, _, _, h2, _⟩ := h
    simp only [List.length_cons, trodAll_len h2]

theorem trodAll_nil' {W : World} {b : Nat} {sp : Nat → Bool} {hd : Bool} {args : Array Value} {ds : List (DataW H)} {ps : List MemPlace} (h : DataW.TrodAll enc P W b sp hd [] args.toList ds ps) : args = #[] ∧ ds = [] ∧ ps = [] := by
  obtain ⟨h1, h2, h3⟩ := trodAll_nil h
  exact ⟨by cases args; simp_all, by assumption, by assumption⟩

/-- What a law's specification says, as one closed fact for its number of parameters. -/
def LawSpec (s : ChangeSpec) (n : Nat) : Prop := s.vars = [] ∧ ∀ (H : Type) (ds : List (DataW H)), ds.length = n → (s.fn H ds).results = [.lit (.bool true)] ∧ (s.fn H ds).args = ds ∧ (s.fn H ds).vars = []

theorem law_post (hl : laidOutB P = true) {f : Func} {s : ChangeSpec} {tb : TypeId} (hread : typesRead P f.params.toList = true) (hres : f.resultTypes = #[tb]) (hbool : P.underlying tb = some .bool)
    (hs : LawSpec s f.params.toList.length) {W W' : World} {args : Array Value} {ds gs : List (DataW H)} {before : List MemPlace}
    (hW : DataW.Whole enc P f.params.toList s.vars false W args.toList ds gs before) (bel : Below W.heap.size W W') :
    s.post enc P f false true false false W args (.bool true) W' := by
  have hW' := hW
  obtain ⟨p, q, hA, hV, rfl, hfz, hnd⟩ := hW
  have hn := trodAll_len hA
  obtain ⟨hs1, hs2⟩ := hs
  rw [hs1] at hV
  obtain ⟨rfl, rfl⟩ := trodVars_none hV
  obtain ⟨e1, e2, e3⟩ := hs2 H ds hn
  refine ⟨ds, [], _, [], p, [], hW', ?_, ?_, ?_, bel.frame _, fun h => by cases h⟩
  · rw [List.append_nil, e1, hres]
    exact trodAll_mk1 (shut_bool hbool _)
  · rw [List.append_nil, e2]
    exact below_trodAll hl bel hread hA
  · rw [List.append_nil, e3, hs1]
    rfl
end
end Go.Proofs.YtfkkodcppaakjaaGreatDoor
/- A number of 64 bits that came in. -/
namespace Go.Proofs.YtfkkodcppaakjaaGreatDoor
open Go Go.ChangeShapes Go.WideShapes Go.RowKit
theorem u64_nat {n : Int} (h : (Lit.int .u64 n).wf = true) : ∃ a : Nat, n = (a : Int) ∧ a < 18446744073709551616 := by
  simp [Lit.wf, IntKind.min, IntKind.max, IntKind.signed, IntKind.bits] at h
  exact ⟨n.toNat, by omega, by omega⟩
end Go.Proofs.YtfkkodcppaakjaaGreatDoor
/- A list of numbers that came in, opened. -/
namespace Go.Proofs.YtfkkodcppaakjaaGreatDoor
open Go Go.ChangeShapes Go.WideShapes Go.RowKit

theorem lits_len {H : Type} (k : IntKind) (zs : List Int) : (lits k zs : List (DataW H)).length = zs.length := by simp [lits]
theorem open_nums {H : Type} {enc : TypeId × Value → H} {P : Program} {W : World} {base : Nat} {k : IntKind} {t el : TypeId} {v : Value} {d : DataW H} {ps : List MemPlace} (ht : P.underlying t = some (.slice el)) (he : P.underlying el = some (.int k)) (hc : P.cellsOf el = 1) (hv : Value.okWide P W .any base t v)
    (h : DataW.Trod enc P W 0 (fun _ => true) true t v d ps) :
    ∃ (p : Option Addr) (n c : Nat) (xs : List Int), v = .slice p n c ∧ xs.length = n ∧ NumRow k W p xs ∧ (p = none → n = 0 ∧ c = 0) ∧ (∀ x ∈ xs, (Lit.int k x).wf = true) ∧ (n = 0 ∨ ∃ elems spare, d = .slice elems spare ∧ elems.length = n) := by
  obtain ⟨a0, n0, c0, rfl⟩ := okWide_slice ht hv
  obtain ⟨fuel, hf⟩ := h
  rcases Go.ChangeShapes.open_ints ht he hc hf with ⟨hcs, _⟩ | ⟨a, len, cap, zs, hcs, _, hl, _, hlen, hx, hcell, hwf⟩
  · simp [Value.cells] at hcs
    obtain ⟨rfl, rfl, rfl⟩ := hcs
    exact ⟨none, 0, 0, [], rfl, rfl, fun i hi => absurd hi (Nat.not_lt_zero _), fun _ => ⟨rfl, rfl⟩, fun x hx => (by cases hx), .inl rfl⟩
  · simp [Value.cells] at hcs
    obtain ⟨rfl, rfl, rfl⟩ := hcs
    simp only [if_true] at hlen
    simp only [Prod.mk.injEq] at hx
    have htl : (zs.take n0).length = n0 := by rw [List.length_take]; omega
    refine ⟨some a, n0, c0, zs.take n0, rfl, htl, ?_, (fun e => by cases e), fun x hx' => hwf x (List.mem_of_mem_take hx'), .inr ⟨_, _, hx.1, by rw [lits_len, htl]⟩⟩
    intro i hi
    obtain ⟨b, off, rfl, hat⟩ := ints_at hcell (by omega)
    have hi2 : i < zs.length := by omega
    have hcl := hat i hi2
    rw [List.getD_eq_getElem?_getD, List.getElem?_eq_getElem hi2] at hcl
    refine ⟨b, off, rfl, ?_, by rw [hcl, List.getElem_take]; rfl⟩
    have := World.block_lt_of_cell? W _ hcl
    exact this
end Go.Proofs.YtfkkodcppaakjaaGreatDoor
/- What a row's listed variables give the walks: the library's table for counting zeros. -/
namespace Go.Proofs.YtfkkodcppaakjaaGreatDoor
open Go.RowKit

theorem bt_data : (Rows.laid_math_bits_deBruijn64tab : DataW Unit) = Lib.tabData .u8 (Lib.deBruijn64tab.map fun n : Nat => (n : Int)) := by kernel_rfl
theorem gBtType : (Tryz.prog.globals[1]?).map (·.type) = some 221 := by kernel_rfl

/-- Out of whatever list that has the table. -/
theorem btab_of {W : World} {l : List (String × DataW Unit)} (hl : (l.filter fun x => x.1 == "math/bits.deBruijn64tab") = [("math/bits.deBruijn64tab", Rows.laid_math_bits_deBruijn64tab)]) (h : laidMetH Tryz.prog l W) : BTab W := by
  have h1 := h.filter (fun x => x.1 == "math/bits.deBruijn64tab")
  rw [hl, bt_data, MakeChecks.laidMetH_plain _ _ _ (by kernel_rfl)] at h1
  exact Lib.tabIs_of_head (rest := []) gBt gBtType Tryz.underlying221 Tryz.underlying5 (by kernel_rfl) (by kernel_rfl) h1
end Go.Proofs.YtfkkodcppaakjaaGreatDoor
/- What a row's listed variables give: strconv's two errors are values of the interface. -/
namespace Go.Proofs.YtfkkodcppaakjaaGreatDoor
open Go.RowKit

theorem iface_of_trod {H : Type} {enc : TypeId × Value → H} {P : Program} {w : World} {base : Nat} {spare : Nat → Bool} {held : Bool} {fuel : Nat} {t : TypeId} {cs : List Value} {x : DataW H × List MemPlace} {ms}
    (ht : P.underlying t = some (.interface ms)) (h : DataW.trod enc P w base spare held fuel t cs = some x) : cs = [.nilIface] ∨ ∃ u v, cs = [.iface u v] := by
  cases fuel with
  | zero => simp [DataW.trod] at h
  | succ n =>
    unfold DataW.trod at h
    rw [ht] at h
    split at h <;> simp_all

theorem ev_of_head {W : World} {name : String} {d : DataW Unit} {g : Nat} {t : TypeId} {ms} (hg : Tryz.prog.globalNamed name = some g) (hty : (Tryz.prog.globals[g]?).map (·.type) = some t) (ht : Tryz.prog.underlying t = some (.interface ms))
    (h : laidMet Tryz.prog [(name, d)] W) : EvAt g W := by
  obtain ⟨ps, ⟨g', t', cs, fuel, p, q, hg', ht', hvar, hd, _, _⟩, _⟩ := h
  obtain rfl := Option.some.inj (hg.symm.trans hg')
  obtain rfl := Option.some.inj (hty.symm.trans ht')
  have hc := World.var?_cell hg hvar 0
  rcases iface_of_trod ht hd with h1 | ⟨u, v, h1⟩
  · exact ⟨.nilIface, by rw [hc, ← Array.getElem?_toList, h1]; rfl, Or.inl rfl⟩
  · exact ⟨.iface u v, by rw [hc, ← Array.getElem?_toList, h1]; rfl, Or.inr ⟨u, v, rfl⟩⟩

theorem gEs : Tryz.prog.globalNamed "strconv.ErrSyntax" = some 2 := by kernel_rfl
theorem gEsT : (Tryz.prog.globals[2]?).map (·.type) = some 158 := by kernel_rfl
theorem gEr : Tryz.prog.globalNamed "strconv.ErrRange" = some 3 := by kernel_rfl
theorem gErT : (Tryz.prog.globals[3]?).map (·.type) = some 158 := by kernel_rfl

/-- Out of whatever list that has the two. -/
theorem evw_of {W : World} {l : List (String × DataW Unit)} (hs : (l.filter fun x => x.1 == "strconv.ErrSyntax") = [("strconv.ErrSyntax", Rows.laid_strconv_ErrSyntax)]) (hr : (l.filter fun x => x.1 == "strconv.ErrRange") = [("strconv.ErrRange", Rows.laid_strconv_ErrRange)]) (h : laidMetH Tryz.prog l W) : EvW W := by
  have h1 := h.filter (fun x => x.1 == "strconv.ErrSyntax")
  have h2 := h.filter (fun x => x.1 == "strconv.ErrRange")
  rw [hs, MakeChecks.laidMetH_plain _ _ _ (by kernel_rfl)] at h1
  rw [hr, MakeChecks.laidMetH_plain _ _ _ (by kernel_rfl)] at h2
  exact ⟨ev_of_head gEs gEsT Tryz.underlying158 h1, ev_of_head gEr gErT Tryz.underlying158 h2⟩
end Go.Proofs.YtfkkodcppaakjaaGreatDoor
