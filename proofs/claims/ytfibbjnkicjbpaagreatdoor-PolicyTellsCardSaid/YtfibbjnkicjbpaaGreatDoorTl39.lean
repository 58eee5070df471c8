/- Texts of the proof, merged: RegOrd, PrPrint. -/
import Derived.Test.YtfibbjnkicjbpaaGreatDoorTl28
import Derived.Test.YtfibbjnkicjbpaaGreatDoorTl38
import Derived.Deep.RegionHeld3
import Derived.RowKit
/- A region that draws its order, walked once, in an order that is told: what yields in every world that meets S is taken first; a call is taken when nothing else may come up. No program. -/
namespace Go.Proofs.YtfibbjnkicjbpaaGreatDoor
open Go Go.RowKit

section
variable {P : Program} {l : List Oper} {Q : Exit → Act → World → Prop} {S : World → Prop}

/-- The operation at a place. -/
def opL : List Oper → Nat → Option Oper
  | [], _ => none
  | o :: _, 0 => some o
  | _ :: r, n + 1 => opL r n
theorem opL_get : ∀ (l : List Oper) (i : Nat), opL l i = l[i]?
  | [], i => by simp [opL]
  | o :: r, 0 => by simp [opL]
  | o :: r, n + 1 => by rw [opL, opL_get r n]; simp
/-- The walk in the order that is told. -/
def wpOrd (P : Program) (l : List Oper) (Q : Exit → Act → World → Prop) (S : World → Prop) : List (Nat × Bool) → Act → World → Prop
  | [], a, w => Q .normal a w
  | (i, true) :: r, a, w => ∃ o v, opL l i = some o ∧ YieldsIf P l.toArray S o v a ∧ wpOrd P l Q S r (a.put o.dst v) w
  | (i, false) :: r, a, w => ∃ o, opL l i = some o ∧ ∀ K : Act → World → Prop, Shut (∀ a' w', S w' → (S w' → wpOrd P l Q S r a' w') → K a' w') → if Region.wanted o (yielded l.toArray a.tmps) = true then Oper.wp P o a w K Q else K (a.put o.dst undef) w
/-- May the order be so? -/
def ordB (l : List Oper) : List (Nat × Bool) → Array Bool → Bool
  | [], listed => (Region.ready .any l.toArray listed).isEmpty
  | (i, true) :: r, listed => Region.free .any l.toArray listed i && (Region.ready .any l.toArray listed).contains i && ordB l r (listed.setIfInBounds i true)
  | (i, false) :: r, listed => decide (Region.ready .any l.toArray listed = [i]) && ordB l r (listed.setIfInBounds i true)

theorem ord_any (hs : Region.noSelect l.toArray = true) (hQ : ∀ c (a : Act) d v w, Q (.panic c) (a.put d v) w → Q (.panic c) a w) : ∀ (ord : List (Nat × Bool)) (listed : Array Bool) (a : Act) (w : World),
    ordB l ord listed = true → S w → wpOrd P l Q S ord a w → wpAnyH P .any l.toArray Q S ord.length listed a w
  | [], listed, a, w, hB, _, h => wpAnyH_done (by simpa [ordB] using hB) h _
  | (i, true) :: r, listed, a, w, hB, hS, h => by
    simp only [ordB, Bool.and_eq_true] at hB
    obtain ⟨⟨hf, hr⟩, hB'⟩ := hB
    obtain ⟨o, v, ho, hy, hr'⟩ := h
    have hi : l.toArray[i]? = some o := by rw [List.getElem?_toArray, ← opL_get]; exact ho
    exact wpAnyH_take hi hs hf hr (fun c a w h => hQ c a _ _ w h) hy hS (ord_any hs hQ r _ _ _ hB' hS hr')
  | (i, false) :: r, listed, a, w, hB, hS, h => by
    simp only [ordB, Bool.and_eq_true, decide_eq_true_eq] at hB
    obtain ⟨hr, hB'⟩ := hB
    obtain ⟨o, ho, h⟩ := h
    have hi : l.toArray[i]? = some o := by rw [List.getElem?_toArray, ← opL_get]; exact ho
    refine wpAnyH_ready hr (by simp) (AllReadyH.cons hi (fun K hK => h K ?_) AllReadyH.nil)
    exact fun a' w' hS' hw' => hK.out a' w' hS' (fun hS'' => ord_any hs hQ r _ _ _ hB' hS'' (hw' hS''))
/-- The region, in the order that is told. (That nothing panics is shown on the way.) -/
theorem region_ord (S : World → Prop) (ord : List (Nat × Bool)) {id : Nat} {a : Act} {w : World} (hm : P.follows .mixedOrders = true) (hs : Region.noSelect l.toArray = true) (hlen : ord.length = l.length) (hB : ordB l ord (Array.replicate l.length false) = true)
    (hS : S w.drew) (h : wpOrd P l (NoPanic Q) S ord a w.drew) : (Code.region id l.toArray true).wp P Q a w := by
  refine wp_region_noPanic (wp_region_held_drew hm hS fun hS' => ?_)
  have := ord_any hs (fun _ _ _ _ _ h => h) ord (Array.replicate l.length false) a w.drew hB hS' h
  rw [hlen] at this
  simpa using this
theorem ord_take {i : Nat} {r : List (Nat × Bool)} {a : Act} {w : World} {o : Oper} {v : Value} (ho : opL l i = some o) (hw : Region.wanted o (yielded l.toArray a.tmps) = true) (hv : ∀ w, S w → (execOp a.eval o).run P w = .ok (.value v) w) (h : wpOrd P l Q S r (a.put o.dst v) w) : wpOrd P l Q S ((i, true) :: r) a w :=
  ⟨o, v, ho, .inl ⟨hw, hv⟩, h⟩
theorem ord_skip {i : Nat} {r : List (Nat × Bool)} {a : Act} {w : World} {o : Oper} (ho : opL l i = some o) (hw : Region.wanted o (yielded l.toArray a.tmps) = false) (h : wpOrd P l Q S r (a.put o.dst undef) w) : wpOrd P l Q S ((i, true) :: r) a w :=
  ⟨o, undef, ho, .inr ⟨hw, rfl⟩, h⟩
theorem ord_call {i : Nat} {r : List (Nat × Bool)} {a : Act} {w : World} {o : Oper} (ho : opL l i = some o) (hw : Region.wanted o (yielded l.toArray a.tmps) = true) (h : ∀ K : Act → World → Prop, Shut (∀ a' w', S w' → (S w' → wpOrd P l Q S r a' w') → K a' w') → Oper.wp P o a w K Q) : wpOrd P l Q S ((i, false) :: r) a w :=
  ⟨o, ho, fun K hK => by rw [if_pos hw]; exact h K hK⟩
theorem ord_end {a : Act} {w : World} (h : Q .normal a w) : wpOrd P l (NoPanic Q) S [] a w := NoPanic.normal h
end
end Go.Proofs.YtfibbjnkicjbpaaGreatDoor
/- The document's Print of chapter 3, by its contract. -/
namespace Go.Proofs.YtfibbjnkicjbpaaGreatDoor
open Go Go.RowKit

theorem print_snoc {l : List Vw} {k : Nat} (hk : k < l.length) : printL (l.take (k + 1)) = printL (l.take k) ++ l[k].s ++ [32] ++ textN l[k].c ++ [10] := by
  rw [List.take_succ_eq_append_getElem hk]
  unfold printL
  rw [List.map_append]
  simp [joinL, lineOf]
theorem okL_take {l : List Vw} (h : okL l) (k : Nat) : okL (l.take k) := ⟨by rw [List.length_take]; have := h.1; omega, by
  have hs : (names (l.take k)).Sublist (names l) := (List.take_sublist k l).map _
  exact List.Pairwise.sublist hs h.2.1, fun x hx => h.2.2 x (List.mem_of_mem_take hx)⟩
set_option maxRecDepth 100000 in
set_option maxHeartbeats 2000000 in
theorem prPrint_any (w : World) (p : Option Addr) (n c : Nat) (l : List Vw) (hn : l.length = n) (hr : VwRow w p l) (hl : Lo64 l) (hok : okL l) :
    Calls Tryz.prog 40 #[.slice p n c] w fun e w' => e = .returned (.string (bs (printL l))) ∧ Below w.heap.size w w' := by
  have HN := Lib.hid hn
  have h64 : n ≤ 64 := by rw [← hn]; exact hok.1
  have HOK := Lib.hid hok
  clear hn hok
  go_enter Tryz.func40, Tryz.ntmps40
  go_wp2_with fail
  go_loopg [3, 4] n (fun g s i wr => ∃ k : Nat, k + g = n ∧ i = .int .i64 k ∧ s = .string (bs (printL (l.take k))) ∧ Below w.heap.size w wr)
  case atStart => exact ⟨0, by omega, rfl, rfl, Below.refl _ _⟩
  case round =>
    obtain ⟨k, hk, rfl, rfl, hbr⟩ := hrel
    have hk0 : (0 : Int) ≤ (k : Int) := by omega
    by_cases hlt : k < n
    · have hlt' : k < l.length := by rw [HN.out]; exact hlt
      obtain ⟨b1, o1, rfl, hb1, h1c⟩ := hr.at k hlt'
      have hps := print_snoc hlt'
      have hpl := print_le (okL_take HOK.out k)
      have hx := hl _ (List.getElem_mem hlt')
      have hnl := name_le (HOK.out.2.2 _ (List.getElem_mem hlt'))
      generalize l[k] = x at *
      have htl := text_le x.c
      have cT := fun W => prText_any x.c W hx
      have had1 : ∀ W : World, (Op.stringOp .add (bs (printL (l.take k))) (bs x.s)).run Tryz.prog W = .ok (.string (bs (printL (l.take k) ++ x.s))) W := fun W => by
        have := run_string_add_sum (P := Tryz.prog) W (bs (printL (l.take k))) (bs x.s) (by rw [bs_size, bs_size]; omega)
        rwa [bs_add] at this
      have had2 : ∀ W : World, (Op.stringOp .add (bs (printL (l.take k) ++ x.s)) ⟨#[32]⟩).run Tryz.prog W = .ok (.string (bs (printL (l.take k) ++ x.s ++ [32]))) W := fun W => by
        have := run_string_add_sum (P := Tryz.prog) W (bs (printL (l.take k) ++ x.s)) (bs [32]) (by rw [bs_size, bs_size]; simp; omega)
        rwa [bs_add] at this
      have had3 : ∀ W : World, (Op.stringOp .add (bs (printL (l.take k) ++ x.s ++ [32])) (bs (textN x.c))).run Tryz.prog W = .ok (.string (bs (printL (l.take k) ++ x.s ++ [32] ++ textN x.c))) W := fun W => by
        have := run_string_add_sum (P := Tryz.prog) W (bs (printL (l.take k) ++ x.s ++ [32])) (bs (textN x.c)) (by rw [bs_size, bs_size]; simp; omega)
        rwa [bs_add] at this
      have had4 : ∀ W : World, (Op.stringOp .add (bs (printL (l.take k) ++ x.s ++ [32] ++ textN x.c)) ⟨#[10]⟩).run Tryz.prog W = .ok (.string (bs (printL (l.take (k + 1))))) W := fun W => by
        have := run_string_add_sum (P := Tryz.prog) W (bs (printL (l.take k) ++ x.s ++ [32] ++ textN x.c)) (bs [10]) (by rw [bs_size, bs_size]; simp; omega)
        rw [bs_add, ← hps] at this
        exact this
      obtain ⟨e5, he5⟩ : ∃ e, bs (printL (l.take (k + 1))) = e := ⟨_, rfl⟩
      rw [he5] at had4
      have HE5 := Lib.hid he5
      clear he5 hps hpl hnl htl hl hr HOK
      have hkI : (k : Int) < (n : Int) := by omega
      generalize bs (printL (l.take k) ++ x.s ++ [32] ++ textN x.c) = e4 at *
      generalize bs (printL (l.take k) ++ x.s ++ [32]) = e3 at *
      generalize bs (printL (l.take k) ++ x.s) = e2 at *
      generalize bs (printL (l.take k)) = e1 at *
      generalize bs (textN x.c) = et at *
      have hwsz : w.heap.size ≤ wr.heap.size := hbr.size
      have hS : (fun W : World => W.cell? ⟨b1, o1 + k * 2, none⟩ = some (.string (bs x.s)) ∧ W.cell? ⟨b1, o1 + k * 2 + 1, none⟩ = some (.int .u64 x.c) ∧ Hid (Below w.heap.size w W)) wr.drew := by
        obtain ⟨g1, g2⟩ := h1c _ (Below.drew hbr)
        exact ⟨g1, g2, Below.drew hbr⟩
      have HC := Lib.hid h1c
      have HCT := Lib.hid cT
      clear h1c hbr cT
      go_wp2_with fail
      refine region_ord (fun W : World => W.cell? ⟨b1, o1 + k * 2, none⟩ = some (.string (bs x.s)) ∧ W.cell? ⟨b1, o1 + k * 2 + 1, none⟩ = some (.int .u64 x.c) ∧ Hid (Below w.heap.size w W)) [(0, true), (1, true), (2, true), (3, true), (4, true), (5, true), (6, true), (7, true), (8, true), (9, true), (10, true), (11, true), (12, true), (13, false), (14, true), (15, true), (16, true)] (by kernel_rfl) (by kernel_rfl) (by kernel_rfl) (by kernel_rfl) hS ?_
      have HS := Lib.hid hS
      clear hS
      iterate 13 (refine ord_take (v := ?_) rfl (by rfl) ?_ ?_; rotate_left; (focus (intro w hSw; (try dsimp only at hSw); go_simp; (try with_reducible rfl); done)); (try simp (maxSteps := 10000000) only [Act.put, List.setIfInBounds_toArray, List.set_cons_zero, List.set_cons_succ]))
      refine ord_call rfl (by rfl) (fun K hK => ?_)
      go_simp
      refine (HCT.out _).mono ?_
      rintro e u1 ⟨rfl, hb1'⟩
      have hbu := HS.out.2.2.out.trans (hb1'.mono HS.out.2.2.out.size)
      have S1 : Hid (u1.cell? ⟨b1, o1 + k * 2, none⟩ = some (.string (bs x.s)) ∧ u1.cell? ⟨b1, o1 + k * 2 + 1, none⟩ = some (.int .u64 x.c) ∧ Hid (Below w.heap.size w u1)) := by
        obtain ⟨g1, g2⟩ := HC.out _ hbu
        exact ⟨g1, g2, hbu⟩
      clear hb1' hbu HS
      go_wp2_with fail
      refine hK.out _ _ S1.out (fun _ => ?_)
      clear hK
      (try simp (maxSteps := 10000000) only [Act.put, List.setIfInBounds_toArray, List.set_cons_zero, List.set_cons_succ])
      iterate 3 (refine ord_take (v := ?_) rfl (by rfl) ?_ ?_; rotate_left; (focus (intro w hSw; (try dsimp only at hSw); go_simp; (try with_reducible rfl); done)); (try simp (maxSteps := 10000000) only [Act.put, List.setIfInBounds_toArray, List.set_cons_zero, List.set_cons_succ]))
      refine ord_end ?_
      have HB := Lib.hid S1.out.2.2.out
      go_wp2_with fail
      go_roundg (gk - 1)
      case rel => exact ⟨k + 1, by omega, by go_num, by rw [HE5.out], HB.out⟩
      case measure => omega
    · obtain rfl : k = n := by omega
      have hall : l.take k = l := by rw [← HN.out]; exact List.take_length
      rw [hall]
      have HB := Lib.hid hbr
      have hkI : ¬ ((k : Int) < (k : Int)) := by omega
      clear hbr hall hl hr HOK
      go_wp2_with fail
      go_ret
      exact ⟨rfl, HB.out⟩
end Go.Proofs.YtfibbjnkicjbpaaGreatDoor
