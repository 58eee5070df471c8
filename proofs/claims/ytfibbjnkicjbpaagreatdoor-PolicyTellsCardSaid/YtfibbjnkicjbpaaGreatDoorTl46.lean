/- Texts of the proof, merged: Frame, LbOpen, PrOpen, LbLaid. -/
import Derived.Test.YtfibbjnkicjbpaaGreatDoorTl24
import Derived.Test.YtfibbjnkicjbpaaGreatDoorTl41
import Derived.Test.YtfibbjnkicjbpaaGreatDoorTl45
import Derived.OpenVars
import Derived.ProofKit
import Derived.SizedLaws
import Derived.OpenShut
import Derived.Lib.SmallJoins
import Derived.Test.YtfibbjnkicjbpaaGreatDoorRows
import Derived.Lib.LaidTab
import Derived.LaidSub
import Derived.LaidMore
import Derived.MakeChecks
import Derived.Deep.DeepHandedRow
/- A law's frame, of whatever program: where the call returns true and nothing that was there has turned, the row's post holds. -/
namespace Go.Proofs.YtfibbjnkicjbpaaGreatDoor
open Go Go.RowKit Go.ChangeShapes Go.WideShapes Go.ChangeAt

section
variable {H : Type} {enc : TypeId × Value → H} {P : Program}

/-- One closed fact: each type can be read and is a row of the table. -/
def typesRead (P : Program) (ts : List TypeId) : Bool := ts.all fun t => P.readableRec t && decide (t < P.types.size)

theorem below_trodAll (hl : laidOutB P = true) {W W' : World} (hb : Below W.heap.size W W') :
    ∀ {ts : List TypeId} {vs : List Value} {ds : List (DataW H)} {ps : List MemPlace}, typesRead P ts = true → DataW.TrodAll enc P W 0 (fun _ => true) true ts vs ds ps →
      DataW.TrodAll enc P W' 0 (fun b => decide (b < W.heap.size)) true ts vs ds ps
  | [], [], [], _, _, h => h
  | [], [], _ :: _, _, _, h => h.elim
  | [], _ :: _, _, _, _, h => h.elim
  | _ :: _, [], _, _, _, h => h.elim
  | _ :: _, _ :: _, [], _, _, h => h.elim
  | t :: ts, v :: vs, d :: ds, ps, hr, h => by
    obtain ⟨p, q, h1, h2, e⟩ := h
    simp only [typesRead, List.all_cons, Bool.and_eq_true] at hr
    have hlt : ∀ x ∈ p, x.block < W.heap.size := by obtain ⟨m, hm⟩ := h1; exact DataW.trod_lt m _ _ _ hm
    exact ⟨p, q, Below.trod hl hr.1.1 (of_decide_eq_true hr.1.2) h1 hb hlt, below_trodAll hl hb (by simpa [typesRead] using hr.2) h2, e⟩

theorem trodAll_len {W : World} {b : Nat} {sp : Nat → Bool} {hd : Bool} : ∀ {ts : List TypeId} {vs : List Value} {ds : List (DataW H)} {ps : List MemPlace}, DataW.TrodAll enc P W b sp hd ts vs ds ps → ds.length = ts.length
  | [], [], [], _, _ => rfl
  | [], [], _ :: _, _, h => h.elim
  | [], _ :: _, _, _, h => h.elim
  | _ :: _, [], _, _, h => h.elim
  | _ :: _, _ :: _, [], _, h => h.elim
  | _ :: _, _ :: _, _ :: _, _, h => by
    obtain ⟨_, _, _, h2, _⟩ := h
    simp only [List.length_cons, trodAll_len h2]

theorem trodAll_nil' {W : World} {b : Nat} {sp : Nat → Bool} {hd : Bool} {args : Array Value} {ds : List (DataW H)} {ps : List MemPlace} (h : DataW.TrodAll enc P W b sp hd [] args.toList ds ps) : args = #[] ∧ ds = [] ∧ ps = [] := by
  obtain ⟨h1, h2, h3⟩ := trodAll_nil h
  exact ⟨by cases args; simp_all, by assumption, by assumption⟩

/-- What a law's specification says, as one closed fact for its number of parameters. -/
def LawSpec (s : ChangeSpec) (n : Nat) : Prop := s.vars = [] ∧ ∀ (H : Type) (ds : List (DataW H)), ds.length = n → (s.fn H ds).results = [.lit (.bool true)] ∧ (s.fn H ds).args = ds ∧ (s.fn H ds).vars = []

theorem law_post (hl : laidOutB P = true) {f : Func} {s : ChangeSpec} {tb : TypeId} (hread : typesRead P f.params.toList = true) (hres : f.resultTypes = #[tb]) (hbool : P.underlying tb = some .bool)
    (hs : LawSpec s f.params.toList.length) {W W' : World} {args : Array Value} {ds gs : List (DataW H)} {before : List MemPlace}
    (hW : DataW.Whole enc P f.params.toList s.vars false W args.toList ds gs before) (bel : Below W.heap.size W W') :
    s.post enc P f false true false false W args (.bool true) W' := by
  have hW' := hW
  obtain ⟨p, q, hA, hV, rfl, hfz, hnd⟩ := hW
  have hn := trodAll_len hA
  obtain ⟨hs1, hs2⟩ := hs
  rw [hs1] at hV
  obtain ⟨rfl, rfl⟩ := trodVars_none hV
  obtain ⟨e1, e2, e3⟩ := hs2 H ds hn
  refine ⟨ds, [], _, [], p, [], hW', ?_, ?_, ?_, bel.frame _, fun h => by cases h⟩
  · rw [List.append_nil, e1, hres]
    exact trodAll_mk1 (shut_bool hbool _)
  · rw [List.append_nil, e2]
    exact below_trodAll hl bel hread hA
  · rw [List.append_nil, e3, hs1]
    rfl
end
end Go.Proofs.YtfibbjnkicjbpaaGreatDoor
/- A number of 64 bits that came in. -/
namespace Go.Proofs.YtfibbjnkicjbpaaGreatDoor
open Go Go.ChangeShapes Go.WideShapes Go.RowKit
theorem u64_nat {n : Int} (h : (Lit.int .u64 n).wf = true) : ∃ a : Nat, n = (a : Int) ∧ a < 18446744073709551616 := by
  simp [Lit.wf, IntKind.min, IntKind.max, IntKind.signed, IntKind.bits] at h
  exact ⟨n.toNat, by omega, by omega⟩
end Go.Proofs.YtfibbjnkicjbpaaGreatDoor
/- A list of viewers that came in, opened. -/
namespace Go.Proofs.YtfibbjnkicjbpaaGreatDoor
open Go Go.ChangeShapes Go.WideShapes Go.RowKit Go.Joins

theorem vwCellsN : Tryz.prog.cellsOf 40 = 2 := by kernel_rfl
set_option maxRecDepth 100000 in
theorem open_vw {H : Type} {enc : TypeId × Value → H} {W : World} {fuel b off : Nat} {cs : List Value} {x : DataW H × List MemPlace} (hc : W.cells? 0 ⟨b, off, none⟩ 2 = some cs)
    (h : DataW.trod enc Tryz.prog W 0 (fun _ => true) true fuel 40 cs = some x) : ∃ y : Vw, VwAt W b off y ∧ y.c < 18446744073709551616 ∧ y.s.length ≤ maxLen := by
  obtain ⟨_, hcl, hat⟩ := World.cells?_some hc
  match cs, hcl with
  | [k0, k1], _ =>
    obtain ⟨y0, y1, n', _, _, h0, h1⟩ := trod_struct2 Tryz.underlying40 h
    have e0 := hat 0 (by omega)
    have e1 := hat 1 (by omega)
    simp only [addrAdd', Nat.add_zero, List.getElem?_cons_zero, List.getElem?_cons_succ] at e0 e1
    have q0 : DataW.trod enc Tryz.prog W 0 (fun _ => true) true n' 9 [k0] = some y0 := h0
    have q1 : DataW.trod enc Tryz.prog W 0 (fun _ => true) true n' 25 [k1] = some y1 := h1
    obtain ⟨s, d0, _, ws⟩ := DataW.trod_string Tryz.underlying9 q0
    obtain ⟨u, d1, _, wu⟩ := DataW.trod_int Tryz.underlying25 q1
    simp only [List.cons.injEq, and_true] at d0 d1
    subst d0 d1
    obtain ⟨m, rfl, hm⟩ := u64_nat wu
    exact ⟨⟨s.data.toList, m⟩, ⟨by rw [bs_of]; exact e0, e1⟩, hm, by rw [len_size]; exact ws⟩
set_option maxRecDepth 100000 in
theorem open_vws {H : Type} {enc : TypeId × Value → H} {W : World} {base : Nat} {v : Value} {d : DataW H} {ps : List MemPlace} (hv : Value.okWide Tryz.prog W .any base 29 v)
    (h : DataW.Trod enc Tryz.prog W 0 (fun _ => true) true 29 v d ps) :
    ∃ (p : Option Addr) (n c : Nat) (xs : List Vw), v = .slice p n c ∧ xs.length = n ∧ VwRow W p xs ∧ (p = none → n = 0 ∧ c = 0) ∧ Fit64 xs ∧ (n = 0 ∨ ∃ elems spare, d = .slice elems spare ∧ elems.length = n) := by
  obtain ⟨a0, n0, c0, rfl⟩ := okWide_slice Tryz.underlying29 hv
  obtain ⟨fuel, hf⟩ := h
  rcases Go.Deep.open_slice Tryz.underlying29 hf with ⟨hcs, _⟩ | ⟨a, len, cap, m, n, D, Pl, hcs, _, hl, _, hmm, hx, hi⟩
  · simp [Value.cells] at hcs
    obtain ⟨rfl, rfl, rfl⟩ := hcs
    exact ⟨none, 0, 0, [], rfl, rfl, fun i hi => absurd hi (Nat.not_lt_zero _), fun _ => ⟨rfl, rfl⟩, fun x hx => (by simp at hx), .inl rfl⟩
  · simp [Value.cells] at hcs
    obtain ⟨rfl, rfl, rfl⟩ := hcs
    simp only [if_true] at hmm
    simp only [Prod.mk.injEq] at hx
    by_cases hz : n0 = 0
    · subst hz
      exact ⟨some a, 0, c0, [], rfl, rfl, fun i hi => absurd hi (Nat.not_lt_zero _), (fun e => by cases e), fun x hx => (by simp at hx), .inl rfl⟩
    · have hspot : ∃ b off, a = ⟨b, off, none⟩ ∧ b < W.heap.size := by
        obtain ⟨cs', hc, ht'⟩ := hi 0 (by omega)
        rw [vwCellsN] at hc
        obtain ⟨_, hcl, hat⟩ := World.cells?_some hc
        have e0 := hat 0 (by omega)
        rw [List.getElem?_eq_getElem (by omega)] at e0
        obtain ⟨b, off, spot⟩ := a
        have hspot : spot = none := by simpa [Addr.add] using World.cell?_spot e0
        subst hspot
        refine ⟨b, off, rfl, ?_⟩
        have := World.block_lt_of_cell? W _ e0
        simpa [addrAdd'] using this
      obtain ⟨b, off, rfl, hlt⟩ := hspot
      obtain ⟨f, hfn⟩ := Go.Deep.choose_lt (n := n0) (p := fun i (y : Vw) => VwAt W b (off + i * 2) y ∧ y.c < 18446744073709551616 ∧ y.s.length ≤ maxLen) (fun i hi' => by
        obtain ⟨cs', hc, ht'⟩ := hi i (by omega)
        rw [vwCellsN, addrAdd'] at hc
        exact open_vw hc ht')
      refine ⟨some ⟨b, off, none⟩, n0, c0, (List.range n0).map f, rfl, by simp, fun i hi' => ?_, (fun e => by cases e), fun x hx' => ?_, .inr ⟨_, _, hx.1, by simp⟩⟩
      · simp only [List.length_map, List.length_range] at hi'
        refine ⟨b, off, rfl, hlt, ?_⟩
        simp only [List.getElem_map, List.getElem_range]
        exact (hfn i hi').1
      · obtain ⟨i, hi', rfl⟩ := List.mem_map.1 hx'
        exact (hfn i (List.mem_range.1 hi')).2
end Go.Proofs.YtfibbjnkicjbpaaGreatDoor
/- What a row's listed variables give the walks: the library's table for counting zeros. -/
namespace Go.Proofs.YtfibbjnkicjbpaaGreatDoor
open Go.RowKit

theorem bt_data : (Rows.laid_math_bits_deBruijn64tab : DataW Unit) = Lib.tabData .u8 (Lib.deBruijn64tab.map fun n : Nat => (n : Int)) := by kernel_rfl
theorem gBtType : (Tryz.prog.globals[0]?).map (·.type) = some 133 := by kernel_rfl

/-- Out of whatever list that has the table. -/
theorem btab_of {W : World} {l : List (String × DataW Unit)} (hl : (l.filter fun x => x.1 == "math/bits.deBruijn64tab") = [("math/bits.deBruijn64tab", Rows.laid_math_bits_deBruijn64tab)]) (h : laidMetH Tryz.prog l W) : BTab W := by
  have h1 := h.filter (fun x => x.1 == "math/bits.deBruijn64tab")
  rw [hl, bt_data, MakeChecks.laidMetH_plain _ _ _ (by kernel_rfl)] at h1
  exact Lib.tabIs_of_head (rest := []) gBt gBtType Tryz.underlying133 Tryz.underlying5 (by kernel_rfl) (by kernel_rfl) h1
end Go.Proofs.YtfibbjnkicjbpaaGreatDoor
