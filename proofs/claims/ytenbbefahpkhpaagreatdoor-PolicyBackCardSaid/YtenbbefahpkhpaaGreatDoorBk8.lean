/- Texts of the proof, merged: LbParse, PoRead, StepOwn, PoPrint, PoParse, PoWorks, PoFit, PoHas, PoBackW, Frame, LbOpen, NumOpen, PoRow, LbLaid, EvLaid. -/
import Derived.Test.YtenbbefahpkhpaaGreatDoorBk2
import Derived.Test.YtenbbefahpkhpaaGreatDoorBk4
import Derived.Test.YtenbbefahpkhpaaGreatDoorBk5
import Derived.Test.YtenbbefahpkhpaaGreatDoorBk6
import Derived.Test.YtenbbefahpkhpaaGreatDoorBk7
import Derived.Deep.RegionHeld3
import Derived.Deep.RegionLaw
import Derived.Laws.AppendOwn
import Derived.OwnWalk
import Derived.RowKit
import Derived.Laws.IdiomStrings
import Derived.Deep.LoopGhost
import Derived.Laws.Bits64
import Derived.OpenVars
import Derived.ProofKit
import Derived.SizedLaws
import Derived.OpenShut
import Derived.ChangeSlices
import Derived.Test.YtenbbefahpkhpaaGreatDoorRows
import Derived.Lib.LaidTab
import Derived.LaidSub
import Derived.LaidMore
import Derived.MakeChecks
import Derived.Deep.DeepHandedRow
/- label's Parse, by its contract. -/
namespace Go.Proofs.YtenbbefahpkhpaaGreatDoor
open Go.RowKit Go.Shelf

attribute [local go_sem] Oper.semAt_some

theorem boxed_later {W W' : World} {B : Nat} {t : TypeId} {v : Value} (h : Boxed W B t v) (hb : Below W.heap.size W W') : Boxed W' B t v := (hb.block B h.lt).trans h
/-- Between two rounds: the results' boxes, what has been gathered. -/
def PInv {M : Nat} (R : Nat) (w : World) (pre : List (Pc M)) (W : World) : Prop :=
  (Boxed W R 25 (.int .u64 0) ∧ Boxed W (R + 1) 26 (.int .i64 0) ∧ Boxed W (R + 2) 25 (.int .u64 (accP (lsOf pre) : Nat))) ∧ Below R w W ∧ R + 6 ≤ W.heap.size
def POut {M : Nat} (R : Nat) (w : World) (c : Code) (pre : List (Pc M)) (W : World) : Prop :=
  (Boxed W R 25 (.int .u64 0) ∧ Boxed W (R + 1) 26 (.int .i64 4)) ∧ (c = .ret ∧ ∃ p ∈ lsOf pre, pieceV p = none) ∧ Below R w W
theorem keeps_below {W W' : World} (h : Below W.heap.size W W') : KeepsOthers W W' := ⟨h.size, fun k _ hk _ => (h.block k (Array.getElem?_eq_some_iff.1 hk).1).trans hk⟩
theorem keep3_below {B : Nat} {W W' : World} (hB : B + 2 < W.heap.size) (h : Below W.heap.size W W') : Keep3 B W W' := fun k _ h2 => h.block k (by omega)
theorem keep3_set {B C : Nat} {W : World} (h : C < B) (u : Value) : Keep3 B W (W.setCell ⟨C, 0, none⟩ u) := fun _ h1 _ => other_block u (by omega)
/-- A round that leaves. -/
theorem pout_leave {M R : Nat} {w W1 : World} {pre : List (Pc M)} (o : Obj) (g0 : Boxed W1 R 25 (.int .u64 0)) (g1 : Boxed W1 (R + 1) 26 (.int .i64 0)) (hB : Below R w W1) (hR : R ≤ w.heap.size) (hbad : ∃ p ∈ lsOf pre, pieceV p = none) :
    POut R w .ret pre (((W1.alloc o).setCell ⟨R, 0, none⟩ (.int .u64 0)).setCell ⟨R + 1, 0, none⟩ (.int .i64 4)) :=
  ⟨⟨((g0.alloc o).set _).other (by omega) _, ((g1.alloc o).other (by omega) _).set _⟩, ⟨rfl, hbad⟩,
    ((hB.alloc (Nat.le_trans hR hB.size) o).setCell (p := ⟨R, 0, none⟩) (Nat.le_refl _) _).setCell (p := ⟨R + 1, 0, none⟩) (by show R ≤ R + 1; omega) _⟩
/-- A round that goes on. -/
theorem pinv_next {M R : Nat} {w W1 : World} {pre : List (Pc M)} (x : Pc M) (c : Nat) (o : Obj) (hc : pieceV x.val.data.toList = some c) (hc64 : c < 64) (g0 : Boxed W1 R 25 (.int .u64 0)) (g1 : Boxed W1 (R + 1) 26 (.int .i64 0)) (g2 : Boxed W1 (R + 2) 25 (.int .u64 (accP (lsOf pre) : Nat))) (hB : Below R w W1) (hR : R ≤ w.heap.size) (hs : R + 6 ≤ W1.heap.size) (z : Int) (hz : z = ((accP (lsOf pre) ||| 2 ^ c : Nat) : Int)) :
    PInv R w (pre ++ [x]) ((W1.alloc o).setCell ⟨R + 2, 0, none⟩ (.int .u64 z)) := by
  subst hz
  unfold PInv
  rw [ls_snoc, acc_snoc _ _ c hc hc64]
  exact ⟨⟨(g0.alloc o).other (by omega) _, (g1.alloc o).other (by omega) _, (g2.alloc o).set _⟩, (hB.alloc (Nat.le_trans hR hB.size) o).setCell (p := ⟨R + 2, 0, none⟩) (by show R ≤ R + 2; omega) _, by rw [World.size_setCell, World.size_alloc]; omega⟩
theorem pinv_own {M : Nat} (R B : Nat) (w : World) (hR : R ≤ w.heap.size) (h : R ≤ B) : OwnFrom B (PInv (M := M) R w) :=
  OwnFrom.and (Own.from (fun s A B row hs hg hr => ⟨boxed_own _ _ (fun _ => _) s A B row hs.1 hg hr, boxed_own _ _ (fun _ => _) s A B row hs.2.1 hg hr, boxed_own _ _ (fun _ => _) s A B row hs.2.2 hg hr⟩) _) (OwnFrom.and (ownFrom_below hR h) (fun _ _ _ _ hs hg _ => Nat.le_trans hs hg.size))
theorem pout_own {M : Nat} (R B : Nat) (w : World) (c : Code) (hR : R ≤ w.heap.size) (h : R ≤ B) : OwnFrom B (POut (M := M) R w c) :=
  OwnFrom.and (Own.from (fun s A B row hs hg hr => ⟨boxed_own _ _ (fun _ => _) s A B row hs.1 hg hr, boxed_own _ _ (fun _ => _) s A B row hs.2 hg hr⟩) _) (OwnFrom.and (ownFrom_pure _ _) (ownFrom_below hR h))
theorem pinv_store {M : Nat} (R B : Nat) (w : World) (hB : R + 2 < B) : Stores B (PInv (M := M) R w) := fun _ _ u ⟨⟨a, b, c⟩, d, f⟩ =>
  ⟨⟨a.other (by omega) u, b.other (by omega) u, c.other (by omega) u⟩, d.setCell (p := ⟨B, 0, none⟩) (by show R ≤ B; omega) u, by rw [World.size_setCell]; exact f⟩

set_option maxRecDepth 100000 in
set_option maxHeartbeats 8000000 in
theorem parse_any (s : ByteArray) (w : World) (hs : s.size ≤ 281474976710656) (hT : BTab w) (hE : EvW w) :
    Calls Tryz.prog 67 #[.string s] w fun e w' => ∃ (a : Nat) (er : Int), e = .returned (.tuple #[.int .u64 a, .int .i64 er]) ∧ ReadAs s.data.toList a er ∧ Below w.heap.size w w' := by
  have hB0 : Below w.heap.size w ((w.alloc (.cells #[.int .u64 0] 25)).alloc (.cells #[.int .i64 0] 26)) := ((Below.refl _ _).alloc (Nat.le_refl _) _).alloc (by simp) _
  have c0 := (Boxed.new w 25 (.int .u64 0)).alloc (.cells #[.int .i64 0] 26)
  have c1 := Boxed.new (w.alloc (.cells #[.int .u64 0] 25)) 26 (.int .i64 0)
  simp only [World.size_alloc] at c1
  refine (callsIn_wide (n := 3)).1 ?_
  refine callsIn_of_wp_marks Tryz.func67 rfl trivial ?_ rfl
  simp only [Tryz.ntmps67, List.size_toArray, List.length_cons, List.length_nil, Nat.reduceAdd, Nat.reduceSub, Array.replicate_succ, Array.replicate_zero, List.push_toArray, List.append_toArray, List.nil_append, List.cons_append]
  have H0 := Lib.hid c0; have H1 := Lib.hid c1; have HB0 := Lib.hid hB0
  by_cases hd : s = ⟨#[45]⟩
  · subst hd
    have k0 := c0.cell; have k1 := c1.cell
    clear c0 c1 hB0
    gi_wp2
    refine ⟨.tuple #[.int .u64 0, .int .i64 0], ?_, 0, 0, rfl, read_dash, HB0.out⟩
    simp [results, Tryz.f67, go_sem, k0, k1]
  · have hs45 : s.data.toList ≠ [45] := by
      intro e; apply hd
      cases s with
      | mk d => congr 1; apply Array.toList_inj.1; exact e
    have hne : (s.toList == [45]) = false := by rw [ByteArray.toList_eq]; exact beq_false_of_ne hs45
    have HS := Lib.hid hs45
    have b0 := (c0.alloc (.cells #[.int .u64 0] 25))
    have b1 := (c1.alloc (.cells #[.int .u64 0] 25))
    have b2 := Boxed.new ((w.alloc (.cells #[.int .u64 0] 25)).alloc (.cells #[.int .i64 0] 26)) 25 (.int .u64 0)
    simp only [World.size_alloc] at b2
    have hbA := HB0.out.alloc HB0.out.size (.cells #[.int .u64 0] 25)
    have hsz : (((w.alloc (.cells #[.int .u64 0] 25)).alloc (.cells #[.int .i64 0] 26)).alloc (.cells #[.int .u64 0] 25)).heap.size = w.heap.size + 3 := by simp
    have G0 := Lib.hid b0; have G1 := Lib.hid b1; have G2 := Lib.hid b2; have HBA := Lib.hid hbA
    clear c0 c1 hB0 hd hs45 b0 b1 b2 hbA H0 H1 HB0
    gi_wp2
    generalize (((w.alloc (.cells #[.int .u64 0] 25)).alloc (.cells #[.int .i64 0] 26)).alloc (.cells #[.int .u64 0] 25)) = wA at *
    refine ⟨trivial, (callsIn_wide.2 (splitSeq_any s wA)).mono ?_⟩
    rintro e wB ⟨rfl, rfl⟩
    rw [hsz]
    clear hne
    gi_wp2
    have d0 := Boxed.new wA 9 (.string s)
    have d1 := Boxed.new (wA.alloc (.cells #[.string s] 9)) 9 (.string ⟨#[43]⟩)
    have d2 := Boxed.new ((wA.alloc (.cells #[.string s] 9)).alloc (.cells #[.string ⟨#[43]⟩] 9)) 3 (.int .i64 0)
    simp only [World.size_alloc, hsz] at d0 d1 d2
    have e0 := ((G0.out.alloc (.cells #[.string s] 9)).alloc (.cells #[.string ⟨#[43]⟩] 9)).alloc (.cells #[.int .i64 0] 3)
    have e1 := ((G1.out.alloc (.cells #[.string s] 9)).alloc (.cells #[.string ⟨#[43]⟩] 9)).alloc (.cells #[.int .i64 0] 3)
    have e2 := ((G2.out.alloc (.cells #[.string s] 9)).alloc (.cells #[.string ⟨#[43]⟩] 9)).alloc (.cells #[.int .i64 0] 3)
    have hbB : Below w.heap.size w (((wA.alloc (.cells #[.string s] 9)).alloc (.cells #[.string ⟨#[43]⟩] 9)).alloc (.cells #[.int .i64 0] 3)) := ((HBA.out.alloc HBA.out.size _).alloc (by have := HBA.out.size; simp; omega) _).alloc (by have := HBA.out.size; simp; omega) _
    have d0' := (d0.alloc (.cells #[.string ⟨#[43]⟩] 9)).alloc (.cells #[.int .i64 0] 3)
    have d1' := d1.alloc (.cells #[.int .i64 0] 3)
    have hszB : (((wA.alloc (.cells #[.string s] 9)).alloc (.cells #[.string ⟨#[43]⟩] 9)).alloc (.cells #[.int .i64 0] 3)).heap.size = w.heap.size + 6 := by simp; omega
    generalize (((wA.alloc (.cells #[.string s] 9)).alloc (.cells #[.string ⟨#[43]⟩] 9)).alloc (.cells #[.int .i64 0] 3)) = wB at *
    have e2' : Boxed wB (w.heap.size + 2) 25 (.int .u64 ((accP (lsOf ([] : List (Pc s.size))) : Nat) : Int)) := by
      rw [show lsOf ([] : List (Pc s.size)) = [] from rfl, acc_nil]; exact e2
    have hsq := split_seq 2 (by decide) (w.heap.size + 3) s (by omega) wB d0' d1' d2
    refine range_store (α := Pc s.size) (encs := fun x : Pc s.size => #[.string x.val]) (Kp := Keep3 (w.heap.size + 3)) (S := fun ys => lsOf ys = spl s.data.toList) (Sp := fun pre => lsOf pre <+: spl s.data.toList) (N := (spl s.data.toList).length) (B := w.heap.size + 3) rfl (by decide) (gf := 140) (lb := #[.pointer (some ⟨w.heap.size + 3 + 1, 0, none⟩), .pointer (some ⟨w.heap.size + 3, 0, none⟩), .pointer (some ⟨w.heap.size + 3 + 2, 0, none⟩)]) rfl trivial (enters_of Tryz.func140 (by kernel_rfl) rfl)
      hsq (by omega) keep3_t (keep3_b (by omega)) (Below.refl _ _) (fun _ => rfl)
      (PInv (M := s.size) w.heap.size w) (POut (M := s.size) w.heap.size w) (pinv_own (M := s.size) w.heap.size _ w (Nat.le_refl _) (by omega)) (fun c => pout_own (M := s.size) w.heap.size _ w c (Nat.le_refl _) (by omega)) (pinv_store (M := s.size) w.heap.size (w.heap.size + 3) w (by omega)) ⟨⟨e0, e1, e2'⟩, hbB, by omega⟩ ?a1 ?assign ?body ?done ?stop
    case assign =>
      intro l x W K hK
      gi_wp2
      exact hK
    case body =>
      rintro l pre x W ⟨⟨b0, b1, b2⟩, hB, hsz6⟩ hlt
      have hE' := hE.below hB
      have cA := atoi_any x.val W (Nat.le_trans x.le hs) hE'
      clear d0 d1 d2 d0' d1' hsq e0 e1 e2 e2' hbB G0 G1 G2 HBA hlt
      gi_wp2
      refine ⟨trivial, (CallsIn.inRound l (callsIn_wide.2 cA)).mono ?_⟩
      rintro e W1 ⟨v, er, rfl, hae, hb1⟩
      have g0 := boxed_later b0 hb1
      have g1 := boxed_later b1 hb1
      have g2 := boxed_later b2 hb1
      have hB1 := hB.trans (hb1.mono hB.size)
      have cO := of_any (W1.alloc (.cells #[.int .i64 v] 3)) (some ⟨W1.heap.size, 0, none⟩) 1 1 [v] (fun i hi => by
        match i, hi with
        | 0, _ => exact ⟨W1.heap.size, 0, rfl, by simp, by rw [World.cell?_alloc_mark]; rfl⟩) rfl (by decide)
      have hs1 := hb1.size
      have hko := keeps_below hb1
      have hk3 : Keep3 (w.heap.size + 3) W W1 := keep3_below (by omega) hb1
      have hmem : x.val.data.toList ∈ lsOf (pre ++ [x]) := by rw [ls_snoc]; simp
      have q0 := (g0.alloc (.cells #[.int .i64 v] 3)); have q1 := (g1.alloc (.cells #[.int .i64 v] 3)); have q2 := (g2.alloc (.cells #[.int .i64 v] 3))
      have k0 := q0.cell; have k1 := q1.cell; have k2 := q2.cell
      have f0 := q0.frozen; have f1 := q1.frozen; have f2 := q2.frozen
      have kk1 := (q1.other (B' := w.heap.size) (by omega) (.int .u64 0)).cell
      have ff1 := (q1.other (B' := w.heap.size) (by omega) (.int .u64 0)).frozen
      have HG0 := Lib.hid g0; have HG1 := Lib.hid g1; have HG2 := Lib.hid g2
      clear b0 b1 b2 hB hE' cA q0 q1 q2 g0 g1 g2
      have LV : ∀ (a3 : Act) (_ : pieceV x.val.data.toList = none), Hid (ownPostK (Keep3 (w.heap.size + 3)) (PInv (M := s.size) w.heap.size w) (POut (M := s.size) w.heap.size w) (pre ++ [x]) W .ret a3 (((W1.alloc (.cells #[.int .i64 v] 3)).setCell ⟨w.heap.size, 0, none⟩ (.int .u64 0)).setCell ⟨w.heap.size + 1, 0, none⟩ (.int .i64 4))) := fun _ h =>
        ⟨((hko.trans (KeepsOthers.alloc _ _)).trans (KeepsOthers.setCell _ _ _)).trans (KeepsOthers.setCell _ _ _), pout_leave _ HG0.out HG1.out hB1 (Nat.le_refl _) ⟨_, hmem, h⟩⟩
      rcases hae with ⟨rfl, hok⟩ | ⟨⟨t, p, rfl⟩, hno⟩
      · by_cases hr : 0 ≤ v ∧ v ≤ 63
        · obtain ⟨c, rfl⟩ : ∃ c : Nat, v = c := ⟨v.toNat, by omega⟩
          have hc64 : c < 64 := by omega
          have hpc : pieceV x.val.data.toList = some c := by rw [piece_ok hok hr.1 hr.2]; rfl
          obtain ⟨r1, r2⟩ := of_one c hc64
          rw [r1, r2] at cO
          have hp2 : 2 ^ c < 18446744073709551616 := (Nat.pow_lt_pow_right (by decide : 1 < 2) hc64 : 2 ^ c < 2 ^ 64)
          have hor := u64_or_nat (accP (lsOf pre)) (2 ^ c) (acc_lt _) hp2
          have GO := Lib.hid fun z hz => pinv_next x c (.cells #[.int .i64 (c : Int)] 3) hpc hc64 HG0.out HG1.out HG2.out hB1 (Nat.le_refl _) (by omega) z hz
          have HOR := Lib.hid hor
          have KO : Hid (∀ z, KeepsOthers W ((W1.alloc (.cells #[.int .i64 (c : Int)] 3)).setCell ⟨w.heap.size + 2, 0, none⟩ z)) := fun z => (hko.trans (KeepsOthers.alloc _ _)).trans (KeepsOthers.setCell _ _ _)
          have K3 : Hid (∀ z, Keep3 (w.heap.size + 3) W ((W1.alloc (.cells #[.int .i64 (c : Int)] 3)).setCell ⟨w.heap.size + 2, 0, none⟩ z)) := fun z => keep3_t (keep3_t hk3 (keep3_below (by omega) ((Below.refl _ _).alloc (Nat.le_refl _) _))) (keep3_set (by omega) _)
          clear LV hok hr hpc r1 r2 hor HG0 HG1 HG2 hmem hko hk3 hp2
          gi_wp2
          refine ⟨trivial, (CallsIn.inRound l (callsIn_wide.2 cO)).mono ?_⟩
          rintro e w' ⟨rfl, rfl⟩
          clear cO
          gi_wp2
          exact ⟨KO.out _, K3.out _, GO.out _ HOR.out⟩
        · have hlv := fun a3 => LV a3 (piece_out hok (by omega))
          obtain ⟨r1, r2⟩ := of_bad [v] 0 (by simp) (by show v < 0 ∨ 63 < v; omega)
          rw [r1, r2] at cO
          clear LV hok hr r1 r2
          gi_wp2
          refine ⟨trivial, (CallsIn.inRound l (callsIn_wide.2 cO)).mono ?_⟩
          rintro e w' ⟨rfl, rfl⟩
          clear cO
          gi_wp2
          exact (hlv _).out
      · have hlv := fun a3 => LV a3 (piece_no hno)
        clear LV hno
        gi_wp2
        refine ⟨trivial, (CallsIn.inRound l (callsIn_wide.2 cO)).mono ?_⟩
        rintro e w' ⟨rfl, rfl⟩
        clear cO
        gi_wp2
        exact (hlv _).out
    case done =>
      rintro D ys W hD hS ⟨⟨b0, b1, b2⟩, hB, h6⟩ hK
      rw [hS] at b2
      have hT' := hT.below hB
      have cX := text_any_lb (accP (spl s.data.toList)) W (acc_lt _) hT'
      have hrd := Lib.hid (read_good_lb HS.out)
      have k2 := b2.cell
      clear d0 d1 d2 d0' d1' hsq e0 e1 e2 e2' hbB G0 G1 G2 HBA hS
      generalize accP (spl s.data.toList) = acc at *
      have HAC := Lib.hid b2
      have H0 := Lib.hid b0; have H1 := Lib.hid b1
      clear b0 b1 b2
      rcases hrd.out with ⟨hra, htx⟩ | ⟨hra, htx⟩
      · have e : (⟨(textN acc).toArray⟩ : ByteArray) = s := by rw [htx]
        rw [e] at cX
        have HR := Lib.hid hra
        clear hrd hra htx e
        gi_wp2
        refine ⟨trivial, (callsIn_wide.2 cX).mono ?_⟩
        rintro e W3 ⟨rfl, hb3⟩
        have g0 := boxed_later H0.out hb3; have g1 := boxed_later H1.out hb3; have g2 := boxed_later HAC.out hb3
        have hB3 := hB.trans (hb3.mono hB.size)
        have hK3 := (hb3.block D (Array.getElem?_eq_some_iff.1 hK).1).trans hK
        clear k2
        have k2 := g2.cell; have k0 := g0.cell; have k1 := g1.cell; have f0 := g0.frozen; have f1 := g1.frozen
        clear cX hb3 g2
        gi_wp2
        have q0 := (g0.set (.int .u64 (acc : Nat))).other (B' := w.heap.size + 1) (by omega) (.int .i64 0)
        have q1 := (g1.other (B' := w.heap.size) (by omega) (.int .u64 (acc : Nat))).set (.int .i64 0)
        have hk4 := ((KeepsOthers.setCell W3 ⟨w.heap.size, 0, none⟩ (.int .u64 (acc : Nat))).trans (KeepsOthers.setCell _ ⟨w.heap.size + 1, 0, none⟩ (.int .i64 0))).same D _ hK3 rfl
        have kc0 := cell_kept q0.cell (grownBy_putObj' _ D (.deferred none)) (fun r e => by cases e; exact ⟨_, hk4, rfl⟩)
        have kc1 := cell_kept q1.cell (grownBy_putObj' _ D (.deferred none)) (fun r e => by cases e; exact ⟨_, hk4, rfl⟩)
        have hbe := ((hB3.setCell (p := ⟨w.heap.size, 0, none⟩) (Nat.le_refl _) (.int .u64 (acc : Nat))).setCell (p := ⟨w.heap.size + 1, 0, none⟩) (by simp) (.int .i64 0)).trans (belowK_b (w := w) (Nat.le_refl _) _ D _ (.deferred none) (by omega) hk4 rfl rfl)
        refine ⟨by simp, .inl ⟨_, _, rfl, run_takeDeferred hk4, ?_⟩⟩
        refine ⟨.tuple #[.int .u64 (acc : Nat), .int .i64 0], ?_, acc, 0, rfl, HR.out, hbe⟩
        simp [results, Tryz.f67, go_sem, kc0, kc1]
      · have hne : (⟨(textN acc).toArray⟩ : ByteArray) ≠ s := by
          intro e; apply htx; rw [← e]
        generalize (⟨(textN acc).toArray⟩ : ByteArray) = tx at *
        have hne2 : ¬ tx.toList = s.toList := by
          rw [ByteArray.toList_eq, ByteArray.toList_eq]
          intro e; apply hne
          cases tx with
          | mk d => cases s with
            | mk d' => congr 1; apply Array.toList_inj.1; exact e
        have hne3 : (tx.toList == s.toList) = false := beq_false_of_ne hne2
        have hne4 : (tx.toList != s.toList) = true := by rw [bne, hne3]; rfl
        clear hne hne2
        have HR := Lib.hid hra
        clear hrd hra htx
        gi_wp2
        refine ⟨trivial, (callsIn_wide.2 cX).mono ?_⟩
        rintro e W3 ⟨rfl, hb3⟩
        have g0 := boxed_later H0.out hb3; have g1 := boxed_later H1.out hb3
        have hB3 := hB.trans (hb3.mono hB.size)
        have hK3 := (hb3.block D (Array.getElem?_eq_some_iff.1 hK).1).trans hK
        clear k2
        have k0 := g0.cell; have k1 := g1.cell; have f0 := g0.frozen; have f1 := g1.frozen
        clear cX hb3
        gi_wp2
        have q0 := (g0.set (.int .u64 0)).other (B' := w.heap.size + 1) (by omega) (.int .i64 4)
        have q1 := (g1.other (B' := w.heap.size) (by omega) (.int .u64 0)).set (.int .i64 4)
        have hk4 := ((KeepsOthers.setCell W3 ⟨w.heap.size, 0, none⟩ (.int .u64 0)).trans (KeepsOthers.setCell _ ⟨w.heap.size + 1, 0, none⟩ (.int .i64 4))).same D _ hK3 rfl
        have kc0 := cell_kept q0.cell (grownBy_putObj' _ D (.deferred none)) (fun r e => by cases e; exact ⟨_, hk4, rfl⟩)
        have kc1 := cell_kept q1.cell (grownBy_putObj' _ D (.deferred none)) (fun r e => by cases e; exact ⟨_, hk4, rfl⟩)
        have hbe := ((hB3.setCell (p := ⟨w.heap.size, 0, none⟩) (Nat.le_refl _) (.int .u64 0)).setCell (p := ⟨w.heap.size + 1, 0, none⟩) (by simp) (.int .i64 4)).trans (belowK_b (w := w) (Nat.le_refl _) _ D _ (.deferred none) (by omega) hk4 rfl rfl)
        refine ⟨by simp, .inl ⟨_, _, rfl, run_takeDeferred hk4, ?_⟩⟩
        refine ⟨.tuple #[.int .u64 0, .int .i64 4], ?_, 0, 4, rfl, HR.out, hbe⟩
        simp [results, Tryz.f67, go_sem, kc0, kc1]
    case stop =>
      rintro D c pre W hD hp ⟨⟨b0, b1⟩, ⟨rfl, p, hpm, hpv⟩, hB⟩ hK
      have hrd := read_bad HS.out hp hpm hpv
      have kc0 := cell_kept b0.cell (grownBy_putObj' _ D (.deferred none)) (fun r e => by cases e; exact ⟨_, hK, rfl⟩)
      have kc1 := cell_kept b1.cell (grownBy_putObj' _ D (.deferred none)) (fun r e => by cases e; exact ⟨_, hK, rfl⟩)
      have hbe := hB.trans (belowK_b (w := w) (Nat.le_refl _) W D _ (.deferred none) (by omega) hK rfl rfl)
      clear d0 d1 d2 d0' d1' hsq e0 e1 e2 e2' hbB G0 G1 G2 HBA hp hpm hpv b0 b1
      gi_wp2
      refine ⟨by simp, .inl ⟨_, _, rfl, run_takeDeferred hK, ?_⟩⟩
      refine ⟨.tuple #[.int .u64 0, .int .i64 4], ?_, 0, 4, rfl, hrd, hbe⟩
      simp [results, Tryz.f67, go_sem, kc0, kc1]
end Go.Proofs.YtenbbefahpkhpaaGreatDoor
/- policy.read, by its contract. -/
namespace Go.Proofs.YtenbbefahpkhpaaGreatDoor
open Go Go.RowKit Go.Maps

theorem strCut_any (t : ByteArray) (W : World) (hs : t.size < 4294967281) (hM : MaxS W) : Calls Tryz.prog 66 #[.string t, .string ⟨#[32]⟩] W fun e w' => ∃ b, e = .returned (.tuple #[.string (bs (nameOf t.data.toList)), .string (bs (wordAt t.data.toList)), .bool b]) ∧ Below W.heap.size W w' := by
  obtain ⟨m, hm⟩ := hM
  refine (Tryz.strings_Cut t ⟨#[32]⟩ m W hs hm).mono ?_
  rintro e w' ⟨he, n, rfl⟩
  obtain ⟨h1, h2⟩ := cut_blank t.data.toList
  rw [show (⟨#[32]⟩ : ByteArray).data.toList = [32] from rfl, h1, h2] at he
  exact ⟨_, he, below_drewN' (Below.refl _ _) _⟩
theorem strCount_any (s : ByteArray) (W : World) : Calls Tryz.prog 64 #[.string s, .string ⟨#[10]⟩] W fun e w' => e = .returned (.int .i64 (s.data.toList.count 10 : Nat)) ∧ W = w' :=
  (Tryz.strings_Count_one s 10 W).mono fun _ _ ⟨h1, h2⟩ => ⟨h1, h2.symm⟩
/-- What read answers. -/
def ReadSays (s : List UInt8) (W : World) (e : Ending) (w' : World) : Prop := Below W.heap.size W w' ∧
  ((∃ (p : Option Addr) (c : Nat) (l : List Vw), e = .returned (.tuple #[.slice p l.length c, .int .i64 0]) ∧ VwRow w' p l ∧ Fit64 l ∧ l.length ≤ maxLen ∧ Reads (cutL s) l) ∨ ((¬ ∃ l, Spells s l) ∧ e = .returned (.tuple #[.slice none 0 0, .int .i64 4])))

set_option maxRecDepth 100000 in
set_option maxHeartbeats 4000000 in
theorem read_pol (s : ByteArray) (w : World) (hs : s.size < 4294967281) (hM : MaxS w) (hT : BTab w) (hE : EvW w) : Calls Tryz.prog 36 #[.string s] w (ReadSays s.data.toList w) := by
  have cC := strCount_any s
  have cL := cut_row s w hs hM
  unfold CutRow at cL
  have hmany := Lib.hid (none_of_many (s := s.data.toList))
  have hcut := Lib.hid (none_of_cut (s := s.data.toList))
  have hpiece := Lib.hid (fun k hk h => none_of_piece (s := s.data.toList) (k := k) hk h)
  obtain ⟨hlen, htl⟩ := cut_len s.data.toList
  rw [len_size] at hlen
  have HTL := Lib.hid htl
  obtain ⟨m, hm⟩ : ∃ m, s.data.toList.count 10 = m := ⟨_, rfl⟩
  rw [hm] at cC hmany
  have hE4 : cutE s.data.toList = 0 ∨ cutE s.data.toList = 4 := by unfold cutE; split <;> simp
  obtain ⟨ec, hec⟩ : ∃ ec, cutE s.data.toList = ec := ⟨_, rfl⟩
  rw [hec] at cL hcut hE4
  generalize hts : cutL s.data.toList = ts at *
  have HTS := Lib.hid hts
  obtain ⟨n, hn⟩ : ∃ n, ts.length = n := ⟨_, rfl⟩
  have HN := Lib.hid hn
  rw [hn] at hlen cL
  have HM := Lib.hid hM; have HT := Lib.hid hT; have HE := Lib.hid hE
  clear hM hT hE htl hm hec hn hts
  by_cases hmm : 64 < m
  · have hno := hmany.out hmm
    go_enter Tryz.func36, Tryz.ntmps36
    go_wp2_with (go_at_call 64; refine (cC _).mono ?_; rintro e w' ⟨rfl, rfl⟩)
    go_ret2
    exact ⟨Below.refl _ _, .inr ⟨hno, rfl⟩⟩
  · rcases hE4 with rfl | rfl
    · clear hcut hmany
      obtain ⟨i0, hi, hz0, hz1, hz2⟩ := info_parts vwInfo
      have hsn : n < 4294967281 := by omega
      go_enter Tryz.func36, Tryz.ntmps36
      go_wp2_with (first
        | (go_at_call 64; refine (cC _).mono ?_; rintro e w' ⟨rfl, rfl⟩)
        | (go_at_call 65; refine cL.mono ?_; rintro e w1 ⟨p1, c1, rfl, hb1, ho1⟩))
      have hrow : StrRow w1 p1 (asTexts ts) := by
        have hl : (asTexts ts).length = n := by unfold asTexts; rw [List.length_map]; exact HN.out
        obtain ⟨p', c', e', hr'⟩ := row_owned (ks := asTexts ts) (by rw [hl]; exact ho1)
        rw [hl] at e'
        injection e' with e1 _ _
        rw [e1]; exact hr'
      have hs1 := hb1.size
      clear cC cL ho1
      go_loopg [6, 27] n (fun g u vi wr => ∃ (k : Nat) (l : List Vw), k + g = n ∧ vi = .int .i64 k ∧ Below w1.heap.size w1 wr ∧ l.length = k ∧ Hid (Reads (ts.take k) l) ∧ Hid (Fit64 l) ∧ Hid (wr.ownsRow w1.heap.size 40 2 u k (flat l)))
      case atStart => exact ⟨0, [], by omega, rfl, Below.refl _ _, rfl, by rw [List.take_zero]; exact Reads.nil, fit64_nil, World.ownsRow_nil _ _ _ _⟩
      case round =>
        obtain ⟨k, l, hk, rfl, hbr, hlk, HR, HF, HO⟩ := hrel
        have hbrw : Below w.heap.size w wr := hb1.trans (hbr.mono hs1)
        have hsr := hbr.size
        by_cases hlt : k < n
        · have hlt' : k < ts.length := by rw [HN.out]; exact hlt
          have hmem := List.getElem_mem hlt'
          obtain ⟨b1, o1, rfl, h1c⟩ := hrow.at k (by unfold asTexts; rw [List.length_map]; exact hlt')
          have g1 := h1c wr hbr
          have hat : (asTexts ts)[k]'(by unfold asTexts; rw [List.length_map]; exact hlt') = bs ts[k] := by simp [asTexts, bs]
          rw [hat] at g1
          have htk := HTL.out ts[k] hmem
          rw [len_size] at htk
          have hnl := nameOf_le ts[k]
          have hwl := wordAt_le ts[k]
          have HP := Lib.hid (hpiece.out k hlt')
          have hst := Lib.hid (fun (a : Nat) (ha : a < 18446744073709551616) (e : textN a = wordAt ts[k]) => (show Reads (ts.take (k + 1)) (l ++ [⟨nameOf ts[k], a⟩]) by rw [List.take_succ_eq_append_getElem hlt']; exact HR.out.snoc ha e))
          generalize ts[k] = t at *
          have cX := strCut_any (bs t) wr (by rw [bs_size]; omega) (HM.out.below hbrw)
          rw [bs_list] at cX
          have HB := Lib.hid hbr
          have HBW := Lib.hid hbrw
          clear h1c hat hmem hbr hbrw hpiece
          go_wp2_with (first | (go_at_call 66; refine cX.mono ?_; rintro e w2 ⟨bb, rfl, hb2⟩))
          have hbw2 := HBW.out.trans (hb2.mono HBW.out.size)
          have cP := parse_any (bs (wordAt t)) w2 (by rw [bs_size]; omega) (HT.out.below hbw2) (HE.out.below hbw2)
          rw [bs_list] at cP
          refine cP.mono ?_
          rintro e w3 ⟨a, er, rfl, hra, hb3⟩
          have hbw3 := hbw2.trans (hb3.mono hbw2.size)
          have hsz2 := hb2.size
          have hsz3 := hb3.size
          have HBW3 := Lib.hid hbw3
          have HB3 := Lib.hid ((HB.out.trans (hb2.mono hsr)).trans (hb3.mono (by omega)))
          have HO3 := Lib.hid (ownsAny_later (ownsAny_later HO.out hb2) hb3)
          clear cX cP hb2 hb3 hbw2 hbw3 HO
          rcases hra with ⟨rfl, ha, hta⟩ | ⟨rfl, rfl, hno⟩
          · have HR2 : Hid (Reads (ts.take (k + 1)) (l ++ [⟨nameOf t, a⟩])) := hst.out a ha hta
            have HF2 : Hid (Fit64 (l ++ [⟨nameOf t, a⟩])) := fun x hx => by
              rw [List.mem_append, List.mem_singleton] at hx
              rcases hx with hx | rfl
              · exact HF.out x hx
              · exact ⟨ha, by unfold maxLen; show (nameOf t).length ≤ _; omega⟩
            have ho3 := HO3.out
            clear HR HF hst HP HO3 hta
            go_wp2_with (first
              | (at_builtin; refine wpList_append_own _ rfl _ _ 29 rfl w1.heap.size 40 i0 (.agg #[.string ⟨#[]⟩, .int .u64 0]) 2 24 Tryz.underlying29 hi hz0 hz1 hz2 rfl (by decide) _ _ _ rfl (ho3.alloc _) ⟨w3.heap.size, 0, none⟩ 1 1 [.string (bs (nameOf t)), .int .u64 a] rfl rfl ?c1 ?c2 ?c3 ?c4 ?c5 ?_))
            case c1 =>
              intro j u hj
              match j, hj with
              | 0, hj => simp at hj; subst hj; simp [Addr.add]
              | 1, hj => simp at hj; subst hj; simp [Addr.add]
            case c2 => intro u hu; simp at hu; rcases hu with rfl | rfl <;> rfl
            case c3 => unfold maxLen; omega
            case c4 => omega
            case c5 => simp; omega
            intro u' w4 hown' hgrow _
            have hb4 : Below w1.heap.size w1 w4 := (HB3.out.alloc (by omega) _).grown hgrow (by simp; omega) (fun g hg => (ho3.lt g hg).1)
            have HO4 : Hid (w4.ownsRow w1.heap.size 40 2 u' (k + 1) (flat (l ++ [⟨nameOf t, a⟩]))) := by
              show w4.ownsRow _ _ _ _ _ _
              rw [flat_snoc]; exact hown'
            clear ho3 hown' hgrow
            go_wp2_with fail
            go_roundg (gk - 1)
            case rel => exact ⟨k + 1, _, by omega, by go_num, hb4, by simp [hlk], HR2, HF2, HO4⟩
            case measure => omega
          · have hnone := HP.out hno
            clear HR HF hst HP HO3 hno
            go_wp2_with fail
            go_ret2
            exact ⟨HBW3.out, .inr ⟨hnone, rfl⟩⟩
        · obtain rfl : k = n := by omega
          have hall : ts.take k = ts := by rw [← HN.out]; exact List.take_length
          rw [hall] at HR
          have HBW := Lib.hid hbrw
          obtain ⟨p2, c2, hu, hr2⟩ := vw_owned hlk HO.out
          subst hu
          have HL := Lib.hid hlk
          have HR2 := Lib.hid hr2
          clear hbr hbrw hall HO hlk hr2
          go_wp2_with fail
          go_ret2
          exact ⟨HBW.out, .inl ⟨p2, c2, l, by rw [HL.out]; rfl, HR2.out, HF.out, by rw [HL.out]; unfold maxLen; omega, by rw [HTS.out]; exact HR.out⟩⟩
    · have hno := hcut.out (by decide)
      go_enter Tryz.func36, Tryz.ntmps36
      go_wp2_with (first
        | (go_at_call 64; refine (cC _).mono ?_; rintro e w' ⟨rfl, rfl⟩)
        | (go_at_call 65; refine cL.mono ?_; rintro e w1 ⟨p1, c1, rfl, hb1, ho1⟩))
      go_ret2
      exact ⟨hb1, .inr ⟨hno, rfl⟩⟩
end Go.Proofs.YtenbbefahpkhpaaGreatDoor
/- append to a row of the call's own, as one step of a region that draws its order. No program. -/
namespace Go.Proofs.YtenbbefahpkhpaaGreatDoor
open Go Go.RowKit

theorem step_append_own {P : Program} {ops : Array Oper} {o : Oper} {a : Act} {w : World} {K : Act → World → Prop} {Q : Exit → Act → World → Prop} {E : Prop} (hgd : o.guard = none) (s x : Operand) (t : TypeId)
    (ho : o.op = .call { callee := .builtin .append, args := #[s, x], argTypes := #[t, t] })
    (base : Nat) (e : TypeId) (i : TypeInfo) (z : Value) (size bytes : Nat) (ht : P.underlying t = some (.slice e)) (hi : P.info? e = some i) (hz : i.zero = some z)
    (hsize : i.size = size) (hby : i.bytes = bytes) (hzs : z.cells.size = size) (hsz : 0 < size)
    (v : Value) (n : Nat) (xs : List Value) (hs : a.eval s = v) (hown : w.ownsRow base e size v n xs)
    (ad : Addr) (m c : Nat) (news : List Value) (hx : a.eval x = .slice (some ad) m c) (hl : news.length = m * size) (hnews : ∀ j u, news[j]? = some u → w.cell? (ad.add j) = some u) (h1 : ∀ u ∈ news, u.oneCell' = true)
    (h63 : n + m ≤ maxLen) (hbytes : (n + m) * bytes ≤ 140737488355328) (hbase : base ≤ w.heap.size)
    (h : ∀ v' w', w'.ownsRow base e size v' (n + m) (xs ++ news) → w.grownBy w' v.ownBlock → K (a.put o.dst v') w') : if Region.wanted o (yielded ops a.tmps) = true then Oper.wp P o a w K Q else E := by
  have hw : Region.wanted o (yielded ops a.tmps) = true := by simp [Region.wanted, hgd]
  rw [if_pos hw]
  obtain ⟨v', w', hr, h2, h3, _⟩ := run_append_own (P := P) w base t o.type e i z size bytes ht hi hz hsize hby hzs hsz v n xs hown ad m c news hl hnews h1 h63 hbytes hbase
  unfold Oper.wp execOp
  simp only [ho, resolve, invoke, builtin, Sem.run_bind, Sem.run_pure, Result.andThen_ok, List.map_toArray, List.map_cons, List.map_nil, hs, hx, hr]
  exact h v' w' h2 h3
end Go.Proofs.YtenbbefahpkhpaaGreatDoor
/- policy.Print, by its contract. -/
namespace Go.Proofs.YtenbbefahpkhpaaGreatDoor
open Go Go.RowKit Go.Maps

theorem name_le {s : List UInt8} (h : nameL s = true) : s.length ≤ 32 := by
  unfold nameL at h; simp only [Bool.and_eq_true, decide_eq_true_eq] at h; exact h.1.2
theorem line_le {x : Vw} (h : nameL x.s = true) : (lineOf x).length ≤ 225 := by
  have h1 := name_le h
  have h2 := text_le x.c
  unfold lineOf
  rw [List.length_append, List.length_cons]; omega
/-- A policy's lines as Go's strings. -/
def lineStrs (l : List Vw) : List ByteArray := l.map fun x => bs (lineOf x)
theorem lists_lines (l : List Vw) : listsOf (lineStrs l) = l.map lineOf := by
  unfold listsOf lineStrs
  rw [List.map_map]
  apply List.map_congr_left
  intro x _
  exact bs_list _
theorem lines_size : ∀ l : List Vw, (∀ x ∈ l, nameL x.s = true) → sizeOf' (lineStrs l) ≤ 226 * l.length
  | [], _ => by simp [sizeOf', lineStrs, listsOf]
  | x :: l, h => by
    have ih := lines_size l fun y hy => h y (List.mem_cons_of_mem _ hy)
    have hx := line_le (h x (List.mem_cons_self ..))
    unfold sizeOf' at ih ⊢
    rw [lists_lines] at ih ⊢
    simp only [List.map_cons, List.sum_cons, List.length_cons] at ih ⊢
    omega
theorem print_le {l : List Vw} (h : okL l) : (printL l).length ≤ 14464 := by
  have h1 := lines_size l h.2.2
  have h2 := h.1
  unfold printL
  rw [join_len, ← lists_lines]
  unfold sizeOf' at h1
  omega

/-- The two cells of a viewer at block b. -/
def VCell (b : Nat) (x : Vw) (W : World) : Prop := W.cell? ⟨b, 0, none⟩ = some (.string (bs x.s)) ∧ W.cell? ⟨b, 1, none⟩ = some (.int .u64 x.c)
theorem VCell.keep {b : Nat} {x : Vw} {W W' : World} (h : VCell b x W) (hb : Below W.heap.size W W') : VCell b x W' := by
  have hlt := World.block_lt_of_cell? W _ h.1
  exact ⟨(hb.cell (p := ⟨b, 0, none⟩) hlt).trans h.1, (hb.cell (p := ⟨b, 1, none⟩) hlt).trans h.2⟩
theorem VCell.grown {b : Nat} {x : Vw} {W W' : World} {row : Option Nat} (h : VCell b x W) (hg : W.grownBy W' row) (hne : row ≠ some b) : VCell b x W' :=
  ⟨hg.cell h.1 (fun e => hne e.symm), hg.cell h.2 (fun e => hne e.symm)⟩
theorem vcell_new (w : World) (x : Vw) (T : TypeId) : VCell w.heap.size x (w.alloc (.cells #[.string (bs x.s), .int .u64 x.c] T)) := by
  refine ⟨?_, ?_⟩ <;> (rw [World.cell?_alloc_mark]; rfl)
theorem cells_one (w : World) (y : Value) (T : TypeId) : ∀ j u, [y][j]? = some u → (w.alloc (.cells #[y] T)).cell? ((⟨w.heap.size, 0, none⟩ : Addr).add j) = some u := by
  intro j u hj
  match j, hj with
  | 0, hj => simp at hj; subst hj; simp [Addr.add]
theorem concat_bs (x : Vw) : bs x.s ++ ⟨#[32]⟩ ++ bs (textN x.c) = bs (lineOf x) := by
  apply ByteArray.ext
  simp [bs, lineOf, ByteArray.data_append]

set_option maxRecDepth 100000 in
set_option maxHeartbeats 4000000 in
theorem print_any (v : Value) (l : List Vw) (w : World) (hp : PolAt w v l) (hT : BTab w) : Calls Tryz.prog 14 #[v] w fun e w' => e = .returned (.string (bs (printL l))) ∧ Below w.heap.size w w' := by
  have cV := viewers_any v l w hp
  obtain ⟨i0, hi, hz0, hz1, hz2⟩ := info_parts strInfo
  obtain ⟨h64, _, hnames⟩ := hp.ok
  have hlo := hp.lo
  have HNM : Aside _ := hnames
  have HLO : Aside _ := hlo
  have hsz := lines_size l hnames
  obtain ⟨pp, b, rfl, _⟩ := hp.at'
  obtain ⟨n, hn⟩ : ∃ n, l.length = n := ⟨_, rfl⟩
  unfold GivesVw at cV
  rw [hn] at cV h64 hsz
  have HN := Lib.hid hn
  have HSZ := Lib.hid hsz
  have HT := Lib.hid hT
  clear hp hnames hlo hn hsz hT
  go_enter Tryz.func14, Tryz.ntmps14
  go_wp2_with (go_at_call 10; refine cV.mono ?_; rintro e w1 ⟨hb1, p1, c1, rfl, hr, ho⟩)
  have hs1 := hb1.size
  clear cV ho
  go_loopg [3, 9] n (fun g u vi wr => ∃ k : Nat, k + g = n ∧ vi = .int .i64 k ∧ Below w1.heap.size w1 wr ∧ Hid (wr.ownsRow w1.heap.size 9 1 u k ((lineStrs (l.take k)).map Value.string)))
  case atStart => exact ⟨0, by omega, rfl, Below.refl _ _, by rw [List.take_zero]; exact World.ownsRow_nil _ _ _ _⟩
  case round =>
    obtain ⟨k, hk, rfl, hbr, HO⟩ := hrel
    have hbrw : Below w.heap.size w wr := hb1.trans (hbr.mono hs1)
    have hsr := hbr.size
    by_cases hlt : k < n
    · have hlt' : k < l.length := by rw [HN.out]; exact hlt
      have hmem := List.getElem_mem hlt'
      obtain ⟨b1, o1, rfl, hbl1, h1c⟩ := hr.at k hlt'
      obtain ⟨g1, g2⟩ := h1c wr hbr
      have hx64 := HLO.out l[k] hmem
      have HNX := Lib.hid (HNM.out l[k] hmem)
      have cT := fun W h => text_any_lb l[k].c W hx64 h
      have hsn : Hid ((lineStrs (l.take (k + 1))).map Value.string = (lineStrs (l.take k)).map Value.string ++ [.string (bs (lineOf l[k]))]) := by
        show (lineStrs (l.take (k + 1))).map Value.string = _
        rw [List.take_succ_eq_append_getElem hlt']
        unfold lineStrs
        rw [List.map_append, List.map_append]; rfl
      generalize l[k] = x at *
      have hcat := concat_bs x
      have hS0 := vcell_new wr x 40
      have ho00 := HO.out
      have ho0 := HO.out.alloc (.cells #[.string (bs x.s), .int .u64 x.c] 40)
      have hb0 : Below w1.heap.size w1 (wr.alloc (.cells #[.string (bs x.s), .int .u64 x.c] 40)) := hbr.alloc hsr _
      have hbt : BTab (wr.alloc (.cells #[.string (bs x.s), .int .u64 x.c] 40)) := HT.out.below (hbrw.alloc (by omega) _)
      clear h1c hbr hbrw HO hmem
      have hnx := name_le (HNX.out)
      have htx := text_le x.c
      have ha1 : (bs x.s).size + 1 ≤ 9223372036854775807 := by rw [bs_size]; omega
      have ha2 : (bs x.s).size + 1 + (bs (textN x.c)).size ≤ 9223372036854775807 := by rw [bs_size, bs_size]; omega
      have hb1' : (9223372036854775807 < (bs x.s).size + 1) = False := by rw [eq_iff_iff, iff_false]; omega
      have hb2' : (9223372036854775807 ≤ (bs x.s).size) = False := by rw [eq_iff_iff, iff_false]; omega
      have hb3' : (9223372036854775807 < (bs x.s).size + 1 + (bs (textN x.c)).size) = False := by rw [eq_iff_iff, iff_false]; omega
      have hne : u3.ownBlock ≠ some wr.heap.size := fun e => by have := (ho00.lt _ e).2; omega
      change ∀ W, BTab W → Calls _ _ _ _ fun e w' => e = .returned (.string (bs (textN x.c))) ∧ _ at cT
      generalize hW0 : wr.alloc (.cells #[.string (bs x.s), .int .u64 x.c] 40) = W0 at *
      have hw0 : W0.heap.size = wr.heap.size + 1 := by rw [← hW0]; simp
      go_wp2_with fail
      clear hW0
      go_region_held3 (fun W => W.cell? ⟨wr.heap.size, 0, none⟩ = some (.string (bs x.s)) ∧ W.cell? ⟨wr.heap.size, 1, none⟩ = some (.int .u64 x.c))
        (first | exact (hS0 : VCell wr.heap.size x W0.drew) | exact hS2 | exact hS3 | exact hS4 | go_keep)
        (first
          | (go_at_call 33; refine (cT _ (hbt.below (Below.drew (Below.refl _ _)))).mono ?_; rintro e w2 ⟨rfl, hb2⟩; have hS2 : VCell wr.heap.size x w2 := VCell.keep (W := W0.drew) hS0 hb2; have hS3 : VCell wr.heap.size x (w2.alloc (.cells #[.string (bs (lineOf x))] 9)) := VCell.keep hS2 ((Below.refl _ _).alloc (Nat.le_refl _) _); have ho1 := ownsAny_later (w := W0.drew) ho0 hb2; have ho2 := ho1.alloc (.cells #[.string (bs (lineOf x))] 9); have hsz2 : W0.heap.size ≤ w2.heap.size := hb2.size)
          | (refine step_append_own rfl _ _ 33 rfl w1.heap.size 9 i0 (.string ⟨#[]⟩) 1 16 Tryz.underlying33 hi hz0 hz1 hz2 rfl (by decide) _ k _ rfl ho2 ⟨w2.heap.size, 0, none⟩ 1 1 [.string (bs (lineOf x))] rfl rfl (cells_one _ _ _) (by simp [Value.oneCell']) (by unfold maxLen; omega) (by omega) (by simp; omega) ?_; intro u' w3 hown' hgr'; have hS4 : VCell wr.heap.size x w3 := VCell.grown hS3 hgr' hne))
      have hb3 : Below w1.heap.size w1 w3 := (((Below.drew hb0).trans (hb2.mono (by show w1.heap.size ≤ W0.heap.size; omega))).alloc (by omega) _).grown hgr' (by simp; omega) (fun g hg => (ho2.lt g hg).1)
      have HO2 : Hid (w3.ownsRow w1.heap.size 9 1 u' (k + 1) ((lineStrs (l.take (k + 1))).map Value.string)) := by rw [hsn.out]; exact hown'
      clear hown' hgr' ho2 ho1 hb2 hS2 hS3 hS4 hS0 ho0 ho00 hb0 hcat hb1' hb2' hb3' ha1 ha2 cT hbt hsn
      go_wp2_with fail
      go_roundg (gk - 1)
      case rel => exact ⟨k + 1, by omega, by go_num, hb3, HO2⟩
      case measure => omega
    · obtain rfl : k = n := by omega
      have hall : l.take k = l := by rw [← HN.out]; exact List.take_length
      have HO2 := Lib.hid HO.out
      rw [hall] at HO2
      have hll : (lineStrs l).length = k := by unfold lineStrs; rw [List.length_map]; exact HN.out
      have HBW := Lib.hid hbrw
      obtain ⟨p2, c2, hu, hrow⟩ := row_owned (ks := lineStrs l) (by rw [hll]; exact HO2.out)
      rw [hll] at hu
      subst hu
      have cJ := joined_any wr p2 c2 (lineStrs l) hrow (by have := HSZ.out; omega)
      rw [hll, lists_lines] at cJ
      clear HO hbr hbrw hall HO2 hrow
      go_wp2_with (go_at_call 34; refine cJ.mono ?_; rintro e w5 ⟨rfl, hb5⟩)
      go_ret
      exact ⟨rfl, HBW.out.trans (hb5.mono HBW.out.size)⟩
end Go.Proofs.YtenbbefahpkhpaaGreatDoor
/- policy.Parse, by its contract. -/
namespace Go.Proofs.YtenbbefahpkhpaaGreatDoor
open Go Go.RowKit Go.Maps

/-- What Parse answers. -/
def ParseSays (s : List UInt8) (W : World) (e : Ending) (w' : World) : Prop := Below W.heap.size W w' ∧
  ((∃ (a : Addr) (l : List Vw), e = .returned (.tuple #[.pointer (some a), .int .i64 0]) ∧ PolAt w' (.pointer (some a)) l ∧ Spells s l) ∨ ((¬ ∃ l, Spells s l) ∧ e = .returned (.tuple #[.pointer none, .int .i64 4])))

set_option maxRecDepth 100000 in
set_option maxHeartbeats 2000000 in
theorem parse_pol (s : ByteArray) (w : World) (hs : s.size < 4294967281) (hM : MaxS w) (hT : BTab w) (hE : EvW w) : Calls Tryz.prog 17 #[.string s] w (ParseSays s.data.toList w) := by
  have cR := read_pol s w hs hM hT hE
  have HT := Lib.hid hT
  clear hT hM hE
  go_enter Tryz.func17, Tryz.ntmps17
  go_wp2_with fail
  refine cR.mono ?_
  rintro e w1 ⟨hb1, ⟨p, c, l, rfl, hrow, hfit, hlen, hrd⟩ | ⟨hno, rfl⟩⟩
  · have cN := new_any w1 p l.length c l rfl hlen hrow hfit
    obtain ⟨hyes, hno1, hno2⟩ := spells_of hrd
    have HY := Lib.hid hyes
    have HN1 := Lib.hid hno1
    have HN2 := Lib.hid hno2
    obtain ⟨n, hn⟩ : ∃ n, l.length = n := ⟨_, rfl⟩
    rw [hn] at cN ⊢
    clear cR hrow hfit hlen hrd hyes hno1 hno2 hn
    go_wp2_with fail
    refine cN.mono ?_
    rintro e w2 ⟨hb2, ⟨hok, v, rfl, hp, a, rfl⟩ | ⟨hnok, rfl⟩⟩
    · have hb := hb1.trans (hb2.mono hb1.size)
      have cP := print_any _ _ w2 hp (HT.out.below hb)
      have HP : Aside _ := hp
      by_cases hq : printL (sortV l) = s.data.toList
      · have hyes := HY.out ⟨hok, hq⟩
        have hbq : ((bs (printL (sortV l))).toList == s.toList) = true := by
          rw [ByteArray.toList_eq, ByteArray.toList_eq, bs_list, hq]; simp
        have HQ := Lib.hid hyes
        clear cN hp hq hyes HY HN1 HN2
        go_wp2_with (first | (go_at_call 14; refine cP.mono ?_; rintro e w3 ⟨rfl, hb3⟩))
        go_ret2
        exact ⟨hb.trans (hb3.mono hb.size), .inl ⟨a, _, rfl, PolAt.later HP.out hb3, HQ.out⟩⟩
      · have hno := HN2.out hq
        have hbq : ((bs (printL (sortV l))).toList == s.toList) = false := by
          rw [ByteArray.toList_eq, ByteArray.toList_eq, bs_list]; exact beq_false_of_ne hq
        clear cN hp hq HY HN1 HN2
        go_wp2_with (first | (go_at_call 14; refine cP.mono ?_; rintro e w3 ⟨rfl, hb3⟩))
        go_ret2
        exact ⟨hb.trans (hb3.mono hb.size), .inr ⟨hno, rfl⟩⟩
    · have hno := HN1.out hnok
      clear cN HY HN1 HN2
      go_wp2_with fail
      go_ret2
      exact ⟨hb1.trans (hb2.mono hb1.size), .inr ⟨hno, rfl⟩⟩
  · clear cR
    go_wp2_with fail
    go_ret2
    exact ⟨hb1, .inr ⟨hno, rfl⟩⟩
end Go.Proofs.YtenbbefahpkhpaaGreatDoor
/- scrimlaw03.works, by its contract. -/
namespace Go.Proofs.YtenbbefahpkhpaaGreatDoor
open Go Go.RowKit Go.Maps

def bobN : List UInt8 := [98, 111, 98]
def annN : List UInt8 := [97, 110, 110]
def lw : List Vw := [⟨bobN, 8⟩, ⟨annN, 0⟩]
def lr : List Vw := [⟨annN, 0⟩, ⟨bobN, 8⟩]
theorem lw_ok : okL lw := by decide
theorem lr_ok : okL lr := by decide
theorem lr_rising : Rising lr := by unfold Rising lr; decide
theorem lw_sort : sortV lw = lr := sortV_of_perm lr_rising (List.Perm.swap _ _ _)
theorem lr_lo : Lo64 lr := fun x hx => by
  simp only [lr, List.mem_cons, List.not_mem_nil, or_false] at hx
  rcases hx with rfl | rfl <;> decide
theorem lw_fit : Fit64 lw := fun x hx => by
  simp only [lw, List.mem_cons, List.not_mem_nil, or_false] at hx
  rcases hx with rfl | rfl
  · exact ⟨by decide, by unfold maxLen; simp [bobN]⟩
  · exact ⟨by decide, by unfold maxLen; simp [annN]⟩
def lrText : List UInt8 := [97, 110, 110, 32, 45, 10, 98, 111, 98, 32, 51, 10]
theorem lr_print : printL lr = lrText := by
  have h : textN 8 = [51] := by
    unfold textN
    rw [if_neg (by decide), show listTo 8 64 = [3] by decide +kernel, List.map_cons, List.map_nil, Lib.join_one, dec_lt 3 (by decide)]
    decide +kernel
  have h0 : textN 0 = [45] := rfl
  unfold printL lr
  simp only [List.map_cons, List.map_nil, lineOf, h, h0]
  rfl
theorem lr_spells : Spells (printL lr) lr := ⟨lr_ok, lr_rising, lr_lo, rfl⟩
theorem lw_row (w : World) (T : TypeId) : VwRow (w.alloc (.cells #[.string ⟨#[98, 111, 98]⟩, .int .u64 8, .string ⟨#[97, 110, 110]⟩, .int .u64 0] T)) (some ⟨w.heap.size, 0, none⟩) lw := fun i hi => by
  have h2 : i < 2 := hi
  refine ⟨w.heap.size, 0, rfl, by simp, ?_⟩
  rcases (by omega : i = 0 ∨ i = 1) with rfl | rfl
  · refine ⟨?_, ?_⟩ <;> (rw [World.cell?_alloc_mark]; rfl)
  · refine ⟨?_, ?_⟩ <;> (rw [World.cell?_alloc_mark]; rfl)

set_option maxRecDepth 100000 in
set_option maxHeartbeats 4000000 in
theorem works_pol (w : World) (hM : MaxS w) (hT : BTab w) (hE : EvW w) : Calls Tryz.prog 8 #[] w fun e w' => e = .returned (.bool true) ∧ Below w.heap.size w w' := by
  have cN := fun T => new_any _ (some ⟨w.heap.size, 0, none⟩) 2 2 lw rfl (by unfold maxLen; omega) (lw_row w T) lw_fit
  have HM := Lib.hid hM; have HT := Lib.hid hT; have HE := Lib.hid hE
  clear hM hT hE
  go_enter Tryz.func8, Tryz.ntmps8
  go_wp2_with fail
  refine (cN _).mono ?_
  rintro e w1 ⟨hb1, ⟨_, v1, rfl, hp1, a, rfl⟩ | ⟨hno, _⟩⟩
  rotate_left
  · exact absurd lw_ok hno
  rw [lw_sort] at hp1
  have hbw : Below w.heap.size w w1 := ((Below.refl _ w).alloc (Nat.le_refl _) _).trans (hb1.mono (by simp))
  have c1 := clearance_any _ lr ⟨#[98, 111, 98]⟩ w1 hp1 (by unfold maxLen; simp [ByteArray.size])
  have e1 : clrV lr (⟨#[98, 111, 98]⟩ : ByteArray).data.toList = .tuple #[.int .u64 8, .int .i64 0] := by
    have hl : look lr bobN = some 8 := by decide
    show clrV lr bobN = _
    unfold clrV; rw [hl]; rfl
  rw [e1] at c1
  have c2 := print_any _ lr w1 hp1 (HT.out.below hbw)
  have HP : Aside _ := hp1
  clear cN hb1 hp1 e1
  go_wp2_with (first
    | (go_at_call 9; refine c1.mono ?_; rintro e w' ⟨rfl, rfl⟩)
    | (go_at_call 14; refine c2.mono ?_; rintro e w2 ⟨rfl, hb2⟩))
  have hbw2 := hbw.trans (hb2.mono hbw.size)
  have hp2 := PolAt.later HP.out hb2
  have c3 := parse_pol (bs (printL lr)) w2 (by rw [bs_size]; have := print_le lr_ok; omega) (HM.out.below hbw2) (HT.out.below hbw2) (HE.out.below hbw2)
  rw [bs_list] at c3
  have HP2 : Aside _ := hp2
  clear c1 c2 HP hp2 hb2
  refine c3.mono ?_
  rintro e w3 ⟨hb3, ⟨aq, lq, rfl, hq3, hsp⟩ | ⟨hno, _⟩⟩
  rotate_left
  · exact absurd ⟨lr, lr_spells⟩ hno
  have hlq : lq = lr := spells_one hsp lr_spells
  subst hlq
  have hbw3 := hbw2.trans (hb3.mono hbw2.size)
  have hp3 := PolAt.later HP2.out hb3
  have HQ3 : Aside _ := hq3
  have HP3 : Aside _ := hp3
  have c4 := viewers_any _ lr w3 hp3
  unfold GivesVw at c4
  have hl2 : lr.length = 2 := rfl
  rw [hl2] at c4
  clear c3 HP2 hp3 hq3 hsp hb3 hl2
  go_wp2_with (first | (go_at_call 10; refine c4.mono ?_; rintro e w4 ⟨hb4, p4, k4, rfl, _, _⟩))
  have hbw4 := hbw3.trans (hb4.mono hbw3.size)
  have hp4 := PolAt.later HP3.out hb4
  have c5 := polAbove_any _ lr 8 w4 hp4 (by decide)
  unfold GivesNm at c5
  have hl1 : (names (lr.filter fun x => belowB 8 x.c)).length = 1 := by decide
  rw [hl1] at c5
  have HP4 : Aside _ := hp4
  have HQ4 : Aside _ := PolAt.later HQ3.out hb4
  clear c4 HP3 HQ3 hb4 hp4 hl1
  go_wp2_with (first | (go_at_call 13; refine c5.mono ?_; rintro e w5 ⟨hb5, p5, k5, rfl, _, _⟩))
  have hbw5 := hbw4.trans (hb5.mono hbw4.size)
  have hp5 := PolAt.later HP4.out hb5
  have c6 := print_any _ lr w5 hp5 (HT.out.below hbw5)
  rw [lr_print] at c6
  have HP5 : Aside _ := hp5
  have HQ5 : Aside _ := PolAt.later HQ4.out hb5
  clear c5 HP4 HQ4 hb5 hp5
  have heq : ((bs lrText).toList == (⟨#[97, 110, 110, 32, 45, 10, 98, 111, 98, 32, 51, 10]⟩ : ByteArray).toList) = true := by decide +kernel
  have heq2 : ((bs lrText).toList == [97, 110, 110, 32, 45, 10, 98, 111, 98, 32, 51, 10]) = true := by decide +kernel
  have tok : True := trivial
  obtain ⟨tx, htx⟩ : ∃ tx, bs lrText = tx := ⟨_, rfl⟩
  rw [htx] at c6 heq heq2
  have HTX := Lib.hid htx
  clear htx
  go_wp2_with (first | (go_at_call 14; have _t := tok; refine c6.mono ?_; rintro e w6 ⟨rfl, hb6⟩; clear tok) | fail)
  have hbw6 := hbw5.trans (hb6.mono hbw5.size)
  have c7 := print_any _ lr w6 (PolAt.later HQ5.out hb6) (HT.out.below hbw6)
  rw [lr_print, HTX.out] at c7
  have HP6 : Aside _ := PolAt.later HP5.out hb6
  clear c6 HP5 HQ5 hb6
  refine c7.mono ?_
  rintro e w7 ⟨rfl, hb7⟩
  have hbw7 := hbw6.trans (hb7.mono hbw6.size)
  have c8 := print_any _ lr w7 (PolAt.later HP6.out hb7) (HT.out.below hbw7)
  rw [lr_print, HTX.out] at c8
  clear c7 HP6 hb7
  go_wp2_with fail
  refine c8.mono ?_
  rintro e w8 ⟨rfl, hb8⟩
  have hbw8 := hbw7.trans (hb8.mono hbw7.size)
  have hsame : (tx.toList == tx.toList) = true := by simp
  clear c8 hb8
  go_wp2_with fail
  go_ret
  exact ⟨rfl, hbw8⟩
end Go.Proofs.YtenbbefahpkhpaaGreatDoor
/- scrimlaw03.fit, by its contract. -/
namespace Go.Proofs.YtenbbefahpkhpaaGreatDoor
open Go Go.RowKit Go.Maps

/-- A list of labels that a slice points to. -/
def LabRow (w : World) (p : Option Addr) (cs : List Nat) : Prop := ∀ i (h : i < cs.length), ∃ b off, p = some ⟨b, off, none⟩ ∧ b < w.heap.size ∧ w.cell? ⟨b, off + i, none⟩ = some (.int .u64 cs[i])
theorem LabRow.at {w : World} {p : Option Addr} {cs : List Nat} (h : LabRow w p cs) (i : Nat) (hi : i < cs.length) : ∃ b off, p = some ⟨b, off, none⟩ ∧ b < w.heap.size ∧ ∀ W, Below w.heap.size w W → W.cell? ⟨b, off + i, none⟩ = some (.int .u64 cs[i]) := by
  obtain ⟨b, off, e, hlt, hc⟩ := h i hi
  exact ⟨b, off, e, hlt, fun W hb => (hb.cell (p := ⟨b, off + i, none⟩) hlt).trans hc⟩
theorem LabRow.later {w W : World} {p : Option Addr} {cs : List Nat} (h : LabRow w p cs) (hb : Below w.heap.size w W) : LabRow W p cs := fun i hi => by
  obtain ⟨b, off, e, hlt, hc⟩ := h i hi
  exact ⟨b, off, e, Nat.lt_of_lt_of_le hlt hb.size, (hb.cell (p := ⟨b, off + i, none⟩) hlt).trans hc⟩
/-- The i-th name. -/
def nameF (i : Nat) : List UInt8 := [UInt8.ofNat (97 + i % 26), UInt8.ofNat (97 + i / 26)]
def fitTo (cs : List Nat) (k : Nat) : List Vw := (List.range k).map fun i => ⟨nameF i, cs.getD i 0⟩
def fitL (cs : List Nat) : List Vw := fitTo cs (min cs.length 64)
theorem fitTo_len (cs : List Nat) (k : Nat) : (fitTo cs k).length = k := by simp [fitTo]
theorem fitTo_step (cs : List Nat) (k : Nat) (h : k < cs.length) : fitTo cs (k + 1) = fitTo cs k ++ [⟨nameF k, cs[k]⟩] := by
  unfold fitTo
  rw [List.range_succ, List.map_append]
  simp [List.getD_eq_getElem?_getD, List.getElem?_eq_getElem h]
theorem names_fit (cs : List Nat) (k : Nat) : names (fitTo cs k) = (List.range k).map nameF := by
  unfold names fitTo
  rw [List.map_map]; rfl
theorem nameF_nodup : ((List.range 64).map nameF).Nodup := by decide +kernel
theorem nameF_ok : ∀ i : Fin 64, nameL (nameF i.val) = true := by decide +kernel
theorem fit_ok (cs : List Nat) (k : Nat) (hk : k ≤ 64) : okL (fitTo cs k) := by
  refine ⟨by rw [fitTo_len]; exact hk, ?_, fun x hx => ?_⟩
  · rw [names_fit]
    exact nameF_nodup.sublist ((List.range_sublist.2 hk).map _)
  · unfold fitTo at hx
    obtain ⟨i, hi, rfl⟩ := List.mem_map.1 hx
    exact nameF_ok ⟨i, by have := List.mem_range.1 hi; omega⟩
theorem fit_lo (cs : List Nat) (k : Nat) (h : ∀ c ∈ cs, c < 18446744073709551616) : Lo64 (fitTo cs k) := fun x hx => by
  unfold fitTo at hx
  obtain ⟨i, _, rfl⟩ := List.mem_map.1 hx
  show cs.getD i 0 < _
  rw [List.getD_eq_getElem?_getD]
  cases e : cs[i]? with
  | none => decide
  | some c => exact h c (List.mem_of_getElem? e)
theorem fit_text (W : World) (b k : Nat) (hk : k < 64) (h0 : W.cell? ⟨b, 0, none⟩ = some (.int .u8 (97 + ((k % 26 : Nat) : Int)))) (h1 : W.cell? ⟨b, 1, none⟩ = some (.int .u8 (97 + ((k / 26 : Nat) : Int)))) :
    (convert 68 9 (.slice (some ⟨b, 0, none⟩) 2 2)).run Tryz.prog W = .ok (.string (bs (nameF k))) W := by
  refine run_convert_bytes_back (P := Tryz.prog) _ 68 9 5 ⟨b, 0, none⟩ 2 (nameF k) Tryz.underlying68 Tryz.underlying5 Tryz.underlying9 (fun j hj => ?_)
  have e1 : (UInt8.ofNat (97 + k % 26)).toNat = 97 + k % 26 := by rw [UInt8.toNat_ofNat']; omega
  have e2 : (UInt8.ofNat (97 + k / 26)).toNat = 97 + k / 26 := by rw [UInt8.toNat_ofNat']; omega
  rcases (by have : j < 2 := hj; omega : j = 0 ∨ j = 1) with rfl | rfl
  · rw [show (⟨b, 0, none⟩ : Addr).add 0 = ⟨b, 0, none⟩ from rfl, h0]
    show some (Value.int .u8 (97 + ((k % 26 : Nat) : Int))) = some (Value.int .u8 ((UInt8.ofNat (97 + k % 26)).toNat : Int))
    rw [e1]; simp
  · rw [show (⟨b, 0, none⟩ : Addr).add 1 = ⟨b, 1, none⟩ from rfl, h1]
    show some (Value.int .u8 (97 + ((k / 26 : Nat) : Int))) = some (Value.int .u8 ((UInt8.ofNat (97 + k / 26)).toNat : Int))
    rw [e2]; simp
theorem fit_conv (w : World) (k : Nat) (hk : k < 64) :
    (convert 68 9 (.slice (some ⟨w.heap.size, 0, none⟩) 2 2)).run Tryz.prog (w.alloc (.cells #[.int .u8 (IntKind.u8.wrap (IntKind.i64.wrap (97 + (k : Int) % 26))), .int .u8 (IntKind.u8.wrap (IntKind.i64.wrap (97 + IntKind.i64.wrap ((k : Int) / 26))))] 5)).drew = .ok (.string (bs (nameF k))) (w.alloc (.cells #[.int .u8 (IntKind.u8.wrap (IntKind.i64.wrap (97 + (k : Int) % 26))), .int .u8 (IntKind.u8.wrap (IntKind.i64.wrap (97 + IntKind.i64.wrap ((k : Int) / 26))))] 5)).drew := by
  have e1 : IntKind.u8.wrap (IntKind.i64.wrap (97 + (k : Int) % 26)) = 97 + ((k % 26 : Nat) : Int) := by rw [IntKind.wrap_i64, IntKind.wrap_u8]; omega
  have e2 : IntKind.u8.wrap (IntKind.i64.wrap (97 + IntKind.i64.wrap ((k : Int) / 26))) = 97 + ((k / 26 : Nat) : Int) := by rw [IntKind.wrap_i64, IntKind.wrap_i64, IntKind.wrap_u8]; omega
  rw [e1, e2]
  refine fit_text _ _ k hk ?_ ?_
  · show (w.alloc _).cell? _ = _
    rw [World.cell?_alloc_mark]; rfl
  · show (w.alloc _).cell? _ = _
    rw [World.cell?_alloc_mark]; rfl
theorem cells_two (w : World) (x y : Value) (T : TypeId) : ∀ j u, [x, y][j]? = some u → (w.alloc (.cells #[x, y] T)).cell? ((⟨w.heap.size, 0, none⟩ : Addr).add j) = some u := by
  intro j u hj
  match j, hj with
  | 0, hj => simp at hj; subst hj; simp [Addr.add]
  | 1, hj => simp at hj; subst hj; simp [Addr.add]

theorem cells_two2 (w : World) (o : Obj) (x y : Value) (T : TypeId) : ∀ j u, [x, y][j]? = some u → ((w.alloc o).alloc (.cells #[x, y] T)).drew.cell? ((⟨w.heap.size + 1, 0, none⟩ : Addr).add j) = some u := by
  intro j u hj
  have h := cells_two (w.alloc o) x y T j u hj
  rw [show (w.alloc o).heap.size = w.heap.size + 1 by simp] at h
  exact h

set_option maxRecDepth 100000 in
set_option maxHeartbeats 4000000 in
theorem fit_any (w : World) (p : Option Addr) (n c : Nat) (cs : List Nat) (hn : cs.length = n) (hr : LabRow w p cs) :
    Calls Tryz.prog 18 #[.slice p n c] w (GivesVw w (fitL cs)) := by
  obtain ⟨i0, hi, hz0, hz1, hz2⟩ := info_parts vwInfo
  have HN := Lib.hid hn
  clear hn
  go_enter Tryz.func18, Tryz.ntmps18
  go_wp2
  go_loopg [3, 4] (64 - 0) (fun g u vi wr => ∃ k : Nat, k + g = 64 ∧ k ≤ n ∧ vi = .int .i64 k ∧ Below w.heap.size w wr ∧ Hid (wr.ownsRow w.heap.size 40 2 u k (flat (fitTo cs k))))
  case atStart => exact ⟨0, by omega, by omega, rfl, Below.refl _ _, World.ownsRow_nil _ _ _ _⟩
  case round =>
    obtain ⟨k, hk, hkn, rfl, hbr, HO⟩ := hrel
    have hsr := hbr.size
    by_cases hlt : k < n
    · by_cases h64 : k < 64
      · have hlt' : k < cs.length := by rw [HN.out]; exact hlt
        obtain ⟨b1, o1, rfl, hb1, h1c⟩ := hr.at k hlt'
        have g1 := h1c wr hbr
        have g0 := h1c w (Below.refl _ _)
        have hst := Lib.hid (fitTo_step cs k hlt')
        generalize cs[k] = y at *
        have cT := fit_conv wr k h64
        have e1 : Int.tmod (k : Int) 26 = ((k % 26 : Nat) : Int) := by rw [Int.tmod_eq_emod_of_nonneg (by omega)]; omega
        have e2 : Int.tdiv (k : Int) 26 = ((k / 26 : Nat) : Int) := by rw [Int.tdiv_eq_ediv_of_nonneg (by omega)]; omega
        have hk0 : (0 : Int) ≤ (k : Int) := by omega
        have hkI : (k : Int) < (n : Int) := by omega
        have h64I : (k : Int) < 64 := by omega
        have ho0 := HO.out
        have HB := Lib.hid hbr
        have G0 := Lib.hid g0
        clear h1c HO hbr g0
        go_wp2_with fail
        have gA : ∀ o, (wr.alloc o).cell? ⟨b1, o1 + k, none⟩ = some (.int .u64 y) := fun o => (World.cell?_alloc_some wr _ o (by rw [g1]; rfl)).trans g1
        go_region_law (first | (refine step_append_own rfl _ _ 29 rfl w.heap.size 40 i0 (.agg #[.string ⟨#[]⟩, .int .u64 0]) 2 24 Tryz.underlying29 hi hz0 hz1 hz2 rfl (by decide) _ k _ rfl ((ho0.alloc _).alloc _) ⟨wr.heap.size + 1, 0, none⟩ 1 1 [.string (bs (nameF k)), .int .u64 y] rfl rfl (by exact cells_two2 wr _ _ _ _) (by simp [Value.oneCell']) (by unfold maxLen; omega) (by omega) (by simp; omega) ?_; intro u' w3 hown' hgr'; have hB3 : Below w.heap.size w w3 := ((HB.out.alloc hsr _).alloc (by simp; omega) _).drew.grown hgr' (by simp; omega) (fun g hg => (ho0.lt g hg).1)))
        all_goals
          have HO2 : Hid (w3.ownsRow w.heap.size 40 2 u' (k + 1) (flat (fitTo cs (k + 1)))) := by
            show w3.ownsRow _ _ _ _ _ _
            rw [hst.out, flat_snoc]; exact hown'
          clear hown' hgr' ho0 cT
          go_wp2_with fail
          go_roundg (gk - 1)
        all_goals first
          | exact ⟨k + 1, by omega, by omega, by go_num, hB3, HO2⟩
          | omega
      · have hk64 : k = 64 := by omega
        have HB := Lib.hid hbr
        have hmin : fitL cs = fitTo cs k := by unfold fitL; rw [HN.out, Nat.min_eq_right (by omega), hk64]
        have HM := Lib.hid hmin
        clear hbr hmin
        go_wp2_with fail
        go_ret
        obtain ⟨p1, c1, hu, hrow⟩ := vw_owned (fitTo_len cs k) HO.out
        have ho := HO.out
        refine ⟨HB.out, p1, c1, ?_, ?_, ?_⟩
        · rw [HM.out, fitTo_len, hu]; rfl
        · rw [HM.out]; exact hrow
        · rw [HM.out, fitTo_len, ← hu]; exact ho
    · have hkn' : k = n := by omega
      have HB := Lib.hid hbr
      have hmin : fitL cs = fitTo cs k := by unfold fitL; rw [HN.out, Nat.min_eq_left (by omega), hkn']
      have HM := Lib.hid hmin
      clear hbr hmin
      go_wp2_with fail
      go_ret
      obtain ⟨p1, c1, hu, hrow⟩ := vw_owned (fitTo_len cs k) HO.out
      have ho := HO.out
      refine ⟨HB.out, p1, c1, ?_, ?_, ?_⟩
      · rw [HM.out, fitTo_len, hu]; rfl
      · rw [HM.out]; exact hrow
      · rw [HM.out, fitTo_len, ← hu]; exact ho
end Go.Proofs.YtenbbefahpkhpaaGreatDoor
/- scrimlaw03.same and has, by their contracts. -/
namespace Go.Proofs.YtenbbefahpkhpaaGreatDoor
open Go Go.RowKit

theorem bs_beq (x y : List UInt8) : ((bs x).toList == (bs y).toList) = (x == y) := by rw [ByteArray.toList_eq, ByteArray.toList_eq, bs_list, bs_list]

set_option maxRecDepth 100000 in
set_option maxHeartbeats 2000000 in
theorem has_any (w : World) (p : Option Addr) (n c : Nat) (ns : List (List UInt8)) (s : List UInt8) (hn : ns.length = n) (h64 : n ≤ 64) (hr : NmRow w p ns) :
    Calls Tryz.prog 25 #[.slice p n c, .string (bs s)] w fun e w' => e = .returned (.bool (decide (s ∈ ns))) ∧ w = w' := by
  have HN := Lib.hid hn
  have hhit := Lib.hid (fun (k : Nat) (h : k < ns.length) (e : ns[k] = s) => (show decide (s ∈ ns) = true from decide_eq_true (e ▸ List.getElem_mem h)))
  have hall := Lib.hid (fun (h : ∀ k (h : k < ns.length), ns[k] ≠ s) => (show decide (s ∈ ns) = false from decide_eq_false (fun hm => by
    obtain ⟨k, hk, e⟩ := List.getElem_of_mem hm
    exact h k hk e)))
  obtain ⟨res, hres⟩ : ∃ b, decide (s ∈ ns) = b := ⟨_, rfl⟩
  rw [hres] at hhit hall ⊢
  clear hn hres
  go_enter Tryz.func25, Tryz.ntmps25
  go_wp2
  go_loopg [5] n (fun g vi wr => ∃ k : Nat, k + g = n ∧ vi = .int .i64 k ∧ w = wr ∧ Hid (∀ j (h : j < ns.length), j < k → ns[j] ≠ s))
  case atStart => exact ⟨0, by omega, rfl, rfl, fun j _ h => absurd h (Nat.not_lt_zero _)⟩
  case round =>
    obtain ⟨k, hk, rfl, rfl, HO⟩ := hrel
    by_cases hlt : k < n
    · have hlt' : k < ns.length := by rw [HN.out]; exact hlt
      obtain ⟨b1, o1, rfl, h1c⟩ := hr.at k hlt'
      have g1 := h1c _ (Below.refl _ _)
      have hh := Lib.hid (hhit.out k hlt')
      have hnx := Lib.hid (fun (e : ns[k] ≠ s) j (h : j < ns.length) (hj : j < k + 1) => (show ns[j] ≠ s from by
        by_cases e' : j = k
        · subst e'; exact e
        · exact HO.out j h (by omega)))
      generalize ns[k] = t at *
      have hbb := bs_beq t s
      have hk0 : (0 : Int) ≤ (k : Int) := by omega
      have hkI : (k : Int) < (n : Int) := by omega
      clear h1c hhit hall HO
      by_cases e : t = s
      · have hr1 := hh.out e
        rw [beq_iff_eq.2 e] at hbb
        subst hr1
        clear hh hnx e
        go_wp2_with fail
        go_ret
        exact ⟨rfl, rfl⟩
      · rw [beq_false_of_ne e] at hbb
        have hnx' := Lib.hid (hnx.out e)
        clear hh hnx e
        go_wp2_with fail
        go_roundg (gk - 1)
        case rel => exact ⟨k + 1, by omega, by go_num, rfl, fun j h hj => hnx'.out j h hj⟩
        case measure => omega
    · obtain rfl : k = n := by omega
      have hr1 := hall.out fun j h => HO.out j h (by have := HN.out; omega)
      subst hr1
      clear hhit hall HO
      go_wp2_with fail
      go_ret
      exact ⟨rfl, rfl⟩

set_option maxRecDepth 100000 in
set_option maxHeartbeats 2000000 in
theorem same_any (w : World) (p q : Option Addr) (n c d : Nat) (xs : List Vw) (hn : xs.length = n) (h64 : n ≤ 64) (hp : VwRow w p xs) (hq : VwRow w q xs) :
    Calls Tryz.prog 24 #[.slice p n c, .slice q n d] w fun e w' => e = .returned (.bool true) ∧ Below w.heap.size w w' := by
  have HN := Lib.hid hn
  clear hn
  go_enter Tryz.func24, Tryz.ntmps24
  go_wp2
  go_loopg [5] n (fun g vi wr => ∃ k : Nat, k + g = n ∧ vi = .int .i64 k ∧ Below w.heap.size w wr)
  case atStart => exact ⟨0, by omega, rfl, Below.refl _ _⟩
  case round =>
    obtain ⟨k, hk, rfl, hbr⟩ := hrel
    by_cases hlt : k < n
    · have hlt' : k < xs.length := by rw [HN.out]; exact hlt
      obtain ⟨b1, o1, rfl, _, h1c⟩ := hp.at k hlt'
      obtain ⟨b2, o2, rfl, _, h2c⟩ := hq.at k hlt'
      obtain ⟨g1, g2⟩ := h1c wr hbr
      obtain ⟨g3, g4⟩ := h2c wr hbr
      generalize xs[k] = x at *
      have hk0 : (0 : Int) ≤ (k : Int) := by omega
      have hkI : (k : Int) < (n : Int) := by omega
      have HB := Lib.hid hbr
      clear h1c h2c hbr
      go_wp2_with fail
      go_quiet (fail)
      go_wp2
      go_roundg (gk - 1)
      case rel => exact ⟨k + 1, by omega, by go_num, below_drewN' HB.out _⟩
      case measure => omega
    · obtain rfl : k = n := by omega
      go_wp2_with fail
      go_ret
      exact ⟨rfl, hbr⟩
end Go.Proofs.YtenbbefahpkhpaaGreatDoor
/- scrimlaw03.PolicyBack, walked: it returns true. -/
namespace Go.Proofs.YtenbbefahpkhpaaGreatDoor
open Go Go.RowKit Go.Maps

/-- Three policies of the same viewers, and the library's table. -/
structure Three (W : World) (p q r : Value) (L : List Vw) : Prop where
  p : PolAt W p L
  q : PolAt W q L
  r : PolAt W r L
  t : BTab W
theorem Three.later {W W' : World} {p q r : Value} {L : List Vw} (h : Three W p q r L) (hb : Below W.heap.size W W') : Three W' p q r L := ⟨h.p.later hb, h.q.later hb, h.r.later hb, h.t.below hb⟩
theorem OKL.nd {l : List Vw} (h : okL l) : (names l).Nodup := h.2.1
/-- The list, begun at place r, as far as k. -/
def turnTo (l : List Vw) (r k : Nat) : List Vw := (List.range k).map fun i => l.getD ((i + r) % l.length) default
theorem turn_len (l : List Vw) (r k : Nat) : (turnTo l r k).length = k := by simp [turnTo]
theorem turn_step (l : List Vw) (r k j : Nat) (h : (k + r) % l.length = j) (hj : j < l.length) : turnTo l r (k + 1) = turnTo l r k ++ [l[j]] := by
  unfold turnTo
  rw [List.range_succ, List.map_append]
  simp [List.getD_eq_getElem?_getD, h, List.getElem?_eq_getElem hj]
theorem turn_perm (l : List Vw) (r : Nat) (h : r < l.length ∨ l.length = 0) : (turnTo l r l.length).Perm l := by
  rcases h with h | h
  · have e : turnTo l r l.length = l.drop r ++ l.take r := by
      apply List.ext_getElem
      · rw [turn_len, List.length_append, List.length_drop, List.length_take]; omega
      · intro i h1' h2
        have h1 := h1'
        rw [turn_len] at h1
        have h0 : (turnTo l r l.length)[i]'h1' = l.getD ((i + r) % l.length) default := by simp [turnTo]
        rw [h0, List.getElem_append]
        split
        · rename_i h3
          rw [List.length_drop] at h3
          rw [List.getElem_drop, Nat.mod_eq_of_lt (by omega), List.getD_eq_getElem?_getD, List.getElem?_eq_getElem (by omega)]
          simp [Nat.add_comm]
        · rename_i h3
          rw [List.length_drop] at h3
          have hm : (i + r) % l.length = i + r - l.length := by
            rw [Nat.mod_eq_sub_mod (by omega), Nat.mod_eq_of_lt (by omega)]
          rw [List.getElem_take, hm, List.getD_eq_getElem?_getD, List.getElem?_eq_getElem (by omega)]
          simp only [List.length_drop, Option.getD_some]
          congr 1; omega
    rw [e]
    exact (List.perm_append_comm).trans (by rw [List.take_append_drop])
  · have : l = [] := List.eq_nil_of_length_eq_zero h
    subst this
    exact List.Perm.refl _

theorem turn_rem (turn : Int) (m r : Nat) (h : r = (turn % 18446744073709551616).toNat % m) : (IntKind.u64.wrap turn).tmod (m : Int) = (r : Int) := by
  have h0 : 0 ≤ turn % 18446744073709551616 := Int.emod_nonneg _ (by decide)
  rw [IntKind.wrap_u64, Int.tmod_eq_emod_of_nonneg h0, h, Int.natCast_emod, Int.toNat_of_nonneg h0]
theorem turn_idx (turn : Int) (m r k j : Nat) (hm : m ≤ 64) (hk : k < m) (hr : r < m) (h : r = (turn % 18446744073709551616).toNat % m) (hj : (k + r) % m = j) : (wrap64 ((k : Int) + wrap64 ((IntKind.u64.wrap turn).tmod (m : Int)))).tmod (m : Int) = (j : Int) := by
  rw [turn_rem turn m r h, wrap64_same (r : Int) (by omega) (by omega), wrap64_same ((k : Int) + (r : Int)) (by omega) (by omega), Int.tmod_eq_emod_of_nonneg (by omega), ← hj, Int.natCast_emod, Int.natCast_add]

set_option maxRecDepth 100000 in
set_option maxHeartbeats 4000000 in
theorem policyBack_any (W0 : World) (p : Option Addr) (n c : Nat) (cs : List Nat) (turn : Int) (hn : cs.length = n) (hr : LabRow W0 p cs) (hcs : ∀ x ∈ cs, x < 18446744073709551616) (hM : MaxS W0) (hT : BTab W0) (hE : EvW W0) :
    Calls Tryz.prog 6 #[.slice p n c, .int .i64 turn] W0 fun e w' => e = .returned (.bool true) ∧ Below W0.heap.size W0 w' := by
  have cW := works_pol W0 hM hT hE
  have HR : Aside _ := hr
  have HM := Lib.hid hM; have HT := Lib.hid hT; have HE := Lib.hid hE
  have hok : okL (fitL cs) := fit_ok cs _ (Nat.min_le_right _ _)
  have hlo : Lo64 (fitL cs) := fit_lo cs _ hcs
  generalize hl : fitL cs = l at *
  have HL := Lib.hid hl
  have HOK : Aside _ := hok
  have HLO : Aside _ := hlo
  obtain ⟨m, hm⟩ : ∃ m, l.length = m := ⟨_, rfl⟩
  have HMM := Lib.hid hm
  have hm64 : m ≤ 64 := by have := hok.1; omega
  clear hr hM hT hE hok hlo hl hcs
  go_enter Tryz.func6, Tryz.ntmps6
  go_wp2_with fail
  refine cW.mono ?_
  rintro e w1 ⟨rfl, hb1⟩
  have cF := fit_any w1 p n c cs hn (LabRow.later HR.out hb1)
  unfold GivesVw at cF
  rw [HL.out, hm] at cF
  clear cW
  go_wp2_with fail
  refine cF.mono ?_
  rintro e w2 ⟨hb2, p2, c2, rfl, hr2, _⟩
  have hbw2 := hb1.trans (hb2.mono hb1.size)
  have HB2 := Lib.hid hbw2
  clear cF hb1 hb2 hn hm
  go_wp2_with fail
  -- the turn
  obtain ⟨r, hr0⟩ : ∃ r, r = (turn % 18446744073709551616).toNat % m := ⟨_, rfl⟩
  have HRR := Lib.hid hr0
  clear hr0
  obtain ⟨i0, hi, hz0, hz1, hz2⟩ := info_parts vwInfo
  have hs2 := hbw2.size
  clear hbw2
  go_loopg [6, 7] m (fun g u vi wr => ∃ k : Nat, k + g = m ∧ vi = .int .i64 k ∧ Below w2.heap.size w2 wr ∧ Hid (wr.ownsRow w2.heap.size 40 2 u k (flat (turnTo l r k))))
  case atStart => exact ⟨0, by omega, rfl, Below.refl _ _, World.ownsRow_nil _ _ _ _⟩
  case round =>
    obtain ⟨k, hk, rfl, hbr, HO⟩ := hrel
    have hsr := hbr.size
    by_cases hlt : k < m
    · have hrm : r < m := by rw [HRR.out]; exact Nat.mod_lt _ (by omega)
      obtain ⟨j, hj⟩ : ∃ j, (k + r) % m = j := ⟨_, rfl⟩
      have hjm : j < m := by rw [← hj]; exact Nat.mod_lt _ (by omega)
      have hjl : j < l.length := by rw [HMM.out]; exact hjm
      obtain ⟨b1, o1, rfl, hbl, h1c⟩ := hr2.at j hjl
      obtain ⟨g1, g2⟩ := h1c wr hbr
      have hst := Lib.hid (turn_step l r k j (by rw [HMM.out]; exact hj) hjl)
      generalize l[j] = x at *
      have eJ := turn_idx turn m r k j hm64 hlt hrm HRR.out hj
      have hj0 : (0 : Int) ≤ (j : Int) := by omega
      have hjI : (j : Int) < (m : Int) := by omega
      have hmI : ¬ (m : Int) = 0 := by omega
      have HJ := Lib.hid hj
      have ho0 := HO.out
      have HB := Lib.hid hbr
      clear h1c hj HO hbr
      go_wp2_with (first
        | (at_builtin; refine wpList_append_own _ rfl _ _ 29 rfl w2.heap.size 40 i0 (.agg #[.string ⟨#[]⟩, .int .u64 0]) 2 24 Tryz.underlying29 hi hz0 hz1 hz2 rfl (by decide) _ _ _ rfl (ho0.alloc _) ⟨wr.heap.size, 0, none⟩ 1 1 x.vals rfl rfl ?c1 ?c2 ?c3 ?c4 ?c5 ?_))
      case c1 => exact cells_two _ _ _ _
      case c2 => intro u hu; simp [Vw.vals] at hu; rcases hu with rfl | rfl <;> rfl
      case c3 => unfold maxLen; omega
      case c4 => omega
      case c5 => simp; omega
      intro u' w3 hown' hgrow _
      have hb3 : Below w2.heap.size w2 w3 := (HB.out.alloc (by omega) _).grown hgrow (by simp; omega) (fun g hg => (ho0.lt g hg).1)
      have HO2 : Hid (w3.ownsRow w2.heap.size 40 2 u' (k + 1) (flat (turnTo l r (k + 1)))) := by
        show w3.ownsRow _ _ _ _ _ _
        rw [hst.out, flat_snoc]; exact hown'
      clear ho0 hown' hgrow eJ
      go_wp2_with fail
      go_roundg (gk - 1)
      case rel => exact ⟨k + 1, by omega, by go_num, hb3, HO2⟩
      case measure => omega
    · obtain rfl : k = m := by omega
      have hperm := turn_perm l r (by
        have := HMM.out
        rcases Nat.eq_zero_or_pos k with h | h
        · exact .inr (by omega)
        · exact .inl (by rw [this, HRR.out]; exact Nat.mod_lt _ h))
      rw [HMM.out] at hperm
      obtain ⟨p3, c3, hu, hr3⟩ := vw_owned (turn_len l r k) HO.out
      subst hu
      generalize turnTo l r k = tl at *
      have htl : tl.length = k := by rw [hperm.length_eq]; exact HMM.out
      have hok3 : okL tl := okL_perm hperm.symm HOK.out
      have hlo3 : Lo64 tl := Lo64.perm HLO.out hperm
      have hst3 : sortV tl = sortV l := sortV_of_perm (sortV_rising (OKL.nd HOK.out)) (hperm.trans (sortV_perm l).symm)
      have cN := new_any wr p3 k c3 tl htl (by unfold maxLen; omega) hr3 (fit_of hok3 hlo3)
      have HBW := Lib.hid (HB2.out.trans (hbr.mono HB2.out.size))
      have HS3 := Lib.hid hst3
      have HK3 : Aside _ := hok3
      clear hperm hr3 HO htl hok3 hlo3 hst3 hbr
      go_wp2_with fail
      refine cN.mono ?_
      rintro e w4 ⟨hb4, ⟨_, v4, rfl, hp4, a4, rfl⟩ | ⟨hno, _⟩⟩
      rotate_left
      · exact absurd HK3.out hno
      rw [HS3.out] at hp4
      have hbw4 := HBW.out.trans (hb4.mono HBW.out.size)
      have hLn : (sortV l).length = k := by rw [(sortV_perm l).length_eq]; exact HMM.out
      have hsp : Spells (printL (sortV l)) (sortV l) := ⟨okL_perm (sortV_perm l).symm HOK.out, sortV_rising (OKL.nd HOK.out), Lo64.perm HLO.out (sortV_perm l), rfl⟩
      generalize sortV l = L at *
      have HSP : Hid (Spells (printL L) L) := hsp
      have HLn := Lib.hid hLn
      have hpl := print_le hp4.ok
      have cP := print_any _ L w4 hp4 (HT.out.below hbw4)
      have HP4 : Aside _ := hp4
      clear cN hb4 hsp hLn hp4
      go_wp2_with (first | (go_at_call 14; refine cP.mono ?_; rintro e w5 ⟨rfl, hb5⟩) | fail)
      have hbw5 := hbw4.trans (hb5.mono hbw4.size)
      have hp5 := PolAt.later HP4.out hb5
      have cQ := parse_pol (bs (printL L)) w5 (by rw [bs_size]; omega) (HM.out.below hbw5) (HT.out.below hbw5) (HE.out.below hbw5)
      rw [bs_list] at cQ
      have HP5 : Aside _ := hp5
      clear cP HP4 hp5 hb5
      refine cQ.mono ?_
      rintro e w6 ⟨hb6, ⟨aq, lq, rfl, hq6, hspq⟩ | ⟨hno, _⟩⟩
      rotate_left
      · exact absurd ⟨L, HSP.out⟩ hno
      have hlq : lq = L := spells_one hspq HSP.out
      rw [hlq] at hq6
      have hbw6 := hbw5.trans (hb6.mono hbw5.size)
      have hp6 := PolAt.later HP5.out hb6
      have cV := viewers_any _ L w6 hp6
      unfold GivesVw at cV
      rw [HLn.out] at cV
      have HP6 : Aside _ := hp6
      have HQ6 : Aside _ := hq6
      clear cQ HP5 hp6 hq6 hb6 hlq hspq
      go_wp2_with (first | (go_at_call 10; refine cV.mono ?_; rintro e w7 ⟨hb7, p7, c7, rfl, hr7, _⟩) | fail)
      have hbw7 := hbw6.trans (hb7.mono hbw6.size)
      have hLok := hpl
      have hokL := (HSP.out).1
      have hloL := (HSP.out).2.2.1
      have hupL := sortV_self (HSP.out).2.1
      have cR := new_any w7 p7 k c7 L HLn.out (by unfold maxLen; omega) hr7 (fit_of hokL hloL)
      have HUP := Lib.hid hupL
      have HOKL : Aside _ := hokL
      have HP7 : Aside _ := PolAt.later HP6.out hb7
      have HQ7 : Aside _ := PolAt.later HQ6.out hb7
      clear cV HP6 HQ6 hb7 hr7 hokL hloL hupL hLok hpl
      refine cR.mono ?_
      rintro e w8 ⟨hb8, ⟨_, v8, rfl, hr8, a8, rfl⟩ | ⟨hno, _⟩⟩
      rotate_left
      · exact absurd HOKL.out hno
      rw [HUP.out] at hr8
      have hbw8 := hbw7.trans (hb8.mono hbw7.size)
      have h8 : Three w8 (.pointer (some a4)) (.pointer (some aq)) (.pointer (some a8)) L := ⟨PolAt.later HP7.out hb8, PolAt.later HQ7.out hb8, hr8, HT.out.below hbw8⟩
      have H8 := Lib.hid h8
      have HB8 := Lib.hid hbw8
      clear cR HP7 HQ7 hb8 hr8 h8 hbw8 hbw7 hbw6 hbw5 hbw4
      go_wp2_with fail
      have ca := viewers_any _ L w8 H8.out.p
      unfold GivesVw at ca
      rw [HLn.out] at ca
      refine ca.mono ?_
      rintro e w9 ⟨hx, p9, k9, rfl, hrow9, _⟩
      have H9 := Lib.hid (Three.later H8.out hx)
      have HB9 := Lib.hid (HB8.out.trans (hx.mono HB8.out.size))
      clear ca hx H8 HB8
      have HRa := Lib.hid hrow9
      clear hrow9
      go_wp2_with fail
      have cb := viewers_any _ L w9 H9.out.q
      unfold GivesVw at cb
      rw [HLn.out] at cb
      refine cb.mono ?_
      rintro e w10 ⟨hx, p10, k10, rfl, hrow10, _⟩
      have H10 := Lib.hid (Three.later H9.out hx)
      have HB10 := Lib.hid (HB9.out.trans (hx.mono HB9.out.size))
      have HRa2 := Lib.hid (VwRow.later HRa.out hx)
      have cs1 := same_any w10 p9 p10 k k9 k10 L HLn.out hm64 HRa2.out hrow10
      clear cb hx H9 HB9 HRa hrow10
      go_wp2_with fail
      refine cs1.mono ?_
      rintro e w11 ⟨rfl, hx⟩
      have H11 := Lib.hid (Three.later H10.out hx)
      have HB11 := Lib.hid (HB10.out.trans (hx.mono HB10.out.size))
      clear cs1 hx H10 HB10 HRa2
      go_wp2_with fail
      have cc := viewers_any _ L w11 H11.out.p
      unfold GivesVw at cc
      rw [HLn.out] at cc
      refine cc.mono ?_
      rintro e w12 ⟨hx, p12, k12, rfl, hrow12, _⟩
      have H12 := Lib.hid (Three.later H11.out hx)
      have HB12 := Lib.hid (HB11.out.trans (hx.mono HB11.out.size))
      have HRc := Lib.hid hrow12
      clear cc hx H11 HB11 hrow12
      go_wp2_with fail
      have cd := viewers_any _ L w12 H12.out.r
      unfold GivesVw at cd
      rw [HLn.out] at cd
      refine cd.mono ?_
      rintro e w13 ⟨hx, p13, k13, rfl, hrow13, _⟩
      have H13 := Lib.hid (Three.later H12.out hx)
      have HB13 := Lib.hid (HB12.out.trans (hx.mono HB12.out.size))
      have HRc2 := Lib.hid (VwRow.later HRc.out hx)
      have cs2 := same_any w13 p12 p13 k k12 k13 L HLn.out hm64 HRc2.out hrow13
      clear cd hx H12 HB12 HRc hrow13
      go_wp2_with fail
      refine cs2.mono ?_
      rintro e w14 ⟨rfl, hx⟩
      have H14 := Lib.hid (Three.later H13.out hx)
      have HB14 := Lib.hid (HB13.out.trans (hx.mono HB13.out.size))
      clear cs2 hx H13 HB13 HRc2
      obtain ⟨tx, htx⟩ : ∃ tx, bs (printL L) = tx := ⟨_, rfl⟩
      have HTX := Lib.hid htx
      have hsame : (tx.toList == tx.toList) = true := by simp
      clear htx
      go_wp2_with fail
      have cp15 := print_any _ L w14 H14.out.q H14.out.t
      rw [HTX.out] at cp15
      refine cp15.mono ?_
      rintro e w15 ⟨rfl, hx⟩
      have H15 := Lib.hid (Three.later H14.out hx)
      have HB15 := Lib.hid (HB14.out.trans (hx.mono HB14.out.size))
      clear cp15 hx H14 HB14
      go_wp2_with fail
      have cp16 := print_any _ L w15 H15.out.p H15.out.t
      rw [HTX.out] at cp16
      refine cp16.mono ?_
      rintro e w16 ⟨rfl, hx⟩
      have H16 := Lib.hid (Three.later H15.out hx)
      have HB16 := Lib.hid (HB15.out.trans (hx.mono HB15.out.size))
      clear cp16 hx H15 HB15
      go_wp2_with fail
      have cp17 := print_any _ L w16 H16.out.r H16.out.t
      rw [HTX.out] at cp17
      refine cp17.mono ?_
      rintro e w17 ⟨rfl, hx⟩
      have H17 := Lib.hid (Three.later H16.out hx)
      have HB17 := Lib.hid (HB16.out.trans (hx.mono HB16.out.size))
      clear cp17 hx H16 HB16
      go_wp2_with fail
      have cp18 := print_any _ L w17 H17.out.p H17.out.t
      rw [HTX.out] at cp18
      refine cp18.mono ?_
      rintro e w18 ⟨rfl, hx⟩
      have H18 := Lib.hid (Three.later H17.out hx)
      have HB18 := Lib.hid (HB17.out.trans (hx.mono HB17.out.size))
      clear cp18 hx H17 HB17
      go_wp2_with fail
      have cz := viewers_any _ L w18 H18.out.p
      unfold GivesVw at cz
      rw [HLn.out] at cz
      refine cz.mono ?_
      rintro e w19 ⟨hx, p19, k19, rfl, hrow19, _⟩
      have H19 := Lib.hid (Three.later H18.out hx)
      have HB19 := Lib.hid (HB18.out.trans (hx.mono HB18.out.size))
      clear cz hx H18 HB18 hrow19
      go_wp2_with fail
      go_ret
      exact ⟨rfl, HB19.out⟩
end Go.Proofs.YtenbbefahpkhpaaGreatDoor
/- A law's frame, of whatever program: where the call returns true and nothing that was there has turned, the row's post holds. -/
namespace Go.Proofs.YtenbbefahpkhpaaGreatDoor
open Go Go.RowKit Go.ChangeShapes Go.WideShapes Go.ChangeAt

section
variable {H : Type} {enc : TypeId × Value → H} {P : Program}

/-- One closed fact: each type can be read and is a row of the table. -/
def typesRead (P : Program) (ts : List TypeId) : Bool := ts.all fun t => P.readableRec t && decide (t < P.types.size)

theorem below_trodAll (hl : laidOutB P = true) {W W' : World} (hb : Below W.heap.size W W') :
    ∀ {ts : List TypeId} {vs : List Value} {ds : List (DataW H)} {ps : List MemPlace}, typesRead P ts = true → DataW.TrodAll enc P W 0 (fun _ => true) true ts vs ds ps →
      DataW.TrodAll enc P W' 0 (fun b => decide (b < W.heap.size)) true ts vs ds ps
  | [], [], [], _, _, h => h
  | [], [], _ :: _, _, _, h => h.elim
  | [], _ :: _, _, _, _, h => h.elim
  | _ :: _, [], _, _, _, h => h.elim
  | _ :: _, _ :: _, [], _, _, h => h.elim
  | t :: ts, v :: vs, d :: ds, ps, hr, h => by
    obtain ⟨p, q, h1, h2, e⟩ := h
    simp only [typesRead, List.all_cons, Bool.and_eq_true] at hr
    have hlt : ∀ x ∈ p, x.block < W.heap.size := by obtain ⟨m, hm⟩ := h1; exact DataW.trod_lt m _ _ _ hm
    exact ⟨p, q, Below.trod hl hr.1.1 (of_decide_eq_true hr.1.2) h1 hb hlt, below_trodAll hl hb (by simpa [typesRead] using hr.2) h2, e⟩

theorem trodAll_len {W : World} {b : Nat} {sp : Nat → Bool} {hd : Bool} : ∀ {ts : List TypeId} {vs : List Value} {ds : List (DataW H)} {ps : List MemPlace}, DataW.TrodAll enc P W b sp hd ts vs ds ps → ds.length = ts.length
  | [], [], [], _, _ => rfl
  | [], [], _ :: _, _, h => h.elim
  | [], _ :: _, _, _, h => h.elim
  | _ :: _, [], _, _, h => h.elim
  | _ :: _, _ :: _, [], _, h => h.elim
  | _ :: _, _ :: _, _ :: _, _, h => by
    obtain ⟨_, _, _, h2, _⟩ := h
    simp only [List.length_cons, trodAll_len h2]

theorem trodAll_nil' {W : World} {b : Nat} {sp : Nat → Bool} {hd : Bool} {args : Array Value} {ds : List (DataW H)} {ps : List MemPlace} (h : DataW.TrodAll enc P W b sp hd [] args.toList ds ps) : args = #[] ∧ ds = [] ∧ ps = [] := by
  obtain ⟨h1, h2, h3⟩ := trodAll_nil h
  exact ⟨by cases args; simp_all, by assumption, by assumption⟩

/-- What a law's specification says, as one closed fact for its number of parameters. -/
def LawSpec (s : ChangeSpec) (n : Nat) : Prop := s.vars = [] ∧ ∀ (H : Type) (ds : List (DataW H)), ds.length = n → (s.fn H ds).results = [.lit (.bool true)] ∧ (s.fn H ds).args = ds ∧ (s.fn H ds).vars = []

theorem law_post (hl : laidOutB P = true) {f : Func} {s : ChangeSpec} {tb : TypeId} (hread : typesRead P f.params.toList = true) (hres : f.resultTypes = #[tb]) (hbool : P.underlying tb = some .bool)
    (hs : LawSpec s f.params.toList.length) {W W' : World} {args : Array Value} {ds gs : List (DataW H)} {before : List MemPlace}
    (hW : DataW.Whole enc P f.params.toList s.vars false W args.toList ds gs before) (bel : Below W.heap.size W W') :
    s.post enc P f false true false false W args (.bool true) W' := by
  have hW' := hW
  obtain ⟨p, q, hA, hV, rfl, hfz, hnd⟩ := hW
  have hn := trodAll_len hA
  obtain ⟨hs1, hs2⟩ := hs
  rw [hs1] at hV
  obtain ⟨rfl, rfl⟩ := trodVars_none hV
  obtain ⟨e1, e2, e3⟩ := hs2 H ds hn
  refine ⟨ds, [], _, [], p, [], hW', ?_, ?_, ?_, bel.frame _, fun h => by cases h⟩
  · rw [List.append_nil, e1, hres]
    exact trodAll_mk1 (shut_bool hbool _)
  · rw [List.append_nil, e2]
    exact below_trodAll hl bel hread hA
  · rw [List.append_nil, e3, hs1]
    rfl
end
end Go.Proofs.YtenbbefahpkhpaaGreatDoor
/- A number of 64 bits that came in. -/
namespace Go.Proofs.YtenbbefahpkhpaaGreatDoor
open Go Go.ChangeShapes Go.WideShapes Go.RowKit
theorem u64_nat {n : Int} (h : (Lit.int .u64 n).wf = true) : ∃ a : Nat, n = (a : Int) ∧ a < 18446744073709551616 := by
  simp [Lit.wf, IntKind.min, IntKind.max, IntKind.signed, IntKind.bits] at h
  exact ⟨n.toNat, by omega, by omega⟩
end Go.Proofs.YtenbbefahpkhpaaGreatDoor
/- A list of numbers that came in, opened. -/
namespace Go.Proofs.YtenbbefahpkhpaaGreatDoor
open Go Go.ChangeShapes Go.WideShapes Go.RowKit

theorem lits_len {H : Type} (k : IntKind) (zs : List Int) : (lits k zs : List (DataW H)).length = zs.length := by simp [lits]
theorem open_nums {H : Type} {enc : TypeId × Value → H} {P : Program} {W : World} {base : Nat} {k : IntKind} {t el : TypeId} {v : Value} {d : DataW H} {ps : List MemPlace} (ht : P.underlying t = some (.slice el)) (he : P.underlying el = some (.int k)) (hc : P.cellsOf el = 1) (hv : Value.okWide P W .any base t v)
    (h : DataW.Trod enc P W 0 (fun _ => true) true t v d ps) :
    ∃ (p : Option Addr) (n c : Nat) (xs : List Int), v = .slice p n c ∧ xs.length = n ∧ NumRow k W p xs ∧ (p = none → n = 0 ∧ c = 0) ∧ (∀ x ∈ xs, (Lit.int k x).wf = true) ∧ (n = 0 ∨ ∃ elems spare, d = .slice elems spare ∧ elems.length = n) := by
  obtain ⟨a0, n0, c0, rfl⟩ := okWide_slice ht hv
  obtain ⟨fuel, hf⟩ := h
  rcases Go.ChangeShapes.open_ints ht he hc hf with ⟨hcs, _⟩ | ⟨a, len, cap, zs, hcs, _, hl, _, hlen, hx, hcell, hwf⟩
  · simp [Value.cells] at hcs
    obtain ⟨rfl, rfl, rfl⟩ := hcs
    exact ⟨none, 0, 0, [], rfl, rfl, fun i hi => absurd hi (Nat.not_lt_zero _), fun _ => ⟨rfl, rfl⟩, fun x hx => (by cases hx), .inl rfl⟩
  · simp [Value.cells] at hcs
    obtain ⟨rfl, rfl, rfl⟩ := hcs
    simp only [if_true] at hlen
    simp only [Prod.mk.injEq] at hx
    have htl : (zs.take n0).length = n0 := by rw [List.length_take]; omega
    refine ⟨some a, n0, c0, zs.take n0, rfl, htl, ?_, (fun e => by cases e), fun x hx' => hwf x (List.mem_of_mem_take hx'), .inr ⟨_, _, hx.1, by rw [lits_len, htl]⟩⟩
    intro i hi
    obtain ⟨b, off, rfl, hat⟩ := ints_at hcell (by omega)
    have hi2 : i < zs.length := by omega
    have hcl := hat i hi2
    rw [List.getD_eq_getElem?_getD, List.getElem?_eq_getElem hi2] at hcl
    refine ⟨b, off, rfl, ?_, by rw [hcl, List.getElem_take]; rfl⟩
    have := World.block_lt_of_cell? W _ hcl
    exact this
end Go.Proofs.YtenbbefahpkhpaaGreatDoor
/- What a row's slice of labels gives the walks. -/
namespace Go.Proofs.YtenbbefahpkhpaaGreatDoor
open Go Go.RowKit

theorem labRow_of {W : World} {p : Option Addr} {xs : List Int} (h : NumRow .u64 W p xs) (hw : ∀ x ∈ xs, (Lit.int .u64 x).wf = true) : LabRow W p (xs.map Int.toNat) := fun i hi => by
  rw [List.length_map] at hi
  obtain ⟨b, off, e, hlt, hc⟩ := h i hi
  refine ⟨b, off, e, hlt, ?_⟩
  obtain ⟨a, ha, _⟩ := u64_nat (hw _ (List.getElem_mem hi))
  rw [hc, List.getElem_map, ha, Int.toNat_natCast]
theorem lab_lt {xs : List Int} (hw : ∀ x ∈ xs, (Lit.int .u64 x).wf = true) : ∀ c ∈ xs.map Int.toNat, c < 18446744073709551616 := fun c hc => by
  obtain ⟨x, hx, rfl⟩ := List.mem_map.1 hc
  obtain ⟨a, ha, hlt⟩ := u64_nat (hw _ hx)
  rw [ha, Int.toNat_natCast]; exact hlt
end Go.Proofs.YtenbbefahpkhpaaGreatDoor
/- What a row's listed variables give the walks: the library's table for counting zeros. -/
namespace Go.Proofs.YtenbbefahpkhpaaGreatDoor
open Go.RowKit

theorem bt_data : (Rows.laid_math_bits_deBruijn64tab : DataW Unit) = Lib.tabData .u8 (Lib.deBruijn64tab.map fun n : Nat => (n : Int)) := by kernel_rfl
theorem gBtType : (Tryz.prog.globals[0]?).map (·.type) = some 136 := by kernel_rfl

/-- Out of whatever list that has the table. -/
theorem btab_of {W : World} {l : List (String × DataW Unit)} (hl : (l.filter fun x => x.1 == "math/bits.deBruijn64tab") = [("math/bits.deBruijn64tab", Rows.laid_math_bits_deBruijn64tab)]) (h : laidMetH Tryz.prog l W) : BTab W := by
  have h1 := h.filter (fun x => x.1 == "math/bits.deBruijn64tab")
  rw [hl, bt_data, MakeChecks.laidMetH_plain _ _ _ (by kernel_rfl)] at h1
  exact Lib.tabIs_of_head (rest := []) gBt gBtType Tryz.underlying136 Tryz.underlying5 (by kernel_rfl) (by kernel_rfl) h1
end Go.Proofs.YtenbbefahpkhpaaGreatDoor
/- What a row's listed variables give: strconv's two errors are values of the interface. -/
namespace Go.Proofs.YtenbbefahpkhpaaGreatDoor
open Go.RowKit

theorem iface_of_trod {H : Type} {enc : TypeId × Value → H} {P : Program} {w : World} {base : Nat} {spare : Nat → Bool} {held : Bool} {fuel : Nat} {t : TypeId} {cs : List Value} {x : DataW H × List MemPlace} {ms}
    (ht : P.underlying t = some (.interface ms)) (h : DataW.trod enc P w base spare held fuel t cs = some x) : cs = [.nilIface] ∨ ∃ u v, cs = [.iface u v] := by
  cases fuel with
  | zero => simp [DataW.trod] at h
  | succ n =>
    unfold DataW.trod at h
    rw [ht] at h
    split at h <;> simp_all

theorem ev_of_head {W : World} {name : String} {d : DataW Unit} {g : Nat} {t : TypeId} {ms} (hg : Tryz.prog.globalNamed name = some g) (hty : (Tryz.prog.globals[g]?).map (·.type) = some t) (ht : Tryz.prog.underlying t = some (.interface ms))
    (h : laidMet Tryz.prog [(name, d)] W) : EvAt g W := by
  obtain ⟨ps, ⟨g', t', cs, fuel, p, q, hg', ht', hvar, hd, _, _⟩, _⟩ := h
  obtain rfl := Option.some.inj (hg.symm.trans hg')
  obtain rfl := Option.some.inj (hty.symm.trans ht')
  have hc := World.var?_cell hg hvar 0
  rcases iface_of_trod ht hd with h1 | ⟨u, v, h1⟩
  · exact ⟨.nilIface, by rw [hc, ← Array.getElem?_toList, h1]; rfl, Or.inl rfl⟩
  · exact ⟨.iface u v, by rw [hc, ← Array.getElem?_toList, h1]; rfl, Or.inr ⟨u, v, rfl⟩⟩

theorem gEs : Tryz.prog.globalNamed "strconv.ErrSyntax" = some 3 := by kernel_rfl
theorem gEsT : (Tryz.prog.globals[3]?).map (·.type) = some 94 := by kernel_rfl
theorem gEr : Tryz.prog.globalNamed "strconv.ErrRange" = some 4 := by kernel_rfl
theorem gErT : (Tryz.prog.globals[4]?).map (·.type) = some 94 := by kernel_rfl

/-- Out of whatever list that has the two. -/
theorem evw_of {W : World} {l : List (String × DataW Unit)} (hs : (l.filter fun x => x.1 == "strconv.ErrSyntax") = [("strconv.ErrSyntax", Rows.laid_strconv_ErrSyntax)]) (hr : (l.filter fun x => x.1 == "strconv.ErrRange") = [("strconv.ErrRange", Rows.laid_strconv_ErrRange)]) (h : laidMetH Tryz.prog l W) : EvW W := by
  have h1 := h.filter (fun x => x.1 == "strconv.ErrSyntax")
  have h2 := h.filter (fun x => x.1 == "strconv.ErrRange")
  rw [hs, MakeChecks.laidMetH_plain _ _ _ (by kernel_rfl)] at h1
  rw [hr, MakeChecks.laidMetH_plain _ _ _ (by kernel_rfl)] at h2
  exact ⟨ev_of_head gEs gEsT Tryz.underlying94 h1, ev_of_head gEr gErT Tryz.underlying94 h2⟩
end Go.Proofs.YtenbbefahpkhpaaGreatDoor
