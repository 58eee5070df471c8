/- Texts of the proof, merged: LbParse. -/
import Derived.Test.YtfkkodcppaakjaaGreatDoorRd7
import Derived.Test.YtfkkodcppaakjaaGreatDoorRd22
import Derived.Test.YtfkkodcppaakjaaGreatDoorRd24
import Derived.Test.YtfkkodcppaakjaaGreatDoorRd25
/- label's Parse, by its contract. -/
namespace Go.Proofs.YtfkkodcppaakjaaGreatDoor
open Go.RowKit Go.Shelf

attribute [local go_sem] Oper.semAt_some

theorem boxed_later {W W' : World} {B : Nat} {t : TypeId} {v : Value} (h : Boxed W B t v) (hb : Below W.heap.size W W') : Boxed W' B t v := (hb.block B h.lt).trans h
/-- Between two rounds: the results' boxes, what has been gathered. -/
def PInv {M : Nat} (R : Nat) (w : World) (pre : List (Pc M)) (W : World) : Prop :=
  (Boxed W R 23 (.int .u64 0) ∧ Boxed W (R + 1) 25 (.int .i64 0) ∧ Boxed W (R + 2) 23 (.int .u64 (accP (lsOf pre) : Nat))) ∧ Below R w W ∧ R + 6 ≤ W.heap.size
def POut {M : Nat} (R : Nat) (w : World) (c : Code) (pre : List (Pc M)) (W : World) : Prop :=
  (Boxed W R 23 (.int .u64 0) ∧ Boxed W (R + 1) 25 (.int .i64 4)) ∧ (c = .ret ∧ ∃ p ∈ lsOf pre, pieceV p = none) ∧ Below R w W
theorem keeps_below {W W' : World} (h : Below W.heap.size W W') : KeepsOthers W W' := ⟨h.size, fun k _ hk _ => (h.block k (Array.getElem?_eq_some_iff.1 hk).1).trans hk⟩
theorem keep3_below {B : Nat} {W W' : World} (hB : B + 2 < W.heap.size) (h : Below W.heap.size W W') : Keep3 B W W' := fun k _ h2 => h.block k (by omega)
theorem keep3_set {B C : Nat} {W : World} (h : C < B) (u : Value) : Keep3 B W (W.setCell ⟨C, 0, none⟩ u) := fun _ h1 _ => other_block u (by omega)
/-- A round that leaves. -/
theorem pout_leave {M R : Nat} {w W1 : World} {pre : List (Pc M)} (o : Obj) (g0 : Boxed W1 R 23 (.int .u64 0)) (g1 : Boxed W1 (R + 1) 25 (.int .i64 0)) (hB : Below R w W1) (hR : R ≤ w.heap.size) (hbad : ∃ p ∈ lsOf pre, pieceV p = none) :
    POut R w .ret pre (((W1.alloc o).setCell ⟨R, 0, none⟩ (.int .u64 0)).setCell ⟨R + 1, 0, none⟩ (.int .i64 4)) :=
  ⟨⟨((g0.alloc o).set _).other (by omega) _, ((g1.alloc o).other (by omega) _).set _⟩, ⟨rfl, hbad⟩,
    ((hB.alloc (Nat.le_trans hR hB.size) o).setCell (p := ⟨R, 0, none⟩) (Nat.le_refl _) _).setCell (p := ⟨R + 1, 0, none⟩) (by show R ≤ R + 1; omega) _⟩
/-- A round that goes on. -/
theorem pinv_next {M R : Nat} {w W1 : World} {pre : List (Pc M)} (x : Pc M) (c : Nat) (o : Obj) (hc : pieceV x.val.data.toList = some c) (hc64 : c < 64) (g0 : Boxed W1 R 23 (.int .u64 0)) (g1 : Boxed W1 (R + 1) 25 (.int .i64 0)) (g2 : Boxed W1 (R + 2) 23 (.int .u64 (accP (lsOf pre) : Nat))) (hB : Below R w W1) (hR : R ≤ w.heap.size) (hs : R + 6 ≤ W1.heap.size) (z : Int) (hz : z = ((accP (lsOf pre) ||| 2 ^ c : Nat) : Int)) :
    PInv R w (pre ++ [x]) ((W1.alloc o).setCell ⟨R + 2, 0, none⟩ (.int .u64 z)) := by
  subst hz
  unfold PInv
  rw [ls_snoc, acc_snoc _ _ c hc hc64]
  exact ⟨⟨(g0.alloc o).other (by omega) _, (g1.alloc o).other (by omega) _, (g2.alloc o).set _⟩, (hB.alloc (Nat.le_trans hR hB.size) o).setCell (p := ⟨R + 2, 0, none⟩) (by show R ≤ R + 2; omega) _, by rw [World.size_setCell, World.size_alloc]; omega⟩
theorem pinv_own {M : Nat} (R B : Nat) (w : World) (hR : R ≤ w.heap.size) (h : R ≤ B) : OwnFrom B (PInv (M := M) R w) :=
  OwnFrom.and (Own.from (fun s A B row hs hg hr => ⟨boxed_own _ _ (fun _ => _) s A B row hs.1 hg hr, boxed_own _ _ (fun _ => _) s A B row hs.2.1 hg hr, boxed_own _ _ (fun _ => _) s A B row hs.2.2 hg hr⟩) _) (OwnFrom.and (ownFrom_below hR h) (fun _ _ _ _ hs hg _ => Nat.le_trans hs hg.size))
theorem pout_own {M : Nat} (R B : Nat) (w : World) (c : Code) (hR : R ≤ w.heap.size) (h : R ≤ B) : OwnFrom B (POut (M := M) R w c) :=
  OwnFrom.and (Own.from (fun s A B row hs hg hr => ⟨boxed_own _ _ (fun _ => _) s A B row hs.1 hg hr, boxed_own _ _ (fun _ => _) s A B row hs.2 hg hr⟩) _) (OwnFrom.and (ownFrom_pure _ _) (ownFrom_below hR h))
theorem pinv_store {M : Nat} (R B : Nat) (w : World) (hB : R + 2 < B) : Stores B (PInv (M := M) R w) := fun _ _ u ⟨⟨a, b, c⟩, d, f⟩ =>
  ⟨⟨a.other (by omega) u, b.other (by omega) u, c.other (by omega) u⟩, d.setCell (p := ⟨B, 0, none⟩) (by show R ≤ B; omega) u, by rw [World.size_setCell]; exact f⟩

set_option maxRecDepth 100000 in
set_option maxHeartbeats 8000000 in
theorem parse_any (s : ByteArray) (w : World) (hs : s.size ≤ 281474976710656) (hT : BTab w) (hE : EvW w) :
    Calls Tryz.prog 84 #[.string s] w fun e w' => ∃ (a : Nat) (er : Int), e = .returned (.tuple #[.int .u64 a, .int .i64 er]) ∧ ReadAs s.data.toList a er ∧ Below w.heap.size w w' := by
  have hB0 : Below w.heap.size w ((w.alloc (.cells #[.int .u64 0] 23)).alloc (.cells #[.int .i64 0] 25)) := ((Below.refl _ _).alloc (Nat.le_refl _) _).alloc (by simp) _
  have c0 := (Boxed.new w 23 (.int .u64 0)).alloc (.cells #[.int .i64 0] 25)
  have c1 := Boxed.new (w.alloc (.cells #[.int .u64 0] 23)) 25 (.int .i64 0)
  simp only [World.size_alloc] at c1
  refine (callsIn_wide (n := 3)).1 ?_
  refine callsIn_of_wp_marks Tryz.func84 rfl trivial ?_ rfl
  simp only [Tryz.ntmps84, List.size_toArray, List.length_cons, List.length_nil, Nat.reduceAdd, Nat.reduceSub, Array.replicate_succ, Array.replicate_zero, List.push_toArray, List.append_toArray, List.nil_append, List.cons_append]
  have H0 := Lib.hid c0; have H1 := Lib.hid c1; have HB0 := Lib.hid hB0
  by_cases hd : s = ⟨#[45]⟩
  · subst hd
    have k0 := c0.cell; have k1 := c1.cell
    clear c0 c1 hB0
    gi_wp2
    refine ⟨.tuple #[.int .u64 0, .int .i64 0], ?_, 0, 0, rfl, read_dash, HB0.out⟩
    simp [results, Tryz.f84, go_sem, k0, k1]
  · have hs45 : s.data.toList ≠ [45] := by
      intro e; apply hd
      cases s with
      | mk d => congr 1; apply Array.toList_inj.1; exact e
    have hne : (s.toList == [45]) = false := by rw [ByteArray.toList_eq]; exact beq_false_of_ne hs45
    have HS := Lib.hid hs45
    have b0 := (c0.alloc (.cells #[.int .u64 0] 23))
    have b1 := (c1.alloc (.cells #[.int .u64 0] 23))
    have b2 := Boxed.new ((w.alloc (.cells #[.int .u64 0] 23)).alloc (.cells #[.int .i64 0] 25)) 23 (.int .u64 0)
    simp only [World.size_alloc] at b2
    have hbA := HB0.out.alloc HB0.out.size (.cells #[.int .u64 0] 23)
    have hsz : (((w.alloc (.cells #[.int .u64 0] 23)).alloc (.cells #[.int .i64 0] 25)).alloc (.cells #[.int .u64 0] 23)).heap.size = w.heap.size + 3 := by simp
    have G0 := Lib.hid b0; have G1 := Lib.hid b1; have G2 := Lib.hid b2; have HBA := Lib.hid hbA
    clear c0 c1 hB0 hd hs45 b0 b1 b2 hbA H0 H1 HB0
    gi_wp2
    generalize (((w.alloc (.cells #[.int .u64 0] 23)).alloc (.cells #[.int .i64 0] 25)).alloc (.cells #[.int .u64 0] 23)) = wA at *
    refine ⟨trivial, (callsIn_wide.2 (splitSeq_any s wA)).mono ?_⟩
    rintro e wB ⟨rfl, rfl⟩
    rw [hsz]
    clear hne
    gi_wp2
    have d0 := Boxed.new wA 9 (.string s)
    have d1 := Boxed.new (wA.alloc (.cells #[.string s] 9)) 9 (.string ⟨#[43]⟩)
    have d2 := Boxed.new ((wA.alloc (.cells #[.string s] 9)).alloc (.cells #[.string ⟨#[43]⟩] 9)) 3 (.int .i64 0)
    simp only [World.size_alloc, hsz] at d0 d1 d2
    have e0 := ((G0.out.alloc (.cells #[.string s] 9)).alloc (.cells #[.string ⟨#[43]⟩] 9)).alloc (.cells #[.int .i64 0] 3)
    have e1 := ((G1.out.alloc (.cells #[.string s] 9)).alloc (.cells #[.string ⟨#[43]⟩] 9)).alloc (.cells #[.int .i64 0] 3)
    have e2 := ((G2.out.alloc (.cells #[.string s] 9)).alloc (.cells #[.string ⟨#[43]⟩] 9)).alloc (.cells #[.int .i64 0] 3)
    have hbB : Below w.heap.size w (((wA.alloc (.cells #[.string s] 9)).alloc (.cells #[.string ⟨#[43]⟩] 9)).alloc (.cells #[.int .i64 0] 3)) := ((HBA.out.alloc HBA.out.size _).alloc (by have := HBA.out.size; simp; omega) _).alloc (by have := HBA.out.size; simp; omega) _
    have d0' := (d0.alloc (.cells #[.string ⟨#[43]⟩] 9)).alloc (.cells #[.int .i64 0] 3)
    have d1' := d1.alloc (.cells #[.int .i64 0] 3)
    have hszB : (((wA.alloc (.cells #[.string s] 9)).alloc (.cells #[.string ⟨#[43]⟩] 9)).alloc (.cells #[.int .i64 0] 3)).heap.size = w.heap.size + 6 := by simp; omega
    generalize (((wA.alloc (.cells #[.string s] 9)).alloc (.cells #[.string ⟨#[43]⟩] 9)).alloc (.cells #[.int .i64 0] 3)) = wB at *
    have e2' : Boxed wB (w.heap.size + 2) 23 (.int .u64 ((accP (lsOf ([] : List (Pc s.size))) : Nat) : Int)) := by
      rw [show lsOf ([] : List (Pc s.size)) = [] from rfl, acc_nil]; exact e2
    have hsq := split_seq 2 (by decide) (w.heap.size + 3) s (by omega) wB d0' d1' d2
    refine range_store (α := Pc s.size) (encs := fun x : Pc s.size => #[.string x.val]) (Kp := Keep3 (w.heap.size + 3)) (S := fun ys => lsOf ys = spl s.data.toList) (Sp := fun pre => lsOf pre <+: spl s.data.toList) (N := (spl s.data.toList).length) (B := w.heap.size + 3) rfl (by decide) (gf := 186) (lb := #[.pointer (some ⟨w.heap.size + 3 + 1, 0, none⟩), .pointer (some ⟨w.heap.size + 3, 0, none⟩), .pointer (some ⟨w.heap.size + 3 + 2, 0, none⟩)]) rfl trivial (enters_of Tryz.func186 (by kernel_rfl) rfl)
      hsq (by omega) keep3_t (keep3_b (by omega)) (Below.refl _ _) (fun _ => rfl)
      (PInv (M := s.size) w.heap.size w) (POut (M := s.size) w.heap.size w) (pinv_own (M := s.size) w.heap.size _ w (Nat.le_refl _) (by omega)) (fun c => pout_own (M := s.size) w.heap.size _ w c (Nat.le_refl _) (by omega)) (pinv_store (M := s.size) w.heap.size (w.heap.size + 3) w (by omega)) ⟨⟨e0, e1, e2'⟩, hbB, by omega⟩ ?a1 ?assign ?body ?done ?stop
    case assign =>
      intro l x W K hK
      gi_wp2
      exact hK
    case body =>
      rintro l pre x W ⟨⟨b0, b1, b2⟩, hB, hsz6⟩ hlt
      have hE' := hE.below hB
      have cA := atoi_any x.val W (Nat.le_trans x.le hs) hE'
      clear d0 d1 d2 d0' d1' hsq e0 e1 e2 e2' hbB G0 G1 G2 HBA hlt
      gi_wp2
      refine ⟨trivial, (CallsIn.inRound l (callsIn_wide.2 cA)).mono ?_⟩
      rintro e W1 ⟨v, er, rfl, hae, hb1⟩
      have g0 := boxed_later b0 hb1
      have g1 := boxed_later b1 hb1
      have g2 := boxed_later b2 hb1
      have hB1 := hB.trans (hb1.mono hB.size)
      have cO := of_any (W1.alloc (.cells #[.int .i64 v] 3)) (some ⟨W1.heap.size, 0, none⟩) 1 1 [v] (fun i hi => by
        match i, hi with
        | 0, _ => exact ⟨W1.heap.size, 0, rfl, by simp, by rw [World.cell?_alloc_mark]; rfl⟩) rfl (by decide)
      have hs1 := hb1.size
      have hko := keeps_below hb1
      have hk3 : Keep3 (w.heap.size + 3) W W1 := keep3_below (by omega) hb1
      have hmem : x.val.data.toList ∈ lsOf (pre ++ [x]) := by rw [ls_snoc]; simp
      have q0 := (g0.alloc (.cells #[.int .i64 v] 3)); have q1 := (g1.alloc (.cells #[.int .i64 v] 3)); have q2 := (g2.alloc (.cells #[.int .i64 v] 3))
      have k0 := q0.cell; have k1 := q1.cell; have k2 := q2.cell
      have f0 := q0.frozen; have f1 := q1.frozen; have f2 := q2.frozen
      have kk1 := (q1.other (B' := w.heap.size) (by omega) (.int .u64 0)).cell
      have ff1 := (q1.other (B' := w.heap.size) (by omega) (.int .u64 0)).frozen
      have HG0 := Lib.hid g0; have HG1 := Lib.hid g1; have HG2 := Lib.hid g2
      clear b0 b1 b2 hB hE' cA q0 q1 q2 g0 g1 g2
      have LV : ∀ (a3 : Act) (_ : pieceV x.val.data.toList = none), Hid (ownPostK (Keep3 (w.heap.size + 3)) (PInv (M := s.size) w.heap.size w) (POut (M := s.size) w.heap.size w) (pre ++ [x]) W .ret a3 (((W1.alloc (.cells #[.int .i64 v] 3)).setCell ⟨w.heap.size, 0, none⟩ (.int .u64 0)).setCell ⟨w.heap.size + 1, 0, none⟩ (.int .i64 4))) := fun _ h =>
        ⟨((hko.trans (KeepsOthers.alloc _ _)).trans (KeepsOthers.setCell _ _ _)).trans (KeepsOthers.setCell _ _ _), pout_leave _ HG0.out HG1.out hB1 (Nat.le_refl _) ⟨_, hmem, h⟩⟩
      rcases hae with ⟨rfl, hok⟩ | ⟨⟨t, p, rfl⟩, hno⟩
      · by_cases hr : 0 ≤ v ∧ v ≤ 63
        · obtain ⟨c, rfl⟩ : ∃ c : Nat, v = c := ⟨v.toNat, by omega⟩
          have hc64 : c < 64 := by omega
          have hpc : pieceV x.val.data.toList = some c := by rw [piece_ok hok hr.1 hr.2]; rfl
          obtain ⟨r1, r2⟩ := of_one c hc64
          rw [r1, r2] at cO
          have hp2 : 2 ^ c < 18446744073709551616 := (Nat.pow_lt_pow_right (by decide : 1 < 2) hc64 : 2 ^ c < 2 ^ 64)
          have hor := u64_or_nat (accP (lsOf pre)) (2 ^ c) (acc_lt _) hp2
          have GO := Lib.hid fun z hz => pinv_next x c (.cells #[.int .i64 (c : Int)] 3) hpc hc64 HG0.out HG1.out HG2.out hB1 (Nat.le_refl _) (by omega) z hz
          have HOR := Lib.hid hor
          have KO : Hid (∀ z, KeepsOthers W ((W1.alloc (.cells #[.int .i64 (c : Int)] 3)).setCell ⟨w.heap.size + 2, 0, none⟩ z)) := fun z => (hko.trans (KeepsOthers.alloc _ _)).trans (KeepsOthers.setCell _ _ _)
          have K3 : Hid (∀ z, Keep3 (w.heap.size + 3) W ((W1.alloc (.cells #[.int .i64 (c : Int)] 3)).setCell ⟨w.heap.size + 2, 0, none⟩ z)) := fun z => keep3_t (keep3_t hk3 (keep3_below (by omega) ((Below.refl _ _).alloc (Nat.le_refl _) _))) (keep3_set (by omega) _)
          clear LV hok hr hpc r1 r2 hor HG0 HG1 HG2 hmem hko hk3 hp2
          gi_wp2
          refine ⟨trivial, (CallsIn.inRound l (callsIn_wide.2 cO)).mono ?_⟩
          rintro e w' ⟨rfl, rfl⟩
          clear cO
          gi_wp2
          exact ⟨KO.out _, K3.out _, GO.out _ HOR.out⟩
        · have hlv := fun a3 => LV a3 (piece_out hok (by omega))
          obtain ⟨r1, r2⟩ := of_bad [v] 0 (by simp) (by show v < 0 ∨ 63 < v; omega)
          rw [r1, r2] at cO
          clear LV hok hr r1 r2
          gi_wp2
          refine ⟨trivial, (CallsIn.inRound l (callsIn_wide.2 cO)).mono ?_⟩
          rintro e w' ⟨rfl, rfl⟩
          clear cO
          gi_wp2
          exact (hlv _).out
      · have hlv := fun a3 => LV a3 (piece_no hno)
        clear LV hno
        gi_wp2
        refine ⟨trivial, (CallsIn.inRound l (callsIn_wide.2 cO)).mono ?_⟩
        rintro e w' ⟨rfl, rfl⟩
        clear cO
        gi_wp2
        exact (hlv _).out
    case done =>
      rintro D ys W hD hS ⟨⟨b0, b1, b2⟩, hB, h6⟩ hK
      rw [hS] at b2
      have hT' := hT.below hB
      have cX := text_any_lb (accP (spl s.data.toList)) W (acc_lt _) hT'
      have hrd := Lib.hid (read_good_lb HS.out)
      have k2 := b2.cell
      clear d0 d1 d2 d0' d1' hsq e0 e1 e2 e2' hbB G0 G1 G2 HBA hS
      generalize accP (spl s.data.toList) = acc at *
      have HAC := Lib.hid b2
      have H0 := Lib.hid b0; have H1 := Lib.hid b1
      clear b0 b1 b2
      rcases hrd.out with ⟨hra, htx⟩ | ⟨hra, htx⟩
      · have e : (⟨(textN acc).toArray⟩ : ByteArray) = s := by rw [htx]
        rw [e] at cX
        have HR := Lib.hid hra
        clear hrd hra htx e
        gi_wp2
        refine ⟨trivial, (callsIn_wide.2 cX).mono ?_⟩
        rintro e W3 ⟨rfl, hb3⟩
        have g0 := boxed_later H0.out hb3; have g1 := boxed_later H1.out hb3; have g2 := boxed_later HAC.out hb3
        have hB3 := hB.trans (hb3.mono hB.size)
        have hK3 := (hb3.block D (Array.getElem?_eq_some_iff.1 hK).1).trans hK
        clear k2
        have k2 := g2.cell; have k0 := g0.cell; have k1 := g1.cell; have f0 := g0.frozen; have f1 := g1.frozen
        clear cX hb3 g2
        gi_wp2
        have q0 := (g0.set (.int .u64 (acc : Nat))).other (B' := w.heap.size + 1) (by omega) (.int .i64 0)
        have q1 := (g1.other (B' := w.heap.size) (by omega) (.int .u64 (acc : Nat))).set (.int .i64 0)
        have hk4 := ((KeepsOthers.setCell W3 ⟨w.heap.size, 0, none⟩ (.int .u64 (acc : Nat))).trans (KeepsOthers.setCell _ ⟨w.heap.size + 1, 0, none⟩ (.int .i64 0))).same D _ hK3 rfl
        have kc0 := cell_kept q0.cell (grownBy_putObj' _ D (.deferred none)) (fun r e => by cases e; exact ⟨_, hk4, rfl⟩)
        have kc1 := cell_kept q1.cell (grownBy_putObj' _ D (.deferred none)) (fun r e => by cases e; exact ⟨_, hk4, rfl⟩)
        have hbe := ((hB3.setCell (p := ⟨w.heap.size, 0, none⟩) (Nat.le_refl _) (.int .u64 (acc : Nat))).setCell (p := ⟨w.heap.size + 1, 0, none⟩) (by simp) (.int .i64 0)).trans (belowK_b (w := w) (Nat.le_refl _) _ D _ (.deferred none) (by omega) hk4 rfl rfl)
        refine ⟨by simp, .inl ⟨_, _, rfl, run_takeDeferred hk4, ?_⟩⟩
        refine ⟨.tuple #[.int .u64 (acc : Nat), .int .i64 0], ?_, acc, 0, rfl, HR.out, hbe⟩
        simp [results, Tryz.f84, go_sem, kc0, kc1]
      · have hne : (⟨(textN acc).toArray⟩ : ByteArray) ≠ s := by
          intro e; apply htx; rw [← e]
        generalize (⟨(textN acc).toArray⟩ : ByteArray) = tx at *
        have hne2 : ¬ tx.toList = s.toList := by
          rw [ByteArray.toList_eq, ByteArray.toList_eq]
          intro e; apply hne
          cases tx with
          | mk d => cases s with
            | mk d' => congr 1; apply Array.toList_inj.1; exact e
        have hne3 : (tx.toList == s.toList) = false := beq_false_of_ne hne2
        have hne4 : (tx.toList != s.toList) = true := by rw [bne, hne3]; rfl
        clear hne hne2
        have HR := Lib.hid hra
        clear hrd hra htx
        gi_wp2
        refine ⟨trivial, (callsIn_wide.2 cX).mono ?_⟩
        rintro e W3 ⟨rfl, hb3⟩
        have g0 := boxed_later H0.out hb3; have g1 := boxed_later H1.out hb3
        have hB3 := hB.trans (hb3.mono hB.size)
        have hK3 := (hb3.block D (Array.getElem?_eq_some_iff.1 hK).1).trans hK
        clear k2
        have k0 := g0.cell; have k1 := g1.cell; have f0 := g0.frozen; have f1 := g1.frozen
        clear cX hb3
        gi_wp2
        have q0 := (g0.set (.int .u64 0)).other (B' := w.heap.size + 1) (by omega) (.int .i64 4)
        have q1 := (g1.other (B' := w.heap.size) (by omega) (.int .u64 0)).set (.int .i64 4)
        have hk4 := ((KeepsOthers.setCell W3 ⟨w.heap.size, 0, none⟩ (.int .u64 0)).trans (KeepsOthers.setCell _ ⟨w.heap.size + 1, 0, none⟩ (.int .i64 4))).same D _ hK3 rfl
        have kc0 := cell_kept q0.cell (grownBy_putObj' _ D (.deferred none)) (fun r e => by cases e; exact ⟨_, hk4, rfl⟩)
        have kc1 := cell_kept q1.cell (grownBy_putObj' _ D (.deferred none)) (fun r e => by cases e; exact ⟨_, hk4, rfl⟩)
        have hbe := ((hB3.setCell (p := ⟨w.heap.size, 0, none⟩) (Nat.le_refl _) (.int .u64 0)).setCell (p := ⟨w.heap.size + 1, 0, none⟩) (by simp) (.int .i64 4)).trans (belowK_b (w := w) (Nat.le_refl _) _ D _ (.deferred none) (by omega) hk4 rfl rfl)
        refine ⟨by simp, .inl ⟨_, _, rfl, run_takeDeferred hk4, ?_⟩⟩
        refine ⟨.tuple #[.int .u64 0, .int .i64 4], ?_, 0, 4, rfl, HR.out, hbe⟩
        simp [results, Tryz.f84, go_sem, kc0, kc1]
    case stop =>
      rintro D c pre W hD hp ⟨⟨b0, b1⟩, ⟨rfl, p, hpm, hpv⟩, hB⟩ hK
      have hrd := read_bad HS.out hp hpm hpv
      have kc0 := cell_kept b0.cell (grownBy_putObj' _ D (.deferred none)) (fun r e => by cases e; exact ⟨_, hK, rfl⟩)
      have kc1 := cell_kept b1.cell (grownBy_putObj' _ D (.deferred none)) (fun r e => by cases e; exact ⟨_, hK, rfl⟩)
      have hbe := hB.trans (belowK_b (w := w) (Nat.le_refl _) W D _ (.deferred none) (by omega) hK rfl rfl)
      clear d0 d1 d2 d0' d1' hsq e0 e1 e2 e2' hbB G0 G1 G2 HBA hp hpm hpv b0 b1
      gi_wp2
      refine ⟨by simp, .inl ⟨_, _, rfl, run_takeDeferred hK, ?_⟩⟩
      refine ⟨.tuple #[.int .u64 0, .int .i64 4], ?_, 0, 4, rfl, hrd, hbe⟩
      simp [results, Tryz.f84, go_sem, kc0, kc1]
end Go.Proofs.YtfkkodcppaakjaaGreatDoor
