/- Texts of the proof, merged: PrNew. -/
import Derived.Test.YtfkkodcppaakjaaGreatDoorRd37
import Derived.Test.YtfkkodcppaakjaaGreatDoorRd48
/- The document's New of chapter 3, by its contract: by insertion. -/
namespace Go.Proofs.YtfkkodcppaakjaaGreatDoor
open Go Go.RowKit

/-- What the document's New answers. -/
def NewRef (l : List Vw) (W : World) (e : Ending) (w' : World) : Prop := Below W.heap.size W w' ∧
  ((okL l ∧ ∃ p c, e = .returned (.tuple #[.slice p l.length c, .int .i64 0]) ∧ VwRow w' p (sortV l) ∧ w'.ownsRow W.heap.size 81 2 (.slice p l.length c) l.length (flat (sortV l))) ∨ (¬ okL l ∧ e = .returned (.tuple #[.slice none 0 0, .int .i64 30])))
theorem prLess (x y : List UInt8) : Op.bytesLess (bs x).toList (bs y).toList = decide (x < y) := by
  rw [ByteArray.toList_eq, ByteArray.toList_eq, bs_list, bs_list, bytesLess_eq]
theorem prBeq2 (x y : List UInt8) : ((bs x).toList == (bs y).toList) = (x == y) := by
  rw [ByteArray.toList_eq, ByteArray.toList_eq, bs_list, bs_list]
theorem vwRow_take {w : World} {p : Option Addr} {S : List Vw} (h : VwRow w p S) (k : Nat) : VwRow w p (S.take k) := fun i hi => by
  rw [List.length_take] at hi
  rw [List.getElem_take]
  exact h i (by omega)
theorem vwRow_drop {w : World} {b o : Nat} {S : List Vw} (h : VwRow w (some ⟨b, o, none⟩) S) (k : Nat) : VwRow w (some ⟨b, o + k * 2, none⟩) (S.drop k) := fun i hi => by
  rw [List.length_drop] at hi
  obtain ⟨b', o', e, hlt, hc⟩ := h (k + i) (by omega)
  injection e with e
  injection e with e1 e2
  subst e1 e2
  refine ⟨b, o + k * 2, rfl, hlt, ?_⟩
  rw [List.getElem_drop, show o + k * 2 + i * 2 = o + (k + i) * 2 by omega]
  exact hc
theorem place_out {S : List Vw} {x : Vw} {k : Nat} (hS : Rising S) (hp : AtPlace S x k) (hne : ∀ h : k < S.length, S[k].s ≠ x.s) : x.s ∉ names S := fun h => by
  obtain ⟨z, hz, e⟩ := List.mem_map.1 h
  obtain ⟨j, hj, rfl⟩ := List.getElem_of_mem hz
  obtain ⟨_, h1, h2⟩ := hp
  have e' : S[j].s = x.s := e
  rcases Nat.lt_trichotomy j k with hjk | hjk | hjk
  · have := h1 j hj hjk
    rw [e'] at this
    exact absurd this (Std.lt_irrefl)
  · subst hjk; exact hne hj e'
  · have := List.pairwise_iff_getElem.1 hS k j (by omega) hj hjk
    rw [e'] at this
    exact h2 (by omega) this
theorem sortV_len (l : List Vw) : (sortV l).length = l.length := (sortV_perm l).length_eq
theorem place_step {S : List Vw} {x : Vw} {k : Nat} (h : k < S.length) (hlt : S[k].s < x.s) (hp : ∀ j (h : j < S.length), j < k → S[j].s < x.s) : ∀ j (h : j < S.length), j < k + 1 → S[j].s < x.s := fun j hj hjk => by
  by_cases e : j = k
  · subst e; exact hlt
  · exact hp j hj (by omega)
theorem sort_step {l : List Vw} {i k : Nat} (hi : i < l.length) (hn : (names (l.take i)).Nodup) (hp : AtPlace (sortV (l.take i)) l[i] k) (hne : ∀ h : k < (sortV (l.take i)).length, (sortV (l.take i))[k].s ≠ l[i].s) : (sortV (l.take i)).take k ++ l[i] :: (sortV (l.take i)).drop k = sortV (l.take (i + 1)) := by
  obtain ⟨h1, h2⟩ := place_new (sortV_rising hn) hp hne
  refine (sortV_of_perm h1 ?_).symm
  rw [List.take_succ_eq_append_getElem hi]
  exact (List.Perm.append_right _ (sortV_perm (l.take i)).symm).trans h2
set_option maxRecDepth 100000 in
set_option maxHeartbeats 4000000 in
theorem prNew_any (w : World) (p : Option Addr) (n c : Nat) (l : List Vw) (hn : l.length = n) (hnm : n ≤ maxLen) (hr : VwRow w p l) (hf : Fit64 l) :
    Calls Tryz.prog 39 #[.slice p n c] w (NewRef l w) := by
  obtain ⟨i0, hi, hz0, hz1, hz2⟩ := info_parts vwInfo
  have HN := Lib.hid hn
  by_cases h64 : n ≤ 64
  rotate_left
  · have hno : Hid (¬ okL l) := fun h => h64 (by rw [← hn]; exact h.1)
    have h64I : (64 : Int) < (n : Int) := by omega
    clear hn
    go_enter Tryz.func39, Tryz.ntmps39
    go_wp2_with fail
    go_ret2
    exact ⟨Below.refl _ _, .inr ⟨hno.out, rfl⟩⟩
  have h64I : ¬ ((64 : Int) < (n : Int)) := by omega
  clear hn
  go_enter Tryz.func39, Tryz.ntmps39
  go_wp2_with fail
  go_loopg [4, 5] n (fun g u vi wr => ∃ i : Nat, i + g = n ∧ vi = .int .i64 i ∧ Hid (UpTo l i) ∧ Hid (i = 0 → u = .slice none 0 0) ∧ Below w.heap.size w wr ∧ Hid (wr.ownsRow w.heap.size 81 2 u i (flat (sortV (l.take i)))))
  case atStart => exact ⟨0, by omega, rfl, upTo_zero l, fun _ => rfl, Below.refl _ _, by rw [List.take_zero, show sortV [] = [] by simp [sortV]]; exact World.ownsRow_nil _ _ _ _⟩
  case round =>
    obtain ⟨wo, rfl⟩ : ∃ wo, wo = wr := ⟨_, rfl⟩
    obtain ⟨G, rfl⟩ : ∃ G, G = gk := ⟨_, rfl⟩
    obtain ⟨i, hig, rfl, HU, H0, hbr, HO⟩ := hrel
    have hi0 : (0 : Int) ≤ (i : Int) := by omega
    have hsr := hbr.size
    by_cases hlt : i < n
    · have hlt' : i < l.length := by rw [HN.out]; exact hlt
      have hiI : (i : Int) < (n : Int) := by omega
      obtain ⟨b1, o1, rfl, hb1, h1c⟩ := hr.at i hlt'
      obtain ⟨g1, g2⟩ := h1c wo hbr
      have hfx := hf _ (List.getElem_mem hlt')
      have cN := refName_any (bs l[i].s) wo (by rw [bs_size]; exact hfx.2)
      rw [bs_list] at cN
      have hbadn := Lib.hid (fun h : nameL l[i].s = false => okL_name hlt' h)
      have hbadt := Lib.hid (fun h : l[i].s ∈ names (l.take i) => okL_twice hlt' h)
      have hup := Lib.hid (fun h1 h2 => upTo_step hlt' HU.out h1 h2)
      have hss := Lib.hid (fun k => sort_step (k := k) hlt' HU.out.1)
      have hmn : Hid (∀ s, s ∈ names (sortV (l.take i)) ↔ s ∈ names (l.take i)) := fun s => (names_perm (sortV_perm (l.take i))).mem_iff
      have hrise := Lib.hid (sortV_rising HU.out.1)
      have hSl : (sortV (l.take i)).length = i := by rw [sortV_len, List.length_take]; omega
      have HC := Lib.hid h1c
      have HB := Lib.hid hbr
      clear h1c hbr hf hr
      cases hnm2 : nameL l[i].s
      · have hno := Lib.hid (hbadn.out hnm2)
        rw [hnm2] at cN
        clear hbadn hbadt hup hss hnm2
        generalize l[i] = x at *
        go_wp2_with fail
        refine cN.mono ?_
        rintro e w' ⟨rfl, rfl⟩
        clear cN
        go_wp2_with fail
        go_ret2
        exact ⟨HB.out, .inr ⟨hno.out, rfl⟩⟩
      · rw [hnm2] at cN
        have HNM := Lib.hid hnm2
        obtain ⟨pu, cu, hu, hrow⟩ := vw_owned hSl HO.out
        have ho := HO.out
        rw [hu] at ho ⊢
        have HO2 := Lib.hid ho
        have hnil : Hid (pu = none → i = 0 ∧ cu = 0) := fun h => by
          rcases ho.2 with ⟨hv, h0⟩ | ⟨g, cap, cur, hv, _⟩
          · simp at hv
            exact ⟨by omega, hv.2.2⟩
          · rw [h] at hv; simp at hv
        have hpu0 : Hid (i = 0 → pu = none) := fun h => by
          have e := H0.out h
          rw [hu] at e
          simp at e
          exact e.1
        have hcu : i ≤ cu := by
          rcases ho.2 with ⟨hv, h0⟩ | ⟨g, cap, cur, hv, _, _, hle, _⟩
          · simp at hv; omega
          · simp at hv; omega
        have hcuI : (i : Int) ≤ (cu : Int) := by omega
        have HR := Lib.hid hrow
        have HSL := Lib.hid hSl
        clear hbadn ho hnm2 HO hu H0 hrow hSl
        generalize hX : l[i] = x at *
        have HX := Lib.hid hX
        clear hX
        generalize sortV (l.take i) = S at *
        go_wp2_with fail
        refine cN.mono ?_
        rintro e w' ⟨rfl, rfl⟩
        clear cN
        go_wp2_with fail
        go_loopg [6] (i + 1) (fun g vi wx => ∃ k : Nat, k + g = i + 1 ∧ k ≤ i ∧ vi = .int .i64 k ∧ Below wo.heap.size wo wx ∧ Hid (∀ j (h : j < S.length), j < k → S[j].s < x.s))
        case atStart => exact ⟨0, by omega, by omega, rfl, Below.refl _ _, fun j _ h => absurd h (Nat.not_lt_zero _)⟩
        case round =>
          obtain ⟨k, hkg, hki, rfl, hbx, HP⟩ := hrel
          have hk0 : (0 : Int) ≤ (k : Int) := by omega
          obtain ⟨q1, q2⟩ := HC.out wr (HB.out.trans (hbx.mono hsr))
          by_cases hkl : k < i
          · have hkl' : k < S.length := by rw [HSL.out]; exact hkl
            have hkI : (k : Int) < (i : Int) := by omega
            obtain ⟨b2, o2, rfl, _, h2c⟩ := HR.out.at k hkl'
            obtain ⟨r1, r2⟩ := h2c wr hbx
            have hstep := Lib.hid (fun h => place_step hkl' h HP.out)
            by_cases hlts : S[k].s < x.s
            · have HP2 := Lib.hid (hstep.out hlts)
              have HBX := Lib.hid hbx
              generalize S[k] = y at *
              have hbl := prLess y.s x.s
              rw [decide_eq_true hlts] at hbl
              clear hstep HP hbx hlts
              go_wp2_with fail
              go_quiet (fail)
              go_wp2
              go_roundg (gk - 1)
              case rel => exact ⟨k + 1, by omega, by omega, by go_num, belowDN' HBX.out _, HP2⟩
              case measure => omega
            · have HBX := Lib.hid hbx
              have hpl : Hid (AtPlace S x k) := ⟨by have := HSL.out; omega, HP.out, fun _ => hlts⟩
              have htw := Lib.hid (fun e => place_twice (x := x) hkl' e)
              have hkeq : ∀ h : k < S.length, S[k] = S[k]'hkl' := fun _ => rfl
              obtain ⟨y, hy⟩ : ∃ y, S[k] = y := ⟨_, rfl⟩
              rw [hy] at hlts r1 r2 htw
              have HY := Lib.hid hy
              have hbl := prLess y.s x.s
              rw [decide_eq_false hlts] at hbl
              have hbq := prBeq2 y.s x.s
              clear hstep HP hbx hlts hkeq hy
              by_cases heq : y.s = x.s
              · rw [beq_iff_eq.2 heq] at hbq
                have hno := Lib.hid (hbadt.out ((hmn.out _).1 (htw.out heq)))
                clear hbadt htw heq
                go_wp2_with fail
                go_quiet (fail)
                go_wp2_with fail
                go_quiet (fail)
                go_wp2
                go_ret2
                exact ⟨HB.out.trans ((belowDN' (belowDN' HBX.out _) _).mono hsr), .inr ⟨hno.out, rfl⟩⟩
              · rw [beq_false_of_ne heq] at hbq
                have hne : Hid (∀ h : k < S.length, S[k].s ≠ x.s) := fun h => by
                  have := HY.out
                  rw [show S[k] = y from this]; exact heq
                have hkcI : (k : Int) ≤ (cu : Int) := by omega
                have hkiI : (k : Int) ≤ (i : Int) := by omega
                clear hbadt htw heq
                go_wp2_with fail
                go_quiet (fail)
                go_wp2_with fail
                go_quiet (fail)
                have hbW := fun q => belowDN' HBX.out q
                have hrT := fun q => vwRow_take (HR.out.later (hbW q)) k
                have htl : (S.take k).length = k := by rw [List.length_take, HSL.out]; omega
                have HTL := Lib.hid htl
                have HRT := Lib.hid hrT
                have HBW := Lib.hid hbW
                clear hrT hbW htl
                have hdl : (S.drop k).length = i - k := by rw [List.length_drop, HSL.out]
                have HDL := Lib.hid hdl
                have HEND := Lib.hid (hss.out k hpl.out hne.out)
                have HUP := Lib.hid (hup.out (fun h => place_out hrise.out hpl.out hne.out ((hmn.out _).2 h)) HNM.out)
                clear hdl hss hup hmn
                go_wp2_with (first
                  | (at_builtin; refine app_vw rfl _ _ 28 rfl wo.heap.size 81 i0 (.agg #[.string ⟨#[]⟩, .int .u64 0]) Tryz.underlying28 hi hz0 hz1 hz2 rfl _ 0 [] rfl (World.ownsRow_nil _ _ _ _) (some ⟨b2, o2, none⟩) k cu (S.take k) rfl HTL.out (HRT.out _) (fun h => by cases h) (by omega) (HBW.out _).size ?_; intro v1 w1 own1 hb1; have hbo := (HBW.out _).trans hb1; obtain ⟨s1, s2⟩ := HC.out w1 (HB.out.trans (hbo.mono hsr)); have hs1 := hbo.size; have HBO := Lib.hid hbo; clear hbo hb1 q1 q2 r1 r2)
                  | (at_builtin; refine wpList_append_own _ rfl _ _ 28 rfl wo.heap.size 81 i0 (.agg #[.string ⟨#[]⟩, .int .u64 0]) 2 24 Tryz.underlying28 hi hz0 hz1 hz2 rfl (by decide) _ _ _ rfl (own1.alloc _) ⟨w1.heap.size, 0, none⟩ 1 1 x.vals rfl rfl ?c1 ?c2 ?c3 ?c4 ?c5 ?_))
                case c1 => exact vw_cells _ x _
                case c2 => intro u hu; simp [Vw.vals] at hu; rcases hu with rfl | rfl <;> rfl
                case c3 => unfold maxLen; omega
                case c4 => omega
                case c5 => simp; omega
                intro v2 w2 own2 gr2 _
                have own2' : w2.ownsRow wo.heap.size 81 2 v2 (k + 1) (flat (S.take k ++ [x])) := by rw [flat_snoc]; exact own2
                have hbo2 := (HBO.out.alloc hs1 (.cells #[.string (bs x.s), .int .u64 x.c] 81)).grown gr2 (by simp; omega) (fun g hg => (own1.lt g hg).1)
                have hs2 := hbo2.size
                have HBO2 := Lib.hid hbo2
                have HRD := Lib.hid (vwRow_drop (HR.out.later hbo2) k)
                clear own2 gr2 own1 hbo2
                go_wp2_with (at_builtin; refine app_vw rfl _ _ 28 rfl wo.heap.size 81 i0 (.agg #[.string ⟨#[]⟩, .int .u64 0]) Tryz.underlying28 hi hz0 hz1 hz2 rfl _ (k + 1) _ rfl own2' (some ⟨b2, o2 + k * 2, none⟩) (i - k) _ (S.drop k) rfl HDL.out HRD.out (fun h => by cases h) (by omega) hs2 ?_; intro v3 w3 own3 hb3)
                have HBO3 := Lib.hid (HBO2.out.trans hb3)
                have own4 : w3.ownsRow wo.heap.size 81 2 v3 (i + 1) (flat (sortV (l.take (i + 1)))) := by
                  rw [← HEND.out, show i + 1 = k + 1 + (i - k) by omega, show S.take k ++ x :: S.drop k = S.take k ++ [x] ++ S.drop k by simp]
                  exact own3
                have HO4 := Lib.hid (base_le own4 hsr)
                clear own2' own3 own4 hb3 HBO HBO2
                go_wp2_with fail
                go_roundg (G - 1)
                case rel => exact ⟨i + 1, by omega, by go_num, HUP, fun h => by omega, HB.out.trans (HBO3.out.mono hsr), HO4⟩
                case measure => omega
          · have hki2 : i ≤ k := by omega
            have HBX := Lib.hid hbx
            have hkI : ¬ ((k : Int) < (i : Int)) := by omega
            have hpl : Hid (AtPlace S x k) := ⟨by have := HSL.out; omega, HP.out, fun h => by have := HSL.out; omega⟩
            have hne : Hid (∀ h : k < S.length, S[k].s ≠ x.s) := fun h => by have := HSL.out; omega
            clear hbx HP
            by_cases hiz : i = 0
            · subst hiz
              obtain rfl := hpu0.out rfl
              obtain ⟨_, rfl⟩ := hnil.out rfl
              obtain rfl : k = 0 := by omega
              have hS0 : S = [] := List.eq_nil_of_length_eq_zero HSL.out
              have HEND := Lib.hid (hss.out 0 hpl.out hne.out)
              have HUP := Lib.hid (hup.out (fun h => place_out hrise.out hpl.out hne.out ((hmn.out _).2 h)) HNM.out)
              have HS0 := Lib.hid hS0
              have hbW := fun q => belowDN' HBX.out q
              have HBW := Lib.hid hbW
              clear hbadt hss hup hmn hS0 hbW
              go_wp2_with fail
              go_quiet (fail)
              go_wp2_with fail
              go_quiet (fail)
              go_wp2_with (first
                | (at_builtin; refine app_vw rfl _ _ 28 rfl wo.heap.size 81 i0 (.agg #[.string ⟨#[]⟩, .int .u64 0]) Tryz.underlying28 hi hz0 hz1 hz2 rfl _ 0 [] rfl (World.ownsRow_nil _ _ _ _) none 0 0 [] rfl rfl (vwRow_nil _ _) (fun _ => ⟨rfl, rfl⟩) (by omega) (HBW.out _).size ?_; intro v1 w1 own1 hb1; have hbo := (HBW.out _).trans hb1; obtain ⟨s1, s2⟩ := HC.out w1 (HB.out.trans (hbo.mono hsr)); simp only [Nat.zero_mul, Nat.add_zero] at s1 s2; have hs1 := hbo.size; have HBO := Lib.hid hbo; clear hbo hb1 q1 q2)
                | (at_builtin; refine wpList_append_own _ rfl _ _ 28 rfl wo.heap.size 81 i0 (.agg #[.string ⟨#[]⟩, .int .u64 0]) 2 24 Tryz.underlying28 hi hz0 hz1 hz2 rfl (by decide) _ _ _ rfl (own1.alloc _) ⟨w1.heap.size, 0, none⟩ 1 1 x.vals rfl rfl ?g1 ?g2 ?g3 ?g4 ?g5 ?_))
              case g1 => exact vw_cells _ x _
              case g2 => intro u hu; simp [Vw.vals] at hu; rcases hu with rfl | rfl <;> rfl
              case g3 => unfold maxLen; omega
              case g4 => omega
              case g5 => simp; omega
              intro v2 w2 own2 gr2 _
              have own2' : w2.ownsRow wo.heap.size 81 2 v2 1 (flat [x]) := by simpa [flat] using own2
              have hbo2 := (HBO.out.alloc hs1 (.cells #[.string (bs x.s), .int .u64 x.c] 81)).grown gr2 (by simp; omega) (fun g hg => (own1.lt g hg).1)
              have hs2 := hbo2.size
              have HBO2 := Lib.hid hbo2
              clear own2 gr2 own1 hbo2
              go_wp2_with (at_builtin; refine app_vw rfl _ _ 28 rfl wo.heap.size 81 i0 (.agg #[.string ⟨#[]⟩, .int .u64 0]) Tryz.underlying28 hi hz0 hz1 hz2 rfl _ 1 _ rfl own2' none 0 0 [] rfl rfl (vwRow_nil _ _) (fun _ => ⟨rfl, rfl⟩) (by omega) hs2 ?_; intro v3 w3 own3 hb3)
              have HBO3 := Lib.hid (HBO2.out.trans hb3)
              have own4 : w3.ownsRow wo.heap.size 81 2 v3 (0 + 1) (flat (sortV (l.take (0 + 1)))) := by
                rw [← HEND.out, HS0.out]
                simpa using own3
              have HO4 := Lib.hid (base_le own4 hsr)
              clear own2' own3 own4 hb3 HBO HBO2
              go_wp2_with fail
              go_roundg (G - 1)
              case rel => exact ⟨0 + 1, by omega, by go_num, HUP, fun h => by omega, HB.out.trans (HBO3.out.mono hsr), HO4⟩
              case measure => omega
            · obtain ⟨b2, o2, rfl, _, h2c⟩ := HR.out.at 0 (by have := HSL.out; omega)
              clear h2c hiz
              by_cases hcc : k < cu
              · have hkcI : (k : Int) ≤ (cu : Int) := by omega
                have hkiI : (k : Int) ≤ (i : Int) := by omega
                clear hbadt
                go_wp2_with fail
                go_quiet (fail)
                go_wp2_with fail
                go_quiet (fail)
                have hbW := fun q => belowDN' HBX.out q
                have hrT := fun q => vwRow_take (HR.out.later (hbW q)) k
                have htl : (S.take k).length = k := by rw [List.length_take, HSL.out]; omega
                have HTL := Lib.hid htl
                have HRT := Lib.hid hrT
                have HBW := Lib.hid hbW
                clear hrT hbW htl
                have hdl : (S.drop k).length = i - k := by rw [List.length_drop, HSL.out]
                have HDL := Lib.hid hdl
                have HEND := Lib.hid (hss.out k hpl.out hne.out)
                have HUP := Lib.hid (hup.out (fun h => place_out hrise.out hpl.out hne.out ((hmn.out _).2 h)) HNM.out)
                clear hdl hss hup hmn
                go_wp2_with (first
                  | (at_builtin; refine app_vw rfl _ _ 28 rfl wo.heap.size 81 i0 (.agg #[.string ⟨#[]⟩, .int .u64 0]) Tryz.underlying28 hi hz0 hz1 hz2 rfl _ 0 [] rfl (World.ownsRow_nil _ _ _ _) (some ⟨b2, o2, none⟩) k cu (S.take k) rfl HTL.out (HRT.out _) (fun h => by cases h) (by omega) (HBW.out _).size ?_; intro v1 w1 own1 hb1; have hbo := (HBW.out _).trans hb1; obtain ⟨s1, s2⟩ := HC.out w1 (HB.out.trans (hbo.mono hsr)); have hs1 := hbo.size; have HBO := Lib.hid hbo; clear hbo hb1 q1 q2)
                  | (at_builtin; refine wpList_append_own _ rfl _ _ 28 rfl wo.heap.size 81 i0 (.agg #[.string ⟨#[]⟩, .int .u64 0]) 2 24 Tryz.underlying28 hi hz0 hz1 hz2 rfl (by decide) _ _ _ rfl (own1.alloc _) ⟨w1.heap.size, 0, none⟩ 1 1 x.vals rfl rfl ?d1 ?d2 ?d3 ?d4 ?d5 ?_))
                case d1 => exact vw_cells _ x _
                case d2 => intro u hu; simp [Vw.vals] at hu; rcases hu with rfl | rfl <;> rfl
                case d3 => unfold maxLen; omega
                case d4 => omega
                case d5 => simp; omega
                intro v2 w2 own2 gr2 _
                have own2' : w2.ownsRow wo.heap.size 81 2 v2 (k + 1) (flat (S.take k ++ [x])) := by rw [flat_snoc]; exact own2
                have hbo2 := (HBO.out.alloc hs1 (.cells #[.string (bs x.s), .int .u64 x.c] 81)).grown gr2 (by simp; omega) (fun g hg => (own1.lt g hg).1)
                have hs2 := hbo2.size
                have HBO2 := Lib.hid hbo2
                have HRD := Lib.hid (vwRow_drop (HR.out.later hbo2) k)
                clear own2 gr2 own1 hbo2
                go_wp2_with (at_builtin; refine app_vw rfl _ _ 28 rfl wo.heap.size 81 i0 (.agg #[.string ⟨#[]⟩, .int .u64 0]) Tryz.underlying28 hi hz0 hz1 hz2 rfl _ (k + 1) _ rfl own2' _ _ _ [] rfl (by first | rfl | (simp; done) | (simp; omega)) (vwRow_nil _ _) (fun h => by first | cases h | (revert h; split <;> (intro h; cases h))) (by omega) hs2 ?_; intro v3 w3 own3 hb3)
                have HBO3 := Lib.hid (HBO2.out.trans hb3)
                have own4 : w3.ownsRow wo.heap.size 81 2 v3 (i + 1) (flat (sortV (l.take (i + 1)))) := by
                  rw [← HEND.out, List.drop_eq_nil_of_le (by rw [HSL.out]; omega)]
                  have e : i + 1 = k + 1 := by omega
                  rw [e]
                  have e0 : i - k = 0 := by omega
                  simpa [e0] using own3
                have HO4 := Lib.hid (base_le own4 hsr)
                clear own2' own3 own4 hb3 HBO HBO2
                go_wp2_with fail
                go_roundg (G - 1)
                case rel => exact ⟨i + 1, by omega, by go_num, HUP, fun h => by omega, HB.out.trans (HBO3.out.mono hsr), HO4⟩
                case measure => omega
              · have hkcI : (k : Int) ≤ (cu : Int) := by omega
                have hkiI : (k : Int) ≤ (i : Int) := by omega
                clear hbadt
                go_wp2_with fail
                go_quiet (fail)
                go_wp2_with fail
                go_quiet (fail)
                have hbW := fun q => belowDN' HBX.out q
                have hrT := fun q => vwRow_take (HR.out.later (hbW q)) k
                have htl : (S.take k).length = k := by rw [List.length_take, HSL.out]; omega
                have HTL := Lib.hid htl
                have HRT := Lib.hid hrT
                have HBW := Lib.hid hbW
                clear hrT hbW htl
                have hdl : (S.drop k).length = i - k := by rw [List.length_drop, HSL.out]
                have HDL := Lib.hid hdl
                have HEND := Lib.hid (hss.out k hpl.out hne.out)
                have HUP := Lib.hid (hup.out (fun h => place_out hrise.out hpl.out hne.out ((hmn.out _).2 h)) HNM.out)
                clear hdl hss hup hmn
                go_wp2_with (first
                  | (at_builtin; refine app_vw rfl _ _ 28 rfl wo.heap.size 81 i0 (.agg #[.string ⟨#[]⟩, .int .u64 0]) Tryz.underlying28 hi hz0 hz1 hz2 rfl _ 0 [] rfl (World.ownsRow_nil _ _ _ _) (some ⟨b2, o2, none⟩) k cu (S.take k) rfl HTL.out (HRT.out _) (fun h => by cases h) (by omega) (HBW.out _).size ?_; intro v1 w1 own1 hb1; have hbo := (HBW.out _).trans hb1; obtain ⟨s1, s2⟩ := HC.out w1 (HB.out.trans (hbo.mono hsr)); have hs1 := hbo.size; have HBO := Lib.hid hbo; clear hbo hb1 q1 q2)
                  | (at_builtin; refine wpList_append_own _ rfl _ _ 28 rfl wo.heap.size 81 i0 (.agg #[.string ⟨#[]⟩, .int .u64 0]) 2 24 Tryz.underlying28 hi hz0 hz1 hz2 rfl (by decide) _ _ _ rfl (own1.alloc _) ⟨w1.heap.size, 0, none⟩ 1 1 x.vals rfl rfl ?f1 ?f2 ?f3 ?f4 ?f5 ?_))
                case f1 => exact vw_cells _ x _
                case f2 => intro u hu; simp [Vw.vals] at hu; rcases hu with rfl | rfl <;> rfl
                case f3 => unfold maxLen; omega
                case f4 => omega
                case f5 => simp; omega
                intro v2 w2 own2 gr2 _
                have own2' : w2.ownsRow wo.heap.size 81 2 v2 (k + 1) (flat (S.take k ++ [x])) := by rw [flat_snoc]; exact own2
                have hbo2 := (HBO.out.alloc hs1 (.cells #[.string (bs x.s), .int .u64 x.c] 81)).grown gr2 (by simp; omega) (fun g hg => (own1.lt g hg).1)
                have hs2 := hbo2.size
                have HBO2 := Lib.hid hbo2
                have HRD := Lib.hid (vwRow_drop (HR.out.later hbo2) k)
                clear own2 gr2 own1 hbo2
                go_wp2_with (at_builtin; refine app_vw rfl _ _ 28 rfl wo.heap.size 81 i0 (.agg #[.string ⟨#[]⟩, .int .u64 0]) Tryz.underlying28 hi hz0 hz1 hz2 rfl _ (k + 1) _ rfl own2' _ _ _ [] rfl (by first | rfl | (simp; done) | (simp; omega)) (vwRow_nil _ _) (fun h => by first | cases h | (revert h; split <;> (intro h; cases h))) (by omega) hs2 ?_; intro v3 w3 own3 hb3)
                have HBO3 := Lib.hid (HBO2.out.trans hb3)
                have own4 : w3.ownsRow wo.heap.size 81 2 v3 (i + 1) (flat (sortV (l.take (i + 1)))) := by
                  rw [← HEND.out, List.drop_eq_nil_of_le (by rw [HSL.out]; omega)]
                  have e : i + 1 = k + 1 := by omega
                  rw [e]
                  have e0 : i - k = 0 := by omega
                  simpa [e0] using own3
                have HO4 := Lib.hid (base_le own4 hsr)
                clear own2' own3 own4 hb3 HBO HBO2
                go_wp2_with fail
                go_roundg (G - 1)
                case rel => exact ⟨i + 1, by omega, by go_num, HUP, fun h => by omega, HB.out.trans (HBO3.out.mono hsr), HO4⟩
                case measure => omega
    · obtain rfl : i = n := by omega
      have hall : l.take i = l := by rw [← HN.out]; exact List.take_length
      have hok : okL l := upTo_all (by rw [HN.out]; exact h64) (by rw [HN.out]; exact HU.out)
      have HO2 := Lib.hid HO.out
      rw [hall] at HO2
      have HB := Lib.hid hbr
      have HOK := Lib.hid hok
      have hkI : ¬ ((i : Int) < (i : Int)) := by omega
      clear HO hbr hall hok HU H0 hf hr
      go_wp2_with fail
      go_ret2
      obtain ⟨p1, c1, hu, hrow⟩ := vw_owned (by rw [sortV_len, HN.out]) HO2.out
      have ho9 := HO2.out
      rw [hu] at ho9 ⊢
      exact ⟨HB.out, .inl ⟨HOK.out, p1, c1, by rw [HN.out]; rfl, hrow, by rw [HN.out]; exact ho9⟩⟩
end Go.Proofs.YtfkkodcppaakjaaGreatDoor
