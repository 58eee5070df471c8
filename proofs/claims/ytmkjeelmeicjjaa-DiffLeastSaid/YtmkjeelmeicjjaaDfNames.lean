/- DiffNames: small middles are gone through, greater ones are not: a walk over contracts. -/
import Derived.Test.YtmkjeelmeicjjaaDfFit
import Derived.Test.YtmkjeelmeicjjaaDfNamesP
import Derived.Test.YtmkjeelmeicjjaaDfApart
import Derived.Deep.CutBlock
import Derived.Laws.BytesString
namespace Go.Proofs.Ytmkjeelmeicjjaa
open Go Go.RowKit

theorem cell_one_g (w : World) (x : Value) (T : TypeId) (g : Nat) (hg : w.heap.size = g) : ∀ j u, [x][j]? = some u → (w.alloc (.cells #[x] T)).cell? ((⟨g, 0, none⟩ : Addr).add j) = some u := by
  subst hg
  exact cell_one_new w x T
theorem apart_ne {a b : Value} (h : Apart a b) : b.ownBlock = none ∨ b.ownBlock ≠ a.ownBlock := by
  cases hb : b.ownBlock with
  | none => exact .inl rfl
  | some g => exact .inr fun e => h g e.symm hb
theorem Apart.symm {a b : Value} (h : Apart a b) : Apart b a := fun g hg e => h g e hg
theorem apart_grown {a a' b : Value} {n : Nat} (h : Apart a b) (hbk : a'.ownBlock = a.ownBlock ∨ a'.ownBlock = some n) (hb : ∀ g, b.ownBlock = some g → g < n) : Apart a' b := fun g hg e => by
  rcases hbk with e' | e'
  · exact h g (e' ▸ hg) e
  · rw [e'] at hg
    injection hg with hg
    have := hb g e
    omega
theorem own_ptr' {W : World} {B : Nat} {e : TypeId} {v : Value} {n size : Nat} {cs : List Value} (h : W.ownsRow B e size v n cs) (hn : 0 < n) : ∃ g cap, v = .slice (some ⟨g, 0, none⟩) n cap ∧ n ≤ cap ∧ B ≤ g ∧ g < W.heap.size := by
  rcases h.2 with ⟨_, h0⟩ | ⟨g, cap, cur, hv', hB, hg, hc, _⟩
  · omega
  · exact ⟨g, cap, hv', hc, hB, (Array.getElem?_eq_some_iff.1 hg).1⟩
theorem conv3 (V : World) (uI : Int) (u k : Nat) (hu : uI = (u : Int)) : (convert 35 9 (.slice (some ⟨V.heap.size, 0, none⟩) 3 3)).run Try.prog (V.alloc (.cells #[.int .u8 uI, .int .u8 ((k : Int) % 256), .int .u8 ((k : Int) / 256)] 5)) = .ok (.string (nm u k)) (V.alloc (.cells #[.int .u8 uI, .int .u8 ((k : Int) % 256), .int .u8 ((k : Int) / 256)] 5)) := by
  rw [run_convert_bytes_string _ 35 9 5 _ 3 3 Try.underlying35 Try.underlying5 Try.underlying9]
  have hc : ∀ j v, ([.int .u8 uI, .int .u8 ((k : Int) % 256), .int .u8 ((k : Int) / 256)] : List Value)[j]? = some v → (V.alloc (.cells #[.int .u8 uI, .int .u8 ((k : Int) % 256), .int .u8 ((k : Int) / 256)] 5)).cell? ((⟨V.heap.size, 0, none⟩ : Addr).add j) = some v := by
    intro j v hj
    match j, hj with
    | 0, hj => simp at hj; subst hj; simp [Addr.add]
    | 1, hj => simp at hj; subst hj; simp [Addr.add]
    | 2, hj => simp at hj; subst hj; simp [Addr.add]
  have hl := run_loadCells_list (P := Try.prog) (V.alloc (.cells #[.int .u8 uI, .int .u8 ((k : Int) % 256), .int .u8 ((k : Int) / 256)] 5)) ⟨V.heap.size, 0, none⟩ _ hc
  rw [run_bytesToString _ ⟨V.heap.size, 0, none⟩ 3 3 [uI, (k : Int) % 256, (k : Int) / 256] hl]
  subst hu
  congr 2
theorem two_hunks {W : World} {B : Nat} {v : Value} {h1 h2 : Hk Tx} {us : List (Value × Value)} (h : HkOwn B W v [h1, h2] us) : ∃ gl cl u01 p2 c2 u11 u12, v = .slice (some ⟨gl, 0, none⟩) 2 cl ∧ 2 ≤ cl ∧ B ≤ gl ∧ gl < W.heap.size ∧
    W.ownsRow B 41 3 v 2 [.int .i64 h1.pos, u01, .slice p2 h1.new.length c2, .int .i64 h2.pos, u11, u12] := by
  have hl := h.len
  obtain ⟨u0, u1, rfl⟩ : ∃ u0 u1, us = [u0, u1] := by
    match us, hl with
    | [u0, u1], _ => exact ⟨u0, u1, rfl⟩
  obtain ⟨gl, cl, hv, hc, hB, hlt⟩ := own_ptr' h.row (by simp)
  obtain ⟨p2, c2, e, _⟩ := row_owned (h.subs 0 (by simp) (by simp)).2
  refine ⟨gl, cl, u0.1, p2, c2, u1.1, u1.2, hv, hc, hB, hlt, ?_⟩
  have hr := h.row
  have e' : u0.2 = .slice p2 h1.new.length c2 := e
  simp only [hkCells] at hr
  rw [e'] at hr
  exact hr
theorem str_pre {w : World} {p : Option Addr} {xs ys : List Tx} (h : StrRow w p (xs ++ ys)) : StrRow w p xs := fun i hi => by
  obtain ⟨b, off, e, hlt, hc⟩ := h i (by rw [List.length_append]; omega)
  rw [List.getElem_append_left hi] at hc
  exact ⟨b, off, e, hlt, hc⟩
theorem row_same {w W : World} {B z g n c : Nat} {e : TypeId} {cs : List Value} (h : w.ownsRow B e z (.slice (some ⟨g, 0, none⟩) n c) n cs) (he : W.heap[g]? = w.heap[g]?) : W.ownsRow B e z (.slice (some ⟨g, 0, none⟩) n c) n cs := by
  refine ⟨h.1, ?_⟩
  rcases h.2 with h' | ⟨g', cap, cur, hv, hB, hg, rest⟩
  · exact .inl h'
  · injection hv with e1 e2 e3
    injection e1 with e1
    injection e1 with e1
    subst e1 e3
    exact .inr ⟨g, c, cur, rfl, hB, by rw [he]; exact hg, rest⟩
theorem own_ne {g h n c : Nat} (hne : g ≠ h) : (Value.slice (some ⟨g, 0, none⟩) n c).ownBlock = none ∨ (Value.slice (some ⟨g, 0, none⟩) n c).ownBlock ≠ some h := .inr fun e => hne (by simpa [Value.ownBlock] using e)
set_option maxRecDepth 100000 in
set_option maxHeartbeats 8000000 in
theorem diffNames_any (w : World) : Calls Try.prog 4 #[] w fun e w' => e = .returned (.bool true) ∧ Below w.heap.size w w' := by
  obtain ⟨i0, hi, hz0, hz1, hz2⟩ := info_parts strInfo
  have cW := works_any w
  go_enter Try.func4, Try.ntmps4
  go_wp2_with fail
  refine cW.mono ?_
  rintro e w1 ⟨rfl, hb1⟩
  have hs1 := hb1.size
  have HB1 := Lib.hid hb1
  clear cW hb1
  go_wp2_with fail
  go_loopg [1, 2, 3] 1024 (fun g va vb vi wr => ∃ k : Nat, k + g = 1024 ∧ vi = .int .i64 k ∧ Below w.heap.size w wr ∧ Hid (wr.ownsRow w.heap.size 9 1 va k ((nms 1 k).map Value.string)) ∧ Hid (wr.ownsRow w.heap.size 9 1 vb k ((nms 2 k).map Value.string)) ∧ Hid (Apart va vb))
  case atStart => exact ⟨0, by omega, rfl, HB1.out, World.ownsRow_nil _ _ _ _, World.ownsRow_nil _ _ _ _, fun g hg => by cases hg⟩
  case round =>
    obtain ⟨k, hk, rfl, hbr, HA, HB, HX⟩ := hrel
    have hsr := hbr.size
    by_cases hlt : k < 1024
    · have hkI : (k : Int) < 1024 := by omega
      have hk0 : (0 : Int) ≤ (k : Int) := by omega
      have ha := HA.out
      have hbo := HB.out
      have HBR := Lib.hid hbr
      have cv1 := fun V => conv3 V 1 1 k rfl
      have cv2 := fun V => conv3 V 2 2 k rfl
      have hx := HX.out
      clear hbr HA HB HX
      go_wp2_with (at_builtin; refine wpList_append_blk _ rfl _ _ 34 rfl w.heap.size 9 i0 (.string ⟨#[]⟩) 1 16 Try.underlying34 hi hz0 hz1 hz2 rfl (by decide) _ _ _ rfl ((ha.alloc _).alloc _) ⟨wr.heap.size + 1, 0, none⟩ 1 1 [.string (nm 1 k)] rfl rfl (cell_one_g _ _ _ _ (by simp)) (by simp [Value.oneCell']) (by unfold maxLen; omega) (by omega) (by simp; omega) ?_)
      intro va' w4 ha4 hgr4 hbk4
      have hb4 := ((hbo.alloc (.cells #[.int .u8 1, .int .u8 ((k : Int) % 256), .int .u8 ((k : Int) / 256)] 5)).alloc (.cells #[.string (nm 1 k)] 9)).kept hgr4 (apart_ne hx)
      have hx4 : Apart va' _ := apart_grown hx hbk4 (fun g hg => by have := (hbo.lt g hg).2; simp; omega)
      have hbe4 : Below w.heap.size w w4 := ((HBR.out.alloc hsr (.cells #[.int .u8 1, .int .u8 ((k : Int) % 256), .int .u8 ((k : Int) / 256)] 5)).alloc (by simp; omega) (.cells #[.string (nm 1 k)] 9)).grown hgr4 (by simp; omega) (fun g hg => (ha.lt g hg).1)
      have hs4 := hbe4.size
      have HBR4 := Lib.hid hbe4
      clear hbo hx hbe4 hgr4 hbk4 ha HBR cv1
      go_wp2_with (at_builtin; refine wpList_append_blk _ rfl _ _ 34 rfl w.heap.size 9 i0 (.string ⟨#[]⟩) 1 16 Try.underlying34 hi hz0 hz1 hz2 rfl (by decide) _ _ _ rfl ((hb4.alloc _).alloc _) ⟨w4.heap.size + 1, 0, none⟩ 1 1 [.string (nm 2 k)] rfl rfl (cell_one_g _ _ _ _ (by simp)) (by simp [Value.oneCell']) (by unfold maxLen; omega) (by omega) (by simp; omega) ?_)
      intro vb' w5 hb5 hgr5 hbk5
      have ha5 := ((ha4.alloc (.cells #[.int .u8 2, .int .u8 ((k : Int) % 256), .int .u8 ((k : Int) / 256)] 5)).alloc (.cells #[.string (nm 2 k)] 9)).kept hgr5 (apart_ne hx4.symm)
      have hx5 := apart_grown hx4.symm hbk5 (fun g hg => by have := (ha4.lt g hg).2; simp; omega)
      have hbe5 : Below w.heap.size w w5 := ((HBR4.out.alloc hs4 (.cells #[.int .u8 2, .int .u8 ((k : Int) % 256), .int .u8 ((k : Int) / 256)] 5)).alloc (by simp; omega) (.cells #[.string (nm 2 k)] 9)).grown hgr5 (by simp; omega) (fun g hg => (hb4.lt g hg).1)
      have HA5 : Hid (w5.ownsRow w.heap.size 9 1 va' (k + 1) ((nms 1 (k + 1)).map Value.string)) := by
        show World.ownsRow _ _ _ _ _ _ _
        rw [nms_succ, List.map_append]; exact ha5
      have HB5 : Hid (w5.ownsRow w.heap.size 9 1 vb' (k + 1) ((nms 2 (k + 1)).map Value.string)) := by
        show World.ownsRow _ _ _ _ _ _ _
        rw [nms_succ, List.map_append]; exact hb5
      have HX5 := Lib.hid hx5.symm
      have HBR5 := Lib.hid hbe5
      clear hb4 hb5 ha4 ha5 hgr5 hbk5 hx4 hx5 hbe5 HBR4 cv2
      go_wp2_with fail
      go_roundg (gk - 1)
      case rel => exact ⟨k + 1, by omega, by go_num, HBR5.out, HA5, HB5, HX5.out⟩
      case measure => omega
    · obtain rfl : k = 1024 := by omega
      have ha := HA.out
      have hbo := HB.out
      obtain ⟨ga, ca, hva, hca, hga, hga2⟩ := own_ptr' ha (by decide)
      obtain ⟨gb, cb, hvb, hcb, hgb, hgb2⟩ := own_ptr' hbo (by decide)
      subst hva hvb
      have hab : ga ≠ gb := fun e => HX.out ga rfl (by rw [e]; rfl)
      have FA : wr.frozen? ⟨ga, 500, none⟩ = false := ha.frozenAt 500
      have CA : wr.cell? ⟨ga, 500, none⟩ = some (.string (nm 1 500)) := by
        have h := ha.cellAt 500 (by omega)
        rw [List.getElem?_map, nms_at 1 1024 500 (by omega)] at h
        exact h
      have sa := ha.stored 500 (.string ⟨#[111, 110, 101]⟩)
      have hb1 := hbo.kept sa.2 (.inr (fun e : (Value.slice (some ⟨gb, 0, none⟩) 1024 cb).ownBlock = some ga => hab (by simpa [Value.ownBlock] using e.symm)))
      have hs1' := hbr.size
      have hz1' : (wr.setCell ⟨ga, 500, none⟩ (.string ⟨#[111, 110, 101]⟩)).heap.size = wr.heap.size := by simp
      have hbe1 : Below w.heap.size w (wr.setCell ⟨ga, 500, none⟩ (.string ⟨#[111, 110, 101]⟩)) := hbr.grown sa.2 hsr (fun g hg => by injection hg with hg; subst hg; exact hga)
      have ha1 : (wr.setCell ⟨ga, 500, none⟩ (.string ⟨#[111, 110, 101]⟩)).ownsRow w.heap.size 9 1 (.slice (some ⟨ga, 0, none⟩) 1024 ca) 1024 (nA.map Value.string) := by
        rw [← nA_map]; exact sa.1
      have FB : (wr.setCell ⟨ga, 500, none⟩ (.string ⟨#[111, 110, 101]⟩)).frozen? ⟨gb, 20, none⟩ = false := hb1.frozenAt 20
      have CB : (wr.setCell ⟨ga, 500, none⟩ (.string ⟨#[111, 110, 101]⟩)).cell? ⟨gb, 20, none⟩ = some (.string (nm 2 20)) := by
        have h := hb1.cellAt 20 (by omega)
        rw [List.getElem?_map, nms_at 2 1024 20 (by omega)] at h
        exact h
      have sb := hb1.stored 20 (.string ⟨#[111, 110, 101]⟩)
      have hb2 : ((wr.setCell ⟨ga, 500, none⟩ (.string ⟨#[111, 110, 101]⟩)).setCell ⟨gb, 20, none⟩ (.string ⟨#[111, 110, 101]⟩)).ownsRow w.heap.size 9 1 (.slice (some ⟨gb, 0, none⟩) 1024 cb) 1024 (nB.map Value.string) := by
        rw [← nB_map]; exact sb.1
      have ha2 := ha1.kept sb.2 (.inr (fun e : (Value.slice (some ⟨ga, 0, none⟩) 1024 ca).ownBlock = some gb => hab (by simpa [Value.ownBlock] using e)))
      have hbe2 := hbe1.grown sb.2 (by rw [hz1']; exact hsr) (fun g hg => by injection hg with hg; subst hg; exact hgb)
      have HA2 := Lib.hid ha2
      have HB2 := Lib.hid hb2
      have HBE2 := Lib.hid hbe2
      clear ha hbo HA HB hb1 sa sb ha1 hb2 ha2 hbe1 hbe2 hbr
      have cL := lines_any ((wr.setCell ⟨ga, 500, none⟩ (.string ⟨#[111, 110, 101]⟩)).setCell ⟨gb, 20, none⟩ (.string ⟨#[111, 110, 101]⟩)) (some ⟨ga, 0, none⟩) (some ⟨gb, 0, none⟩) 1024 1024 ca cb nA nB nA_len nB_len (by omega) (by omega) (row_at nA_len HA2.out) (row_at nB_len HB2.out) (fun e => by cases e) (fun e => by cases e) hca hcb n_sizes.1
      rw [nAB_patch] at cL
      go_wp2_with fail
      refine cL.mono ?_
      rintro e w3 ⟨hbe3, lp, lc, us, rfl, -, hown⟩
      clear cL
      have hgbW : gb < ((wr.setCell ⟨ga, 500, none⟩ (.string ⟨#[111, 110, 101]⟩)).setCell ⟨gb, 20, none⟩ (.string ⟨#[111, 110, 101]⟩)).heap.size := by simpa using hgb2
      generalize (wr.setCell ⟨ga, 500, none⟩ (.string ⟨#[111, 110, 101]⟩)).setCell ⟨gb, 20, none⟩ (.string ⟨#[111, 110, 101]⟩) = W2 at *
      have hs3 := hbe3.size
      have ha3 := row_later HA2.out hbe3
      have hb3 := row_later HB2.out hbe3
      have hw3 := HBE2.out.trans (hbe3.mono HBE2.out.size)
      have hsw3 := hw3.size
      obtain ⟨gl, cl, u01, p2, c2, u11, u12, hv, hlc, hgl, hgl2, hL3⟩ := two_hunks hown
      clear hown
      injection hv with e1 _ e3
      subst e1 e3
      dsimp only at hL3
      rw [seg_len nB 0 20 (by rw [nB_len]; decide)] at hL3
      have HW3 := Lib.hid hw3
      have HL3 := Lib.hid hL3
      have HA3 := Lib.hid ha3
      have HBE3 := Lib.hid hbe3
      clear FA CA FB CB HA2 HB2 HBE2 hw3 hL3 ha3 hbe3
      go_wp2_with (at_builtin; refine wpList_append_two _ rfl _ _ 34 rfl w.heap.size 9 i0 (.string ⟨#[]⟩) 1 16 Try.underlying34 hi hz0 hz1 hz2 rfl (by decide) gb cb 1024 (nB.map Value.string) rfl (hb3.alloc _) ⟨w3.heap.size, 0, none⟩ 1 1 [.string ⟨#[109, 111, 114, 101]⟩] rfl rfl (cell_one_g _ _ _ _ rfl) (by simp [Value.oneCell']) (by unfold maxLen; omega) (by omega) (by simp; omega) ?_)
      intro vb' w4 hc4 hgr4 hbk4
      have hc4' : w4.ownsRow w.heap.size 9 1 vb' 1025 (nC.map Value.string) := by rw [← nC_map]; exact hc4
      obtain ⟨gc, cc, rfl, hcc, hgc, hgc2⟩ := own_ptr' hc4' (by decide)
      have hold : StrRow w4 (some ⟨gb, 0, none⟩) nB := by
        rcases hbk4 with e | ⟨e, heq⟩
        · have e' : gc = gb := by simpa [Value.ownBlock] using e
          subst e'
          have h := row_at nC_len hc4'
          unfold nC at h
          exact str_pre h
        · exact row_at nB_len (row_same (hb3.alloc _) heq)
      have hbe4 : Below w.heap.size w w4 := (HW3.out.alloc hsw3 _).grown hgr4 (by simp; omega) (fun g hg => by injection hg with hg; subst hg; exact hgb)
      have ha4 := (HA3.out.alloc _).kept hgr4 (own_ne hab)
      have hL4 := (HL3.out.alloc _).kept hgr4 (own_ne (Nat.ne_of_gt (Nat.lt_of_lt_of_le hgbW hgl)))
      have cL := lines_any w4 (some ⟨ga, 0, none⟩) (some ⟨gc, 0, none⟩) 1024 1025 ca cc nA nC nA_len nC_len (by omega) (by omega) (row_at nA_len ha4) (row_at nC_len hc4') (fun e => by cases e) (fun e => by cases e) hca hcc n_sizes.2
      rw [nAC_patch] at cL
      have HO4 := Lib.hid hold
      have HB4 := Lib.hid hbe4
      have HA4 := Lib.hid ha4
      have HL4 := Lib.hid hL4
      clear hb3 hc4 hc4' hgr4 hbk4 HW3 HA3 HL3 HBE3 hold hbe4 ha4 hL4
      go_wp2_with fail
      refine cL.mono ?_
      rintro e w5 ⟨hbe5, mp, mc, us2, rfl, hm5, -⟩
      clear cL
      have cZ := size_sz w5 mp 1 mc [(1024, 1025)] rfl (by omega) (by
        have h := sz_of hm5
        simp only [List.map_cons, List.map_nil] at h
        rw [seg_len nA 0 1024 (Nat.le_of_eq nA_len.symm), seg_len nC 0 1025 (Nat.le_of_eq nC_len.symm)] at h
        exact h)
      have z1 : sumI ([((1024 : Nat), (1025 : Nat))].map (·.1)) = 1024 := sumI_small _ (by decide)
      have z2 : sumI ([((1024 : Nat), (1025 : Nat))].map (·.2)) = 1025 := sumI_small _ (by decide)
      rw [z1, z2] at cZ
      clear z1 z2 hm5
      have HBE5 := Lib.hid hbe5
      clear hbe5
      go_wp2_with fail
      refine cZ.mono ?_
      rintro e w6 ⟨rfl, hbe6⟩
      clear cZ
      have hb46 : Below w4.heap.size w4 w6 := HBE5.out.trans (hbe6.mono HBE5.out.size)
      have hrow6 := row_later HL4.out hb46
      have l0 : w6.cell? ⟨gl, 0, none⟩ = some (.int .i64 0) := hrow6.cellAt 0 (by decide)
      have l2 : w6.cell? ⟨gl, 2, none⟩ = some (.slice p2 20 c2) := hrow6.cellAt 2 (by decide)
      have l3 : w6.cell? ⟨gl, 3, none⟩ = some (.int .i64 501) := hrow6.cellAt 3 (by decide)
      have cC := common_any w6 (some ⟨ga, 0, none⟩) (some ⟨gb, 0, none⟩) 1024 1024 ca cb nA nB nA_len nB_len (by omega) (by omega) ((row_at nA_len HA4.out).later hb46) (HO4.out.later hb46) (fun e => by cases e) (fun e => by cases e) hca hcb n_sizes.1
      rw [nAB_comm] at cC
      have HB6 := Lib.hid (HB4.out.trans (hb46.mono HB4.out.size))
      clear hb46 hbe6 hrow6
      go_wp2_with fail
      refine cC.mono ?_
      rintro e w7 ⟨hbe7, cp, ccp, rfl, -, -⟩
      have hb7 := HB6.out.trans (hbe7.mono HB6.out.size)
      clear cC hbe7
      go_wp2_with fail
      go_ret
      exact ⟨rfl, hb7⟩
end Go.Proofs.Ytmkjeelmeicjjaa
