/- scrimlaw08.spoil: by its contract: hunks of the call's own are written over and grown, all else stays. -/
import Derived.Test.YtjmnbnlhahbcjaaHuSpO
import Derived.Test.YtjmnbnlhahbcjaaRegShut
import Derived.Test.YtjmnbnlhahbcjaaHuMark
import Derived.Deep.LoopGhost
namespace Go.Proofs.Ytjmnbnlhahbcjaa
open Go Go.RowKit

theorem Sp.field {S : Nat → Prop} {w0 W : World} {lo g0 c n : Nat} {rs : List RowT} {vs : Nat → Value} (h : Sp S w0 W lo g0 c n rs vs) (ht : Tied rs vs) (u : Nat) (hu : u < 2 * n) :
    ∃ (hu' : u + 1 < rs.length) (q : Option Addr) (m d : Nat) (cs : List Value), rs[u + 1].n = m ∧ rs[u + 1].v = .slice q m d ∧ vs u = .slice q m d ∧ W.ownsRow lo 9 1 (.slice q m d) m cs ∧ W.cell? ⟨g0, slot u, none⟩ = some (.slice q m d) := by
  have hu' : u + 1 < rs.length := by have := h.len; omega
  obtain ⟨cs, ho⟩ := h.ok.own (u + 1) hu'
  obtain ⟨e1, e2⟩ := h.sub u hu'
  rw [e1, e2] at ho
  obtain ⟨q, d, e⟩ := row_form ho
  have e3 := (ht u hu').symm.trans e
  exact ⟨hu', q, _, d, cs, rfl, e, e3, e ▸ ho, by rw [h.cel u hu, e3]⟩
theorem lit_kept {w w' : World} {row : Option Nat} {g : Nat} {x : Value} (h : ∀ j u, [x][j]? = some u → w.cell? ((⟨g, 0, none⟩ : Addr).add j) = some u) (hg : w.grownBy w' row) (hlt : g < w.heap.size) (hne : row ≠ some g) : ∀ j u, [x][j]? = some u → w'.cell? ((⟨g, 0, none⟩ : Addr).add j) = some u := fun j u hj => by
  have := h j u hj
  rw [show (⟨g, 0, none⟩ : Addr).add j = ⟨g, j, none⟩ from by simp [Addr.add]; omega] at this ⊢
  rw [cell_kept hg hlt hne]
  exact this
set_option maxRecDepth 100000 in
set_option maxHeartbeats 8000000 in
theorem spoil_any (w : World) (S : Nat → Prop) (lo : Nat) (p : Option Addr) (n c : Nat) (hs : List Hu) (us : List (Value × Value)) (ho : HuOwn lo w (.slice p n c) hs us) (hn : hs.length = n) (hnb : n ≤ 2513169434860) (hB : HuB hs) (hlo : lo ≤ w.heap.size)
    (hS : ∀ x ∈ (Value.slice p n c) :: flatV us, ∀ g, x.ownBlock = some g → S g) :
    Calls Try.prog 46 #[.slice p n c] w fun e w' => e = .returned (.int .i64 ((n + 20 : Nat) : Int)) ∧ KeptBut S w w' := by
  obtain ⟨i0, hi, hz0, hz1, hz2⟩ := info_parts strInfo
  obtain ⟨i1, hj, hy0, hy1, hy2⟩ := info_parts hkInfo
  have H0 : Hid (RowsOk S w w lo [⟨.slice p n c, 47, 3, n⟩]) := by
    refine ⟨fun i hi => ?_, fun i j hi hj hij => ?_, KeptBut.refl _ _, fun i hi k hk => .inl ?_, hlo⟩
    · obtain rfl : i = 0 := by simp at hi; omega
      exact ⟨_, hn ▸ ho.row⟩
    · simp at hi hj; omega
    · obtain rfl : i = 0 := by simp at hi; omega
      exact hS _ (.head _) k hk
  have H1 : Hid (0 < n → ∃ g0 rs vs, p = some ⟨g0, 0, none⟩ ∧ Sp S w w lo g0 c n rs vs ∧ Tied rs vs ∧ Small rs 0 0) := fun h0 => by
    obtain ⟨g, cap, e, _, _, _⟩ := own_ptr' (hn ▸ ho.row) h0
    injection e with e1 e2 e3
    subst e1
    obtain ⟨rs, vs, a1, a2, a3⟩ := Sp.of ho hn hB hlo hS
    exact ⟨g, rs, vs, rfl, a1, a2, fun u hu _ => by have := a3 u hu; omega⟩
  clear ho hn hB hS
  go_enter Try.func46, Try.ntmps46
  go_wp2_with fail
  go_loopg [3] n (fun g vi wr => ∃ i : Nat, i + g = n ∧ vi = .int .i64 i ∧ Hid (RowsOk S w wr lo [⟨.slice p n c, 47, 3, n⟩]) ∧ Hid (0 < n → ∃ g0 rs vs, p = some ⟨g0, 0, none⟩ ∧ Sp S w wr lo g0 c n rs vs ∧ Tied rs vs ∧ Small rs i 0))
  case atStart => exact ⟨0, by omega, rfl, H0.out, H1.out⟩
  case round =>
    clear H0 H1
    obtain ⟨i, hig, rfl, HT0, HS0⟩ := hrel
    have hi0 : (0 : Int) ≤ (i : Int) := by omega
    by_cases hin : i < n
    · obtain ⟨g0, rs, vs, rfl, hsp, htd, hsm⟩ := HS0.out (by omega)
      obtain ⟨hu1, q1, m1, d1, cs1, en1, ev1, es1, ow1, ce1⟩ := hsp.field htd (2 * i) (by omega)
      obtain ⟨hu2, q2, m2, d2, cs2, en2, ev2, es2, ow2, ce2⟩ := hsp.field htd (2 * i + 1) (by omega)
      have hinI : (i : Int) < (n : Int) := by omega
      have HSP := Lib.hid hsp
      have HTD := Lib.hid htd
      have HSM := Lib.hid hsm
      have E1 := Lib.hid (And.intro ev1 es1)
      have E2 := Lib.hid (And.intro ev2 es2)
      have HM := Lib.hid (show m1 ≤ 8796093021952 ∧ m2 ≤ 8796093021952 from ⟨by have := hsm (2 * i) hu1 (by omega); rw [en1] at this; split at this <;> omega, by have := hsm (2 * i + 1) hu2 (by omega); rw [en2] at this; split at this <;> omega⟩)
      obtain ⟨gO, hgO⟩ : ∃ x, x = gk := ⟨_, rfl⟩
      have hiO : i + gO = n := by omega
      clear HT0 HS0 hsp htd hsm en1 ev1 es1 ow1 ce1 en2 ev2 es2 ow2 ce2
      go_wp2_with fail
      go_loopg [4] m1 (fun g vk wi => ∃ k : Nat, k + g = m1 ∧ vk = .int .i64 k ∧ Hid (Sp S w wi lo g0 c n rs vs))
      case atStart => exact ⟨0, by omega, rfl, HSP.out⟩
      case round =>
        obtain ⟨k, hk, rfl, HSi⟩ := hrel
        have hk0 : (0 : Int) ≤ (k : Int) := by omega
        obtain ⟨hux, q, m, d, cs, -, ev, es, ow, ce⟩ := HSi.out.field HTD.out (2 * i) (by omega)
        rw [slot_even] at ce
        have e2 := es.symm.trans E1.out.2
        injection e2 with e21 e22 e23
        subst e21 e22 e23
        by_cases hkl : k < m
        · obtain ⟨ga, rfl, ea⟩ := own_cell ow (by omega)
          obtain ⟨⟨ua, da⟩, fa⟩ := ea k (by show k < m * 1; omega)
          have HN := Lib.hid (HSi.out.store (2 * i) hu1 (g := ga) (by rw [ev]; rfl) k (.string ⟨#[115, 112, 111, 105, 108, 116]⟩))
          have hkI : (k : Int) < (m : Int) := by omega
          have hmb := HM.out.1
          clear ow ea ev es HSi
          go_wp2_with fail
          go_roundg (gk - 1)
          case rel => exact ⟨k + 1, by omega, by go_num, HN.out⟩
          case measure => omega
        · obtain rfl : k = m := by omega
          have hkI : ¬ (k : Int) < (k : Int) := by omega
          clear ow ev es HSP
          go_wp2_with fail
          go_loopg [5] m2 (fun g vk wi => ∃ k : Nat, k + g = m2 ∧ vk = .int .i64 k ∧ Hid (Sp S w wi lo g0 c n rs vs))
          case atStart => exact ⟨0, by omega, rfl, HSi.out⟩
          case round =>
            clear HSi
            obtain ⟨k, hk, rfl, HSi⟩ := hrel
            have hk0 : (0 : Int) ≤ (k : Int) := by omega
            obtain ⟨huy, q', m', d', cs, -, ev, es, ow, ce'⟩ := HSi.out.field HTD.out (2 * i + 1) (by omega)
            rw [slot_odd] at ce'
            have e2 := es.symm.trans E2.out.2
            injection e2 with e21 e22 e23
            subst e21 e22 e23
            by_cases hkl : k < m'
            · obtain ⟨ga, rfl, ea⟩ := own_cell ow (by omega)
              obtain ⟨⟨ua, da⟩, fa⟩ := ea k (by show k < m' * 1; omega)
              have HN := Lib.hid (HSi.out.store (2 * i + 1) hu2 (g := ga) (by rw [ev]; rfl) k (.string ⟨#[115, 112, 111, 105, 108, 116]⟩))
              have hkI : (k : Int) < (m' : Int) := by omega
              have hmb := HM.out.2
              clear ow ea ev es HSi
              go_wp2_with fail
              go_roundg (gk - 1)
              case rel => exact ⟨k + 1, by omega, by go_num, HN.out⟩
              case measure => omega
            · obtain rfl : k = m' := by omega
              have hkI : ¬ (k : Int) < (k : Int) := by omega
              clear ow ev es
              go_wp2_with fail
              go_loopg [6] 20 (fun g vk wi => ∃ (k : Nat) (rs : List RowT) (vs : Nat → Value), k + g = 20 ∧ vk = .int .i64 k ∧ Hid (Sp S w wi lo g0 c n rs vs) ∧ Hid (Tied rs vs) ∧ Hid (Small rs i k))
              case atStart => exact ⟨0, rs, vs, by omega, rfl, HSi.out, HTD.out, HSM.out⟩
              case round =>
                clear HSi HTD HSM E1 E2 HM ce ce' hu1 hu2
                obtain ⟨k, rs, vs, hk, rfl, HSi, HTD, HSM⟩ := hrel
                have hk0 : (0 : Int) ≤ (k : Int) := by omega
                by_cases hkl : k < 20
                · have hkI : (k : Int) < 20 := by omega
                  obtain ⟨hu1, qa, na, ca, csa, ena, eva, esa, owa, cea⟩ := HSi.out.field HTD.out (2 * i) (by omega)
                  obtain ⟨hu2, qb, nb, cb, csb, enb, evb, esb, owb, ceb⟩ := HSi.out.field HTD.out (2 * i + 1) (by omega)
                  rw [slot_even] at cea
                  rw [slot_odd] at ceb
                  have hna : na ≤ 8796093021952 + k := by have := HSM.out (2 * i) hu1 (by omega); rw [ena] at this; split at this <;> omega
                  have hnb' : nb ≤ 8796093021952 + k := by have := HSM.out (2 * i + 1) hu2 (by omega); rw [enb] at this; split at this <;> omega
                  have hra : rs[2 * i + 1]? = some ⟨.slice qa na ca, 9, 1, na⟩ := by
                    rw [List.getElem?_eq_getElem hu1]
                    obtain ⟨e1, e2⟩ := HSi.out.sub (2 * i) hu1
                    generalize rs[2 * i + 1] = r at *
                    obtain ⟨v, e, z, m⟩ := r
                    dsimp only at *
                    subst ena eva e1 e2
                    rfl
                  have hrb : rs[2 * i + 1 + 1]? = some ⟨.slice qb nb cb, 9, 1, nb⟩ := by
                    rw [List.getElem?_eq_getElem hu2]
                    obtain ⟨e1, e2⟩ := HSi.out.sub (2 * i + 1) hu2
                    generalize rs[2 * i + 1 + 1] = r at *
                    obtain ⟨v, e, z, m⟩ := r
                    dsimp only at *
                    subst enb evb e1 e2
                    rfl
                  have ST0 : Hid (St S w wr.drew lo g0 c n rs vs i (.slice qa na ca) na (.slice qb nb cb) nb) := ⟨HSi.out.drew, hin, hra, hrb⟩
                  have EA := Lib.hid esa
                  have EB := Lib.hid esb
                  have CE := Lib.hid (And.intro cea ceb)
                  clear HSi hu1 hu2 ena eva esa owa cea enb evb esb owb ceb hra hrb
                  go_upto_region 15 with fail
                  refine region_tz (fun W : World => W.cell? ⟨g0, i * 3 + 1, none⟩ = some (.slice qa na ca) ∧ W.cell? ⟨g0, i * 3 + 2, none⟩ = some (.slice qb nb cb))
                    (.take 0 (.take 1 (.take 2 (.take 3 (.take 4 (.take 5 (.take 6 (.take 7 (.take 8 (.take 11 (.take 12 (.take 13 (.take 14 (.take 15 (.two 9 16 (.two 10 16 (.call 16 (.call 17 (.take 18 (.take 19 .done)))) (.call 10 (.call 17 (.take 18 (.take 19 .done))))) (.call 9 (.call 10 (.call 17 (.take 18 (.take 19 .done)))))))))))))))))))) 20 [(21, true), (22, true), (23, false)]
                    (by kernel_rfl) (by kernel_rfl) (by kernel_rfl) CE.out ?_
                  generalize wr.drew = W0 at *
                  (refine tz_take (v := ?_) rfl (by rfl) ?_ ?_; rotate_left; (focus (intro w hSw; go_simp; (try with_reducible rfl); done)); (try simp (maxSteps := 10000000) only [Act.put, List.setIfInBounds_toArray, List.set_cons_zero, List.set_cons_succ]))
                  (refine tz_take (v := ?_) rfl (by rfl) ?_ ?_; rotate_left; (focus (intro w hSw; go_simp; (try with_reducible rfl); done)); (try simp (maxSteps := 10000000) only [Act.put, List.setIfInBounds_toArray, List.set_cons_zero, List.set_cons_succ]))
                  (refine tz_take (v := ?_) rfl (by rfl) ?_ ?_; rotate_left; (focus (intro w hSw; go_simp; (try with_reducible rfl); done)); (try simp (maxSteps := 10000000) only [Act.put, List.setIfInBounds_toArray, List.set_cons_zero, List.set_cons_succ]))
                  (refine tz_take (v := ?_) rfl (by rfl) ?_ ?_; rotate_left; (focus (intro w hSw; go_simp; (try with_reducible rfl); done)); (try simp (maxSteps := 10000000) only [Act.put, List.setIfInBounds_toArray, List.set_cons_zero, List.set_cons_succ]))
                  (refine tz_take (v := ?_) rfl (by rfl) ?_ ?_; rotate_left; (focus (intro w hSw; go_simp; (try with_reducible rfl); done)); (try simp (maxSteps := 10000000) only [Act.put, List.setIfInBounds_toArray, List.set_cons_zero, List.set_cons_succ]))
                  (refine tz_take (v := ?_) rfl (by rfl) ?_ ?_; rotate_left; (focus (intro w hSw; go_simp; (try with_reducible rfl); done)); (try simp (maxSteps := 10000000) only [Act.put, List.setIfInBounds_toArray, List.set_cons_zero, List.set_cons_succ]))
                  (refine tz_take (v := ?_) rfl (by rfl) ?_ ?_; rotate_left; (focus (intro w hSw; go_simp; (try with_reducible rfl); done)); (try simp (maxSteps := 10000000) only [Act.put, List.setIfInBounds_toArray, List.set_cons_zero, List.set_cons_succ]))
                  (refine tz_take (v := ?_) rfl (by rfl) ?_ ?_; rotate_left; (focus (intro w hSw; go_simp; (try with_reducible rfl); done)); (try simp (maxSteps := 10000000) only [Act.put, List.setIfInBounds_toArray, List.set_cons_zero, List.set_cons_succ]))
                  (refine tz_load (v := ?_) rfl (by kernel_rfl) (by rfl) ?_ ?_; rotate_left; (focus (intro w hSw; (try dsimp only at hSw); go_simp; (try with_reducible rfl); done)); (try simp (maxSteps := 10000000) only [Act.put, List.setIfInBounds_toArray, List.set_cons_zero, List.set_cons_succ]))
                  (refine tz_take (v := ?_) rfl (by rfl) ?_ ?_; rotate_left; (focus (intro w hSw; go_simp; (try with_reducible rfl); done)); (try simp (maxSteps := 10000000) only [Act.put, List.setIfInBounds_toArray, List.set_cons_zero, List.set_cons_succ]))
                  (refine tz_take (v := ?_) rfl (by rfl) ?_ ?_; rotate_left; (focus (intro w hSw; go_simp; (try with_reducible rfl); done)); (try simp (maxSteps := 10000000) only [Act.put, List.setIfInBounds_toArray, List.set_cons_zero, List.set_cons_succ]))
                  (refine tz_take (v := ?_) rfl (by rfl) ?_ ?_; rotate_left; (focus (intro w hSw; go_simp; (try with_reducible rfl); done)); (try simp (maxSteps := 10000000) only [Act.put, List.setIfInBounds_toArray, List.set_cons_zero, List.set_cons_succ]))
                  (refine tz_take (v := ?_) rfl (by rfl) ?_ ?_; rotate_left; (focus (intro w hSw; go_simp; (try with_reducible rfl); done)); (try simp (maxSteps := 10000000) only [Act.put, List.setIfInBounds_toArray, List.set_cons_zero, List.set_cons_succ]))
                  (refine tz_load (v := ?_) rfl (by kernel_rfl) (by rfl) ?_ ?_; rotate_left; (focus (intro w hSw; (try dsimp only at hSw); go_simp; (try with_reducible rfl); done)); (try simp (maxSteps := 10000000) only [Act.put, List.setIfInBounds_toArray, List.set_cons_zero, List.set_cons_succ]))
                  refine tz_two ?_ ?_
                  · refine call_at rfl (by rfl) (fun K hK => ?_)
                    unfold Oper.wp
                    simp only [execOp, Act.eval]
                    go_simp
                    have ST1 := Lib.hid (ST0.out.alloc (.cells #[.string ⟨#[98, 101, 104, 105, 110, 100]⟩] 9))
                    have SZ1 : Hid ((W0.alloc (.cells #[.string ⟨#[98, 101, 104, 105, 110, 100]⟩] 9)).heap.size = W0.heap.size + 1) := by show _ = _; simp
                    obtain ⟨gA, hgA⟩ : ∃ g, g = W0.heap.size := ⟨_, rfl⟩
                    have LA : Hid (∀ j u, ([.string ⟨#[98, 101, 104, 105, 110, 100]⟩] : List Value)[j]? = some u → (W0.alloc (.cells #[.string ⟨#[98, 101, 104, 105, 110, 100]⟩] 9)).cell? ((⟨gA, 0, none⟩ : Addr).add j) = some u) := by rw [hgA]; exact cell_one_new _ _ _
                    have GA := Lib.hid hgA
                    rw [← hgA]
                    refine hK.out _ _ (ST1.out.cells EA.out EB.out) (fun _ => ?_)
                    clear hK
                    have hlA : gA < (W0.alloc (.cells #[.string ⟨#[98, 101, 104, 105, 110, 100]⟩] 9)).heap.size := by have := SZ1.out; omega
                    clear hgA
                    generalize W0.alloc (.cells #[.string ⟨#[98, 101, 104, 105, 110, 100]⟩] 9) = W1 at *
                    (try simp (maxSteps := 10000000) only [Act.put, List.setIfInBounds_toArray, List.set_cons_zero, List.set_cons_succ])
                    refine tz_two ?_ ?_
                    · refine call_at rfl (by rfl) (fun K hK => ?_)
                      obtain ⟨csva, owva⟩ := ST1.out.owna
                      refine wp_appblk _ _ 33 rfl lo 9 i0 (.string ⟨#[]⟩) 1 16 Try.underlying33 hi hz0 hz1 hz2 rfl (by decide) (.slice qa na ca) na csva rfl owva ⟨gA, 0, none⟩ 1 1 [.string ⟨#[98, 101, 104, 105, 110, 100]⟩] rfl rfl LA.out (by simp [Value.oneCell']) (by unfold maxLen; omega) (by omega) ST1.out.base ?_
                      intro va W2 oava hgva hbkva
                      have ST2 := Lib.hid (ST1.out.growa hgva oava hbkva)
                      refine hK.out _ _ (ST2.out.cells EA.out EB.out) (fun _ => ?_)
                      clear hK owva oava hgva hbkva
                      (try simp (maxSteps := 10000000) only [Act.put, List.setIfInBounds_toArray, List.set_cons_zero, List.set_cons_succ])
                      refine tz_call ?_
                      refine call_at rfl (by rfl) (fun K hK => ?_)
                      unfold Oper.wp
                      simp only [execOp, Act.eval]
                      go_simp
                      have ST3 := Lib.hid (ST2.out.alloc (.cells #[.string ⟨#[98, 101, 104, 105, 110, 100]⟩] 9))
                      have SZ3 : Hid ((W2.alloc (.cells #[.string ⟨#[98, 101, 104, 105, 110, 100]⟩] 9)).heap.size = W2.heap.size + 1) := by show _ = _; simp
                      obtain ⟨gB, hgB⟩ : ∃ g, g = W2.heap.size := ⟨_, rfl⟩
                      have LB : Hid (∀ j u, ([.string ⟨#[98, 101, 104, 105, 110, 100]⟩] : List Value)[j]? = some u → (W2.alloc (.cells #[.string ⟨#[98, 101, 104, 105, 110, 100]⟩] 9)).cell? ((⟨gB, 0, none⟩ : Addr).add j) = some u) := by rw [hgB]; exact cell_one_new _ _ _
                      have GB := Lib.hid hgB
                      rw [← hgB]
                      refine hK.out _ _ (ST3.out.cells EA.out EB.out) (fun _ => ?_)
                      clear hK
                      have hlB : gB < (W2.alloc (.cells #[.string ⟨#[98, 101, 104, 105, 110, 100]⟩] 9)).heap.size := by have := SZ3.out; omega
                      clear hgB
                      generalize W2.alloc (.cells #[.string ⟨#[98, 101, 104, 105, 110, 100]⟩] 9) = W3 at *
                      (try simp (maxSteps := 10000000) only [Act.put, List.setIfInBounds_toArray, List.set_cons_zero, List.set_cons_succ])
                      refine tz_call ?_
                      refine call_at rfl (by rfl) (fun K hK => ?_)
                      obtain ⟨csvb, owvb⟩ := ST3.out.ownb
                      refine wp_appblk _ _ 33 rfl lo 9 i0 (.string ⟨#[]⟩) 1 16 Try.underlying33 hi hz0 hz1 hz2 rfl (by decide) (.slice qb nb cb) nb csvb rfl owvb ⟨gB, 0, none⟩ 1 1 [.string ⟨#[98, 101, 104, 105, 110, 100]⟩] rfl rfl LB.out (by simp [Value.oneCell']) (by unfold maxLen; omega) (by omega) ST3.out.base ?_
                      intro vb W4 oavb hgvb hbkvb
                      have ST4 := Lib.hid (ST3.out.growb hgvb oavb hbkvb)
                      refine hK.out _ _ (ST4.out.cells EA.out EB.out) (fun _ => ?_)
                      clear hK owvb oavb hgvb hbkvb
                      (try simp (maxSteps := 10000000) only [Act.put, List.setIfInBounds_toArray, List.set_cons_zero, List.set_cons_succ])
                      obtain ⟨csA, oA⟩ := ST4.out.owna
                      obtain ⟨qA, dA, rfl⟩ := row_form oA
                      obtain ⟨csB, oB⟩ := ST4.out.ownb
                      obtain ⟨qB, dB, rfl⟩ := row_form oB
                      clear oA oB
                      (refine tz_take (v := ?_) rfl (by rfl) ?_ ?_; rotate_left; (focus (intro w hSw; go_simp; (try with_reducible rfl); done)); (try simp (maxSteps := 10000000) only [Act.put, List.setIfInBounds_toArray, List.set_cons_zero, List.set_cons_succ]))
                      (refine tz_take (v := ?_) rfl (by rfl) ?_ ?_; rotate_left; (focus (intro w hSw; go_simp; (try with_reducible rfl); done)); (try simp (maxSteps := 10000000) only [Act.put, List.setIfInBounds_toArray, List.set_cons_zero, List.set_cons_succ]))
                      refine tz_last ?_
                      refine call_at rfl (by rfl) (fun K hK => ?_)
                      have HP1 := Lib.hid (ST4.out.sp.put (2 * i) (by omega) (.slice qA (na + 1) dA))
                      obtain ⟨⟨y1, dy1⟩, fy1, -⟩ := ST4.out.sp.top_cell (i * 3 + 1) (by omega) (.slice qA (na + 1) dA)
                      unfold Oper.wp
                      simp only [execOp, Act.eval]
                      go_simp
                      rw [slot_even] at HP1
                      refine hK.out _ _ trivial (fun _ => ?_)
                      clear hK dy1 fy1
                      generalize W4.setCell ⟨g0, i * 3 + 1, none⟩ (.slice qA (na + 1) dA) = W5 at *
                      (try simp (maxSteps := 10000000) only [Act.put, List.setIfInBounds_toArray, List.set_cons_zero, List.set_cons_succ])
                      (refine ord_take (v := ?_) rfl (by rfl) ?_ ?_; rotate_left; (focus (intro w hSw; go_simp; (try with_reducible rfl); done)); (try simp (maxSteps := 10000000) only [Act.put, List.setIfInBounds_toArray, List.set_cons_zero, List.set_cons_succ]))
                      (refine ord_take (v := ?_) rfl (by rfl) ?_ ?_; rotate_left; (focus (intro w hSw; go_simp; (try with_reducible rfl); done)); (try simp (maxSteps := 10000000) only [Act.put, List.setIfInBounds_toArray, List.set_cons_zero, List.set_cons_succ]))
                      refine ord_call rfl (by rfl) (fun K hK => ?_)
                      have HP2 := Lib.hid (HP1.out.put (2 * i + 1) (by omega) (.slice qB (nb + 1) dB))
                      obtain ⟨⟨y2, dy2⟩, fy2, -⟩ := HP1.out.top_cell (i * 3 + 2) (by omega) (.slice qB (nb + 1) dB)
                      unfold Oper.wp
                      simp only [execOp, Act.eval]
                      go_simp
                      rw [slot_odd] at HP2
                      refine hK.out _ _ trivial (fun _ => ?_)
                      clear hK dy2 fy2
                      generalize W5.setCell ⟨g0, i * 3 + 2, none⟩ (.slice qB (nb + 1) dB) = W6 at *
                      (try simp (maxSteps := 10000000) only [Act.put, List.setIfInBounds_toArray, List.set_cons_zero, List.set_cons_succ])
                      refine ord_end ?_
                      have HTD2 := Lib.hid ((HTD.out.set (2 * i) ⟨(.slice qA (na + 1) dA), 9, 1, na + 1⟩).set (2 * i + 1) ⟨(.slice qB (nb + 1) dB), 9, 1, nb + 1⟩)
                      have HSM2 := Lib.hid (HSM.out.set ⟨(.slice qA (na + 1) dA), 9, 1, na + 1⟩ ⟨(.slice qB (nb + 1) dB), 9, 1, nb + 1⟩ (by show na + 1 ≤ _; omega) (by show nb + 1 ≤ _; omega))
                      go_wp2_with fail
                      go_roundg (gk - 1)
                      case rel => exact ⟨k + 1, _, _, by omega, by go_num, HP2.out, HTD2.out, HSM2.out⟩
                      case measure => omega
                    · have LTB0 : Hid (∀ g, (Value.slice qa na ca).ownBlock = some g → g < W1.heap.size) := fun g e => by obtain ⟨cs, o⟩ := ST1.out.owna; exact (o.lt g e).2
                      refine call_at rfl (by rfl) (fun K hK => ?_)
                      unfold Oper.wp
                      simp only [execOp, Act.eval]
                      go_simp
                      have ST2 := Lib.hid (ST1.out.alloc (.cells #[.string ⟨#[98, 101, 104, 105, 110, 100]⟩] 9))
                      have SZ2 : Hid ((W1.alloc (.cells #[.string ⟨#[98, 101, 104, 105, 110, 100]⟩] 9)).heap.size = W1.heap.size + 1) := by show _ = _; simp
                      obtain ⟨gB, hgB⟩ : ∃ g, g = W1.heap.size := ⟨_, rfl⟩
                      have LB : Hid (∀ j u, ([.string ⟨#[98, 101, 104, 105, 110, 100]⟩] : List Value)[j]? = some u → (W1.alloc (.cells #[.string ⟨#[98, 101, 104, 105, 110, 100]⟩] 9)).cell? ((⟨gB, 0, none⟩ : Addr).add j) = some u) := by rw [hgB]; exact cell_one_new _ _ _
                      have LA : Hid (∀ j u, ([.string ⟨#[98, 101, 104, 105, 110, 100]⟩] : List Value)[j]? = some u → (W1.alloc (.cells #[.string ⟨#[98, 101, 104, 105, 110, 100]⟩] 9)).cell? ((⟨gA, 0, none⟩ : Addr).add j) = some u) := lit_kept LA.out (World.grownBy_alloc _ _ none) (by omega) (fun e => by cases e)
                      have GB := Lib.hid hgB
                      rw [← hgB]
                      refine hK.out _ _ (ST2.out.cells EA.out EB.out) (fun _ => ?_)
                      clear hK
                      have hlB : gB < (W1.alloc (.cells #[.string ⟨#[98, 101, 104, 105, 110, 100]⟩] 9)).heap.size := by have := SZ2.out; omega
                      have hlA : gA < (W1.alloc (.cells #[.string ⟨#[98, 101, 104, 105, 110, 100]⟩] 9)).heap.size := by have := SZ2.out; omega
                      clear hgB
                      generalize W1.alloc (.cells #[.string ⟨#[98, 101, 104, 105, 110, 100]⟩] 9) = W2 at *
                      (try simp (maxSteps := 10000000) only [Act.put, List.setIfInBounds_toArray, List.set_cons_zero, List.set_cons_succ])
                      have LTB : Hid (∀ g, (Value.slice qa na ca).ownBlock = some g → g < gB) := by rw [GB.out]; exact LTB0.out
                      refine tz_call ?_
                      refine call_at rfl (by rfl) (fun K hK => ?_)
                      obtain ⟨csva, owva⟩ := ST2.out.owna
                      refine wp_appblk _ _ 33 rfl lo 9 i0 (.string ⟨#[]⟩) 1 16 Try.underlying33 hi hz0 hz1 hz2 rfl (by decide) (.slice qa na ca) na csva rfl owva ⟨gA, 0, none⟩ 1 1 [.string ⟨#[98, 101, 104, 105, 110, 100]⟩] rfl rfl LA.out (by simp [Value.oneCell']) (by unfold maxLen; omega) (by omega) ST2.out.base ?_
                      intro va W3 oava hgva hbkva
                      have ST3 := Lib.hid (ST2.out.growa hgva oava hbkva)
                      have LB := Lib.hid (lit_kept LB.out hgva hlB (fun e => by have := (owva.lt _ e).2; have := LTB.out _ e; omega))
                      have hlB : gB < W3.heap.size := Nat.lt_of_lt_of_le hlB hgva.size
                      refine hK.out _ _ (ST3.out.cells EA.out EB.out) (fun _ => ?_)
                      clear hK owva oava hgva hbkva
                      (try simp (maxSteps := 10000000) only [Act.put, List.setIfInBounds_toArray, List.set_cons_zero, List.set_cons_succ])
                      refine tz_call ?_
                      refine call_at rfl (by rfl) (fun K hK => ?_)
                      obtain ⟨csvb, owvb⟩ := ST3.out.ownb
                      refine wp_appblk _ _ 33 rfl lo 9 i0 (.string ⟨#[]⟩) 1 16 Try.underlying33 hi hz0 hz1 hz2 rfl (by decide) (.slice qb nb cb) nb csvb rfl owvb ⟨gB, 0, none⟩ 1 1 [.string ⟨#[98, 101, 104, 105, 110, 100]⟩] rfl rfl LB.out (by simp [Value.oneCell']) (by unfold maxLen; omega) (by omega) ST3.out.base ?_
                      intro vb W4 oavb hgvb hbkvb
                      have ST4 := Lib.hid (ST3.out.growb hgvb oavb hbkvb)
                      refine hK.out _ _ (ST4.out.cells EA.out EB.out) (fun _ => ?_)
                      clear hK owvb oavb hgvb hbkvb
                      (try simp (maxSteps := 10000000) only [Act.put, List.setIfInBounds_toArray, List.set_cons_zero, List.set_cons_succ])
                      obtain ⟨csA, oA⟩ := ST4.out.owna
                      obtain ⟨qA, dA, rfl⟩ := row_form oA
                      obtain ⟨csB, oB⟩ := ST4.out.ownb
                      obtain ⟨qB, dB, rfl⟩ := row_form oB
                      clear oA oB
                      (refine tz_take (v := ?_) rfl (by rfl) ?_ ?_; rotate_left; (focus (intro w hSw; go_simp; (try with_reducible rfl); done)); (try simp (maxSteps := 10000000) only [Act.put, List.setIfInBounds_toArray, List.set_cons_zero, List.set_cons_succ]))
                      (refine tz_take (v := ?_) rfl (by rfl) ?_ ?_; rotate_left; (focus (intro w hSw; go_simp; (try with_reducible rfl); done)); (try simp (maxSteps := 10000000) only [Act.put, List.setIfInBounds_toArray, List.set_cons_zero, List.set_cons_succ]))
                      refine tz_last ?_
                      refine call_at rfl (by rfl) (fun K hK => ?_)
                      have HP1 := Lib.hid (ST4.out.sp.put (2 * i) (by omega) (.slice qA (na + 1) dA))
                      obtain ⟨⟨y1, dy1⟩, fy1, -⟩ := ST4.out.sp.top_cell (i * 3 + 1) (by omega) (.slice qA (na + 1) dA)
                      unfold Oper.wp
                      simp only [execOp, Act.eval]
                      go_simp
                      rw [slot_even] at HP1
                      refine hK.out _ _ trivial (fun _ => ?_)
                      clear hK dy1 fy1
                      generalize W4.setCell ⟨g0, i * 3 + 1, none⟩ (.slice qA (na + 1) dA) = W5 at *
                      (try simp (maxSteps := 10000000) only [Act.put, List.setIfInBounds_toArray, List.set_cons_zero, List.set_cons_succ])
                      (refine ord_take (v := ?_) rfl (by rfl) ?_ ?_; rotate_left; (focus (intro w hSw; go_simp; (try with_reducible rfl); done)); (try simp (maxSteps := 10000000) only [Act.put, List.setIfInBounds_toArray, List.set_cons_zero, List.set_cons_succ]))
                      (refine ord_take (v := ?_) rfl (by rfl) ?_ ?_; rotate_left; (focus (intro w hSw; go_simp; (try with_reducible rfl); done)); (try simp (maxSteps := 10000000) only [Act.put, List.setIfInBounds_toArray, List.set_cons_zero, List.set_cons_succ]))
                      refine ord_call rfl (by rfl) (fun K hK => ?_)
                      have HP2 := Lib.hid (HP1.out.put (2 * i + 1) (by omega) (.slice qB (nb + 1) dB))
                      obtain ⟨⟨y2, dy2⟩, fy2, -⟩ := HP1.out.top_cell (i * 3 + 2) (by omega) (.slice qB (nb + 1) dB)
                      unfold Oper.wp
                      simp only [execOp, Act.eval]
                      go_simp
                      rw [slot_odd] at HP2
                      refine hK.out _ _ trivial (fun _ => ?_)
                      clear hK dy2 fy2
                      generalize W5.setCell ⟨g0, i * 3 + 2, none⟩ (.slice qB (nb + 1) dB) = W6 at *
                      (try simp (maxSteps := 10000000) only [Act.put, List.setIfInBounds_toArray, List.set_cons_zero, List.set_cons_succ])
                      refine ord_end ?_
                      have HTD2 := Lib.hid ((HTD.out.set (2 * i) ⟨(.slice qA (na + 1) dA), 9, 1, na + 1⟩).set (2 * i + 1) ⟨(.slice qB (nb + 1) dB), 9, 1, nb + 1⟩)
                      have HSM2 := Lib.hid (HSM.out.set ⟨(.slice qA (na + 1) dA), 9, 1, na + 1⟩ ⟨(.slice qB (nb + 1) dB), 9, 1, nb + 1⟩ (by show na + 1 ≤ _; omega) (by show nb + 1 ≤ _; omega))
                      go_wp2_with fail
                      go_roundg (gk - 1)
                      case rel => exact ⟨k + 1, _, _, by omega, by go_num, HP2.out, HTD2.out, HSM2.out⟩
                      case measure => omega
                  · have LTB0 : Hid (∀ g, (Value.slice qa na ca).ownBlock = some g → g < W0.heap.size) := fun g e => by obtain ⟨cs, o⟩ := ST0.out.owna; exact (o.lt g e).2
                    refine call_at rfl (by rfl) (fun K hK => ?_)
                    unfold Oper.wp
                    simp only [execOp, Act.eval]
                    go_simp
                    have ST1 := Lib.hid (ST0.out.alloc (.cells #[.string ⟨#[98, 101, 104, 105, 110, 100]⟩] 9))
                    have SZ1 : Hid ((W0.alloc (.cells #[.string ⟨#[98, 101, 104, 105, 110, 100]⟩] 9)).heap.size = W0.heap.size + 1) := by show _ = _; simp
                    obtain ⟨gB, hgB⟩ : ∃ g, g = W0.heap.size := ⟨_, rfl⟩
                    have LB : Hid (∀ j u, ([.string ⟨#[98, 101, 104, 105, 110, 100]⟩] : List Value)[j]? = some u → (W0.alloc (.cells #[.string ⟨#[98, 101, 104, 105, 110, 100]⟩] 9)).cell? ((⟨gB, 0, none⟩ : Addr).add j) = some u) := by rw [hgB]; exact cell_one_new _ _ _
                    have GB := Lib.hid hgB
                    rw [← hgB]
                    refine hK.out _ _ (ST1.out.cells EA.out EB.out) (fun _ => ?_)
                    clear hK
                    have hlB : gB < (W0.alloc (.cells #[.string ⟨#[98, 101, 104, 105, 110, 100]⟩] 9)).heap.size := by have := SZ1.out; omega
                    clear hgB
                    generalize W0.alloc (.cells #[.string ⟨#[98, 101, 104, 105, 110, 100]⟩] 9) = W1 at *
                    (try simp (maxSteps := 10000000) only [Act.put, List.setIfInBounds_toArray, List.set_cons_zero, List.set_cons_succ])
                    have LTB : Hid (∀ g, (Value.slice qa na ca).ownBlock = some g → g < gB) := by rw [GB.out]; exact LTB0.out
                    refine tz_call ?_
                    refine call_at rfl (by rfl) (fun K hK => ?_)
                    unfold Oper.wp
                    simp only [execOp, Act.eval]
                    go_simp
                    have ST2 := Lib.hid (ST1.out.alloc (.cells #[.string ⟨#[98, 101, 104, 105, 110, 100]⟩] 9))
                    have SZ2 : Hid ((W1.alloc (.cells #[.string ⟨#[98, 101, 104, 105, 110, 100]⟩] 9)).heap.size = W1.heap.size + 1) := by show _ = _; simp
                    obtain ⟨gA, hgA⟩ : ∃ g, g = W1.heap.size := ⟨_, rfl⟩
                    have LA : Hid (∀ j u, ([.string ⟨#[98, 101, 104, 105, 110, 100]⟩] : List Value)[j]? = some u → (W1.alloc (.cells #[.string ⟨#[98, 101, 104, 105, 110, 100]⟩] 9)).cell? ((⟨gA, 0, none⟩ : Addr).add j) = some u) := by rw [hgA]; exact cell_one_new _ _ _
                    have LB : Hid (∀ j u, ([.string ⟨#[98, 101, 104, 105, 110, 100]⟩] : List Value)[j]? = some u → (W1.alloc (.cells #[.string ⟨#[98, 101, 104, 105, 110, 100]⟩] 9)).cell? ((⟨gB, 0, none⟩ : Addr).add j) = some u) := lit_kept LB.out (World.grownBy_alloc _ _ none) (by omega) (fun e => by cases e)
                    have GA := Lib.hid hgA
                    rw [← hgA]
                    refine hK.out _ _ (ST2.out.cells EA.out EB.out) (fun _ => ?_)
                    clear hK
                    have hlA : gA < (W1.alloc (.cells #[.string ⟨#[98, 101, 104, 105, 110, 100]⟩] 9)).heap.size := by have := SZ2.out; omega
                    have hlB : gB < (W1.alloc (.cells #[.string ⟨#[98, 101, 104, 105, 110, 100]⟩] 9)).heap.size := by have := SZ2.out; omega
                    clear hgA
                    generalize W1.alloc (.cells #[.string ⟨#[98, 101, 104, 105, 110, 100]⟩] 9) = W2 at *
                    (try simp (maxSteps := 10000000) only [Act.put, List.setIfInBounds_toArray, List.set_cons_zero, List.set_cons_succ])
                    refine tz_call ?_
                    refine call_at rfl (by rfl) (fun K hK => ?_)
                    obtain ⟨csva, owva⟩ := ST2.out.owna
                    refine wp_appblk _ _ 33 rfl lo 9 i0 (.string ⟨#[]⟩) 1 16 Try.underlying33 hi hz0 hz1 hz2 rfl (by decide) (.slice qa na ca) na csva rfl owva ⟨gA, 0, none⟩ 1 1 [.string ⟨#[98, 101, 104, 105, 110, 100]⟩] rfl rfl LA.out (by simp [Value.oneCell']) (by unfold maxLen; omega) (by omega) ST2.out.base ?_
                    intro va W3 oava hgva hbkva
                    have ST3 := Lib.hid (ST2.out.growa hgva oava hbkva)
                    have LB := Lib.hid (lit_kept LB.out hgva hlB (fun e => by have := (owva.lt _ e).2; have := LTB.out _ e; omega))
                    have hlB : gB < W3.heap.size := Nat.lt_of_lt_of_le hlB hgva.size
                    refine hK.out _ _ (ST3.out.cells EA.out EB.out) (fun _ => ?_)
                    clear hK owva oava hgva hbkva
                    (try simp (maxSteps := 10000000) only [Act.put, List.setIfInBounds_toArray, List.set_cons_zero, List.set_cons_succ])
                    refine tz_call ?_
                    refine call_at rfl (by rfl) (fun K hK => ?_)
                    obtain ⟨csvb, owvb⟩ := ST3.out.ownb
                    refine wp_appblk _ _ 33 rfl lo 9 i0 (.string ⟨#[]⟩) 1 16 Try.underlying33 hi hz0 hz1 hz2 rfl (by decide) (.slice qb nb cb) nb csvb rfl owvb ⟨gB, 0, none⟩ 1 1 [.string ⟨#[98, 101, 104, 105, 110, 100]⟩] rfl rfl LB.out (by simp [Value.oneCell']) (by unfold maxLen; omega) (by omega) ST3.out.base ?_
                    intro vb W4 oavb hgvb hbkvb
                    have ST4 := Lib.hid (ST3.out.growb hgvb oavb hbkvb)
                    refine hK.out _ _ (ST4.out.cells EA.out EB.out) (fun _ => ?_)
                    clear hK owvb oavb hgvb hbkvb
                    (try simp (maxSteps := 10000000) only [Act.put, List.setIfInBounds_toArray, List.set_cons_zero, List.set_cons_succ])
                    obtain ⟨csA, oA⟩ := ST4.out.owna
                    obtain ⟨qA, dA, rfl⟩ := row_form oA
                    obtain ⟨csB, oB⟩ := ST4.out.ownb
                    obtain ⟨qB, dB, rfl⟩ := row_form oB
                    clear oA oB
                    (refine tz_take (v := ?_) rfl (by rfl) ?_ ?_; rotate_left; (focus (intro w hSw; go_simp; (try with_reducible rfl); done)); (try simp (maxSteps := 10000000) only [Act.put, List.setIfInBounds_toArray, List.set_cons_zero, List.set_cons_succ]))
                    (refine tz_take (v := ?_) rfl (by rfl) ?_ ?_; rotate_left; (focus (intro w hSw; go_simp; (try with_reducible rfl); done)); (try simp (maxSteps := 10000000) only [Act.put, List.setIfInBounds_toArray, List.set_cons_zero, List.set_cons_succ]))
                    refine tz_last ?_
                    refine call_at rfl (by rfl) (fun K hK => ?_)
                    have HP1 := Lib.hid (ST4.out.sp.put (2 * i) (by omega) (.slice qA (na + 1) dA))
                    obtain ⟨⟨y1, dy1⟩, fy1, -⟩ := ST4.out.sp.top_cell (i * 3 + 1) (by omega) (.slice qA (na + 1) dA)
                    unfold Oper.wp
                    simp only [execOp, Act.eval]
                    go_simp
                    rw [slot_even] at HP1
                    refine hK.out _ _ trivial (fun _ => ?_)
                    clear hK dy1 fy1
                    generalize W4.setCell ⟨g0, i * 3 + 1, none⟩ (.slice qA (na + 1) dA) = W5 at *
                    (try simp (maxSteps := 10000000) only [Act.put, List.setIfInBounds_toArray, List.set_cons_zero, List.set_cons_succ])
                    (refine ord_take (v := ?_) rfl (by rfl) ?_ ?_; rotate_left; (focus (intro w hSw; go_simp; (try with_reducible rfl); done)); (try simp (maxSteps := 10000000) only [Act.put, List.setIfInBounds_toArray, List.set_cons_zero, List.set_cons_succ]))
                    (refine ord_take (v := ?_) rfl (by rfl) ?_ ?_; rotate_left; (focus (intro w hSw; go_simp; (try with_reducible rfl); done)); (try simp (maxSteps := 10000000) only [Act.put, List.setIfInBounds_toArray, List.set_cons_zero, List.set_cons_succ]))
                    refine ord_call rfl (by rfl) (fun K hK => ?_)
                    have HP2 := Lib.hid (HP1.out.put (2 * i + 1) (by omega) (.slice qB (nb + 1) dB))
                    obtain ⟨⟨y2, dy2⟩, fy2, -⟩ := HP1.out.top_cell (i * 3 + 2) (by omega) (.slice qB (nb + 1) dB)
                    unfold Oper.wp
                    simp only [execOp, Act.eval]
                    go_simp
                    rw [slot_odd] at HP2
                    refine hK.out _ _ trivial (fun _ => ?_)
                    clear hK dy2 fy2
                    generalize W5.setCell ⟨g0, i * 3 + 2, none⟩ (.slice qB (nb + 1) dB) = W6 at *
                    (try simp (maxSteps := 10000000) only [Act.put, List.setIfInBounds_toArray, List.set_cons_zero, List.set_cons_succ])
                    refine ord_end ?_
                    have HTD2 := Lib.hid ((HTD.out.set (2 * i) ⟨(.slice qA (na + 1) dA), 9, 1, na + 1⟩).set (2 * i + 1) ⟨(.slice qB (nb + 1) dB), 9, 1, nb + 1⟩)
                    have HSM2 := Lib.hid (HSM.out.set ⟨(.slice qA (na + 1) dA), 9, 1, na + 1⟩ ⟨(.slice qB (nb + 1) dB), 9, 1, nb + 1⟩ (by show na + 1 ≤ _; omega) (by show nb + 1 ≤ _; omega))
                    go_wp2_with fail
                    go_roundg (gk - 1)
                    case rel => exact ⟨k + 1, _, _, by omega, by go_num, HP2.out, HTD2.out, HSM2.out⟩
                    case measure => omega
                · obtain rfl : k = 20 := by omega
                  have HN := Lib.hid (HSi.out.at i hin (.int .i64 (-1)))
                  obtain ⟨⟨ya, dya⟩, fya, -⟩ := HSi.out.top_cell (i * 3) (by omega) (.int .i64 (-1))
                  have HHD := Lib.hid HN.out.head
                  have HSM2 : Hid (Small rs (i + 1) 0) := fun u hu h2 => by
                    have := HSM.out u hu (by omega)
                    split at this <;> omega
                  clear HSi
                  go_wp2_with fail
                  go_roundg (gO - 1)
                  case rel => exact ⟨i + 1, by omega, by go_num, HHD.out, fun _ => ⟨g0, rs, vs, rfl, HN.out, HTD.out, HSM2.out⟩⟩
                  case measure => omega
    · obtain rfl : i = n := by omega
      have hinI : ¬ (i : Int) < (i : Int) := by omega
      clear HS0
      go_wp2_with fail
      go_loopg [0, 7] 20 (fun g vp vk wr => ∃ k : Nat, k + g = 20 ∧ vk = .int .i64 k ∧ Hid (RowsOk S w wr lo [⟨vp, 47, 3, i + k⟩]))
      case atStart => exact ⟨0, by omega, rfl, HT0.out⟩
      case round =>
        obtain ⟨k, hk, rfl, HR0⟩ := hrel
        by_cases hlt : k < 20
        · obtain ⟨cs0, oa⟩ := HR0.out.own 0 (by simp)
          have HOA : Hid (wr.ownsRow lo 47 3 u0 (i + k) cs0) := oa
          have hkI : (k : Int) < 20 := by omega
          have hk0 : (0 : Int) ≤ (k : Int) := by omega
          have hwz : lo ≤ wr.heap.size := Nat.le_trans HR0.out.hB HR0.out.kept.size
          clear oa HT0
          go_wp2_with (at_builtin; refine wpList_append_blk _ rfl _ _ 40 rfl lo 47 i1 (.agg #[.int .i64 0, .slice none 0 0, .slice none 0 0]) 3 56 Try.underlying40 hj hy0 hy1 hy2 rfl (by decide) u0 (i + k) cs0 rfl (HOA.out.alloc _) ⟨wr.heap.size, 0, none⟩ 1 1 [.int .i64 0, .slice none 0 0, .slice none 0 0] rfl rfl (hu_cells_new _ _ _ _ _) (by simp [Value.oneCell']) (by unfold maxLen; omega) (by omega) (by simp; omega) ?_; intro va' wa oa' hga hbka; have H1 : RowsOk S w wa lo [⟨va', 47, 3, i + k + 1⟩] := HR0.out.append 0 (by simp) hga oa' hbka; have H1' := Lib.hid H1; clear oa' hga hbka H1 HOA HR0)
          go_roundg (gk - 1)
          case rel => exact ⟨k + 1, by omega, by go_num, H1'.out⟩
          case measure => omega
        · obtain rfl : k = 20 := by omega
          obtain ⟨cs0, oa⟩ := HR0.out.own 0 (by simp)
          obtain ⟨pA, kA, rfl⟩ : ∃ pA kA, u0 = .slice pA (i + 20) kA := own_sl oa
          have HKP := Lib.hid HR0.out.kept
          clear oa HR0 HT0
          go_wp2_with fail
          go_ret
          exact ⟨rfl, HKP.out⟩
end Go.Proofs.Ytjmnbnlhahbcjaa
