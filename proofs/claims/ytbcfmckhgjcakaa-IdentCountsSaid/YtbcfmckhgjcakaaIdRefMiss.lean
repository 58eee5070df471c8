/- The document's counters: a label that does not stand yet, by contract. -/
import Derived.Test.YtbcfmckhgjcakaaIdRefAt
import Derived.Deep.DeepCutAuto
namespace Go.Proofs.Ytbcfmckhgjcakaa
open Go Go.RowKit Go.Maps

theorem ownBlock_slice (q : Option Addr) (n c : Nat) (g : Nat) (hq : ∀ a, q = some a → a.off = 0 ∧ a.spot = none) : (Value.slice q n c).ownBlock = some g → q = some ⟨g, 0, none⟩ := by
  intro h
  cases q with
  | none => simp [Value.ownBlock] at h
  | some a =>
    obtain ⟨b, o, s⟩ := a
    obtain ⟨h1, h2⟩ := hq _ rfl
    simp only at h1 h2
    subst h1 h2
    simp [Value.ownBlock] at h
    rw [h]

theorem KeptBut.setGrown (w : World) (g i : Nat) (u : Value) : w.grownBy (w.setCell ⟨g, i, none⟩ u) (some g) :=
  ⟨rfl, rfl, rfl, by simp, fun k _ hk => heap_setCell_other w ⟨g, i, none⟩ k u (fun e => hk (by simp [e]))⟩
set_option maxRecDepth 100000 in
set_option maxHeartbeats 4000000 in
theorem at_miss (w : World) (p B : Nat) (v1 v2 : Value) (ls : List (Nat × Int)) (a : Nat) (ha : a < 18446744073709551616) (hm : ∀ x ∈ ls, x.1 ≠ a) (h : RefAt w p B v1 v2 ls) (hB : B ≤ w.heap.size) (hlen : ls.length < 17592186044415) :
    Calls Try.prog 23 #[.pointer (some ⟨p, 0, none⟩), .int .u64 (a : Int)] w fun e w' => e = .returned (.int .i64 (ls.length : Nat)) ∧ ∃ v1' v2', RefAt w' p B v1' v2' (ls ++ [(a, 0)]) ∧ KeptBut (ownS p v1 v2) w w' ∧ (∀ k, ownS p v1' v2' k → ownS p v1 v2 k ∨ w.heap.size ≤ k) := by
  obtain ⟨k0, k1, f0, f1⟩ := cells2 h.blk
  obtain ⟨i0, hi, hz0, hz1, hz2⟩ := info_parts labInfo
  obtain ⟨j0, hj, hy0, hy1, hy2⟩ := info_parts intInfo
  have hpl := h.ltp
  obtain ⟨q1, c1, rfl⟩ := row_form h.o1
  obtain ⟨q2, c2, rfl⟩ := row_form h.o2
  obtain ⟨n, hn⟩ : ∃ n, ls.length = n := ⟨_, rfl⟩
  have o1 := h.o1
  have o2 := h.o2
  rw [hn] at h o1 o2
  have H : Aside _ := h
  have hls1 := labsV_snoc ls (a, 0)
  have hls2 := lastsV_snoc ls (a, 0)
  have hnl : (ls ++ [(a, (0 : Int))]).length = n + 1 := by rw [List.length_append, hn]; rfl
  rw [hn] at hlen k0 k1 ⊢
  have HO1 := Lib.hid o1
  have HO2 := Lib.hid o2
  have HLS1 := Lib.hid hls1
  have HLS2 := Lib.hid hls2
  have HN := Lib.hid hn
  have HNL := Lib.hid hnl
  have HM := Lib.hid hm
  clear h hn hnl o1 o2 hls1 hls2 hm
  go_enter Try.func23, Try.ntmps23
  go_wp2
  go_loopg [5] n (fun g vi wr => ∃ k : Nat, k + g = n ∧ vi = .int .i64 k ∧ w = wr)
  case atStart => exact ⟨0, by omega, rfl, rfl⟩
  case round =>
    obtain ⟨k, hk, rfl, rfl⟩ := hrel
    by_cases hkn : k < n
    · obtain ⟨g1, cap1, e1, hg1⟩ := row_some HO1.out (by omega)
      injection e1 with e1 _ e3
      subst e1
      subst e3
      have hkl : k < ls.length := by rw [HN.out]; exact hkn
      have hc := HO1.out.cellAt k (by omega)
      unfold labsV at hc
      rw [List.getElem?_map, List.getElem?_eq_getElem hkl] at hc
      have hne := HM.out ls[k] (List.getElem_mem hkl)
      generalize ls[k] = x at hc hne
      have hc' : w.cell? ⟨g1, k, none⟩ = some (.int .u64 (x.1 : Int)) := hc
      have hb : ((x.1 : Int) == (a : Int)) = false := beq_false_of_ne (by omega)
      have hk0 : (0 : Int) ≤ (k : Int) := by omega
      have hkI : (k : Int) < (n : Int) := by omega
      clear hc hne
      go_wp2
      go_roundg (gk - 1)
      case rel => exact ⟨k + 1, by omega, by go_num, rfl⟩
      case measure => omega
    · obtain rfl : k = n := by omega
      go_wp2_with (first
        | (at_builtin; refine wpList_append_own_at _ rfl _ _ 53 rfl B 25 i0 (.int .u64 0) 1 8 Try.underlying53 hi hz0 hz1 hz2 rfl (by decide) _ _ _ rfl (HO1.out.alloc _) ⟨w.heap.size, 0, none⟩ 1 1 [.int .u64 (a : Int)] rfl rfl ?c1 ?c2 ?c3 ?c4 ?c5 ?_))
      case c1 => exact one_cell _ _ _
      case c2 => intro u hu; simp at hu; subst hu; rfl
      case c3 => unfold maxLen; omega
      case c4 => omega
      case c5 => simp; omega
      intro u1 w3 own3 gr3 hnil3 hloc3
      obtain ⟨q3, c3, rfl⟩ := row_form own3
      have b3 : w3.heap[p]? = some (.cells #[.slice q1 k c1, .slice q2 k c2] 56 (0, 0)) := by
        rw [gr3.block p (by simp; omega) (fun e => H.out.d1 e.symm), heap_alloc_old w _ hpl]
        exact H.out.blk
      obtain ⟨k30, k31, f30, f31⟩ := cells2 b3
      have o23 : w3.ownsRow B 3 1 (.slice q2 k c2) k (lastsV ls) := (HO2.out.alloc _).kept gr3 (by
        cases hq : (Value.slice q2 k c2).ownBlock with
        | none => exact .inl rfl
        | some g => exact .inr fun e => H.out.d3 g e.symm hq)
      have kb3 : KeptBut (ownS p (.slice q1 k c1) (.slice q2 k c2)) w w3 := ((KeptBut.refl _ w).alloc _).grown gr3 fun g e => .inl (.inr (.inl e))
      have hs3 := kb3.size
      have hs3' : w.heap.size + 1 ≤ w3.heap.size := by have := gr3.size; simpa using this
      have hd13 : (Value.slice q3 (k + 1) c3).ownBlock ≠ some p := fun e => by
        rcases hloc3 with h' | h'
        · exact H.out.d1 (h'.symm.trans e)
        · rw [e] at h'
          have := Option.some.inj h'
          (try simp at this); omega
      have hd33 : ∀ g, (Value.slice q3 (k + 1) c3).ownBlock = some g → (Value.slice q2 k c2).ownBlock ≠ some g := fun g e e2 => by
        rcases hloc3 with h' | h'
        · exact H.out.d3 g (h'.symm.trans e) e2
        · rw [e] at h'
          have e3 := Option.some.inj h'
          have := (HO2.out.lt g e2).2
          (try simp at e3); omega
      have hin3 : ∀ g, (Value.slice q3 (k + 1) c3).ownBlock = some g → ownS p (.slice q1 k c1) (.slice q2 k c2) g ∨ w.heap.size ≤ g := fun g e => by
        rcases hloc3 with h' | h'
        · exact .inl (.inr (.inl (h'.symm.trans e)))
        · rw [e] at h'
          have e3 := Option.some.inj h'
          (try simp at e3); exact .inr (by omega)
      have OWN3 := Lib.hid own3
      have O23 := Lib.hid o23
      have KB3 := Lib.hid kb3
      have B3 := Lib.hid b3
      have D13 := Lib.hid hd13
      have D33 := Lib.hid hd33
      have IN3 := Lib.hid hin3
      clear own3 o23 kb3 b3 hd13 hd33 hin3 hloc3 hnil3 gr3 k0 k1 f0 f1
      have b4 : (w3.setCell ⟨p, 0, none⟩ (.slice q3 (k + 1) c3)).heap[p]? = some (.cells #[.slice q3 (k + 1) c3, .slice q2 k c2] 56 (0, 0)) := heap_setCell_same w3 p 0 _ _ _ B3.out
      have o24 : (w3.setCell ⟨p, 0, none⟩ (.slice q3 (k + 1) c3)).ownsRow B 3 1 (.slice q2 k c2) k (lastsV ls) := O23.out.kept (KeptBut.setGrown w3 p 0 _) (.inr fun e => H.out.d2 e)
      have o34 : (w3.setCell ⟨p, 0, none⟩ (.slice q3 (k + 1) c3)).ownsRow B 25 1 (.slice q3 (k + 1) c3) (k + 1) (labsV (ls ++ [(a, 0)])) := by
        rw [HLS1.out]
        exact OWN3.out.kept (KeptBut.setGrown w3 p 0 _) (.inr fun e => D13.out e)
      have kb4 := KB3.out.set p 0 (.slice q3 (k + 1) c3) (.inl (.inl rfl))
      have O24 := Lib.hid o24
      have O34 := Lib.hid o34
      have KB4 := Lib.hid kb4
      have hs4 : (w3.setCell ⟨p, 0, none⟩ (.slice q3 (k + 1) c3)).heap.size = w3.heap.size := by simp
      obtain ⟨w4, hw4⟩ : ∃ w4, w3.setCell ⟨p, 0, none⟩ (.slice q3 (k + 1) c3) = w4 := ⟨_, rfl⟩
      rw [hw4] at b4 O24 O34 KB4 hs4
      obtain ⟨k40, k41, f40, f41⟩ := cells2 b4
      have B4 := Lib.hid b4
      have HW4 := Lib.hid hw4
      have h34 : w3.heap.size ≤ w4.heap.size := by omega
      have h43 : w4.heap.size ≤ w3.heap.size := by omega
      clear o24 o34 kb4 b4 O23 OWN3 KB3 hw4 hs4
      go_upto_region 7 with (fail)
      rw [HW4.out]
      go_wp2_with (first
        | (at_builtin; refine wpList_append_own_at _ rfl _ _ 54 rfl B 3 j0 (.int .i64 0) 1 8 Try.underlying54 hj hy0 hy1 hy2 rfl (by decide) _ _ _ rfl (O24.out.alloc _) ⟨w4.heap.size, 0, none⟩ 1 1 [.int .i64 0] rfl rfl ?d1 ?d2 ?d3 ?d4 ?d5 ?_))
      case d1 => exact one_cell _ _ _
      case d2 => intro u hu; simp at hu; subst hu; rfl
      case d3 => unfold maxLen; omega
      case d4 => omega
      case d5 => simp; omega
      intro u6 w6 own6 gr6 hnil6 hloc6
      obtain ⟨q6, c6, rfl⟩ := row_form own6
      have hpl4 : p < w4.heap.size := by omega
      have b6 : w6.heap[p]? = some (.cells #[.slice q3 (k + 1) c3, .slice q2 k c2] 56 (0, 0)) := by
        rw [gr6.block p (by simp; omega) (fun e => H.out.d2 e.symm), heap_alloc_old w4 _ hpl4]
        exact B4.out
      have o36 : w6.ownsRow B 25 1 (.slice q3 (k + 1) c3) (k + 1) (labsV (ls ++ [(a, 0)])) := (O34.out.alloc _).kept gr6 (by
        cases hq : (Value.slice q3 (k + 1) c3).ownBlock with
        | none => exact .inl rfl
        | some g => exact .inr fun e => D33.out g hq e.symm)
      have kb6 : KeptBut (ownS p (.slice q1 k c1) (.slice q2 k c2)) w w6 := (KB4.out.alloc _).grown gr6 fun g e => .inl (.inr (.inr e))
      have hs6' : w4.heap.size + 1 ≤ w6.heap.size := by have := gr6.size; simpa using this
      have hd6 : (Value.slice q6 (k + 1) c6).ownBlock ≠ some p := fun e => by
        rcases hloc6 with h' | h'
        · exact H.out.d2 (h'.symm.trans e)
        · rw [e] at h'
          have := Option.some.inj h'
          (try simp at this); omega
      have hd36 : ∀ g, (Value.slice q3 (k + 1) c3).ownBlock = some g → (Value.slice q6 (k + 1) c6).ownBlock ≠ some g := fun g e e2 => by
        rcases hloc6 with h' | h'
        · exact D33.out g e (h'.symm.trans e2)
        · rw [e2] at h'
          have e3 := Option.some.inj h'
          have := (O34.out.lt g e).2
          (try simp at e3); omega
      have hin6 : ∀ g, (Value.slice q6 (k + 1) c6).ownBlock = some g → ownS p (.slice q1 k c1) (.slice q2 k c2) g ∨ w.heap.size ≤ g := fun g e => by
        rcases hloc6 with h' | h'
        · exact .inl (.inr (.inr (h'.symm.trans e)))
        · rw [e] at h'
          have e3 := Option.some.inj h'
          (try simp at e3); exact .inr (by omega)
      have own6' : w6.ownsRow B 3 1 (.slice q6 (k + 1) c6) (k + 1) (lastsV (ls ++ [(a, 0)])) := by rw [HLS2.out]; exact own6
      have b7 := heap_setCell_same w6 p 1 _ _ (.slice q6 (k + 1) c6) b6
      have hfin : Hid (RefAt (w6.setCell ⟨p, 1, none⟩ (.slice q6 (k + 1) c6)) p B (.slice q3 (k + 1) c3) (.slice q6 (k + 1) c6) (ls ++ [(a, 0)])) := by
        refine ⟨b7, H.out.hp, ?_, ?_, D13.out, hd6, hd36, ?_, fun x hx => ?_⟩
        · rw [HNL.out]; exact o36.kept (KeptBut.setGrown w6 p 1 _) (.inr fun e => D13.out e)
        · rw [HNL.out]; exact own6'.kept (KeptBut.setGrown w6 p 1 _) (.inr fun e => hd6 e)
        · rw [List.map_append, List.nodup_append]
          refine ⟨H.out.nd, by simp, fun x hx y hy => ?_⟩
          simp only [List.map_cons, List.map_nil, List.mem_singleton] at hy
          obtain ⟨z, hz, rfl⟩ := List.mem_map.1 hx
          rw [hy]
          exact HM.out z hz
        · rw [List.mem_append, List.mem_singleton] at hx
          rcases hx with hx | rfl
          · exact H.out.lo x hx
          · exact ⟨ha, Int.le_refl _, by show (0 : Int) ≤ _; omega⟩
      have hkb7 : Hid (KeptBut (ownS p (.slice q1 k c1) (.slice q2 k c2)) w (w6.setCell ⟨p, 1, none⟩ (.slice q6 (k + 1) c6))) := kb6.set p 1 _ (.inl (.inl rfl))
      have hown7 : Hid (∀ g, ownS p (.slice q3 (k + 1) c3) (.slice q6 (k + 1) c6) g → ownS p (.slice q1 k c1) (.slice q2 k c2) g ∨ w.heap.size ≤ g) := fun g hg => by
        rcases hg with rfl | hg | hg
        · exact .inl (.inl rfl)
        · exact IN3.out g hg
        · exact hin6 g hg
      obtain ⟨k60, k61, f60, f61⟩ := cells2 b6
      obtain ⟨k70, k71, _, _⟩ := cells2 b7
      clear own6 own6' gr6 hnil6 hloc6 b6 o36 kb6 hd6 hd36 hin6 b7 k40 k41 f40 f41
      go_wp2_with fail
      go_ret
      exact ⟨rfl, _, _, hfin.out, hkb7.out, hown7.out⟩
end Go.Proofs.Ytbcfmckhgjcakaa
