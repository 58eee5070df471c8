/- diff.likeness: whether two texts are the same, told by their first places. -/
import Derived.Test.YtmkjeelmeicjjaaDfLikeP
import Derived.RangeFuncBox
import Derived.RangeFuncNested
import Derived.Deep.DeepCutAuto
import Derived.Deep.CutBlock
namespace Go.Proofs.Ytmkjeelmeicjjaa
open Go Go.RowKit Go.Maps

def ints (ks : List Nat) : List Int := ks.map fun (k : Nat) => (k : Int)
theorem ints_len (ks : List Nat) : (ints ks).length = ks.length := by simp [ints]
/-- What a function value answers of two places. -/
def SaysB (w : World) (g : Nat) (cb : Array Value) (s : Nat → Nat → Bool) (m n : Nat) : Prop := ∀ (W : World) (i j : Nat), Below w.heap.size w W → i < m → j < n → Calls Try.prog g (#[.int .i64 (i : Nat), .int .i64 (j : Nat)] ++ cb) W fun e w' => e = .returned (.bool (s i j)) ∧ ∃ q, w' = W.drewN q
set_option maxRecDepth 100000 in
set_option maxHeartbeats 4000000 in
theorem like_says (w : World) (g6 g2 : Nat) (p pr : Option Addr) (n c N cr m : Nat) (ks : List Nat) (hN : N = n + m) (hk : ks.length = N) (hNm : N ≤ 8796093022208) (h6 : g6 < w.heap.size) (h2 : g2 < w.heap.size) (c6 : w.cell? ⟨g6, 0, none⟩ = some (.slice pr N cr)) (c2 : w.cell? ⟨g2, 0, none⟩ = some (.slice p n c)) (hr : NumRow .i64 w pr (ints ks)) :
    SaysB w 50 #[.pointer (some ⟨g6, 0, none⟩), .pointer (some ⟨g2, 0, none⟩)] (fun i j => decide (ks[i]? = ks[n + j]?)) n m := by
  intro W i j hb hi hj
  show Calls Try.prog 50 #[.int .i64 i, .int .i64 j, .pointer (some ⟨g6, 0, none⟩), .pointer (some ⟨g2, 0, none⟩)] W fun e w' => e = .returned (.bool (decide (ks[i]? = ks[n + j]?))) ∧ ∃ q, w' = W.drewN q
  have e6 := (hb.cell (p := ⟨g6, 0, none⟩) h6).trans c6
  have e2 := (hb.cell (p := ⟨g2, 0, none⟩) h2).trans c2
  have hik : i < ks.length := by omega
  have hjk : n + j < ks.length := by omega
  obtain ⟨b1, o1, rfl, _, r1⟩ := hr.at i (by rw [ints_len]; exact hik)
  obtain ⟨b2, o2, eb, _, r2⟩ := hr.at (n + j) (by rw [ints_len]; exact hjk)
  cases eb
  have a1 := r1 W hb
  have a2 := r2 W hb
  simp only [ints, List.getElem_map] at a1 a2
  rw [List.getElem?_eq_getElem hik, List.getElem?_eq_getElem hjk]
  have hj1 : ((n + j : Nat) : Int) < (N : Int) := by omega
  have hj0 : (0 : Int) ≤ ((n + j : Nat) : Int) := by omega
  have hi1 : (i : Int) < (N : Int) := by omega
  have hi0 : (0 : Int) ≤ (i : Int) := by omega
  clear r1 r2 c6 c2 hr hN hb
  have hq : (some ks[i] = some ks[n + j]) ↔ ((ks[i] : Int) = (ks[n + j] : Int)) := by rw [Option.some.injEq]; omega
  have hdec : decide (some ks[i] = some ks[n + j]) = ((ks[i] : Int) == (ks[n + j] : Int)) := by
    by_cases h : ks[i] = ks[n + j]
    · rw [h]; simp
    · have h' : ¬ (ks[i] : Int) = (ks[n + j] : Int) := by omega
      rw [decide_eq_false (by simpa using h), beq_false_of_ne h']
  rw [hdec]
  clear hq hdec
  have hw1 : wrap64 ((n : Int) + j) = ((n + j : Nat) : Int) := by
    rw [Int.natCast_add]
    exact Go.IntWalk.wrap64_in _ ⟨by omega, by omega⟩
  have hv1 : IntKind.i64.wrap ((n : Int) + j) = ((n + j : Nat) : Int) := by rw [Go.IntWalk.i64_left]; exact hw1
  generalize (ks[i] : Int) = x at *
  generalize (ks[n + j] : Int) = y at *
  generalize n + j = u at *
  go_enter Try.func50, Try.ntmps50
  go_wp2_with fail
  go_quiet (fail)
  go_wp2
  go_ret
  exact ⟨rfl, _, rfl⟩
theorem SaysB.congr {w : World} {g : Nat} {cb : Array Value} {s s' : Nat → Nat → Bool} {m n : Nat} (h : SaysB w g cb s m n) (e : ∀ i j, i < m → j < n → s i j = s' i j) : SaysB w g cb s' m n := fun W i j hb hi hj => by
  rw [← e i j hi hj]; exact h W i j hb hi hj
theorem like_eq {a b cat : List Tx} {n m : Nat} (hc : a ++ b = cat) (hn : a.length = n) (hm : b.length = m) (i j : Nat) (hi : i < n) (hj : j < m) : decide ((cat.map (firstOf cat))[i]? = (cat.map (firstOf cat))[n + j]?) = decide (a[i]? = b[j]?) := by
  have h1 : cat[i]? = a[i]? := by rw [← hc, List.getElem?_append_left (by omega)]
  have h2 : cat[n + j]? = b[j]? := by rw [← hc, List.getElem?_append_right (by omega), hn]; congr 1; omega
  rw [List.getElem?_map, List.getElem?_map, h1, h2, List.getElem?_eq_getElem (by omega : i < a.length), List.getElem?_eq_getElem (by omega : j < b.length)]
  simp only [Option.map_some, Option.some.injEq]
  have m1 : a[i] ∈ cat := by rw [← hc]; exact List.mem_append_left _ (List.getElem_mem _)
  have m2 : b[j] ∈ cat := by rw [← hc]; exact List.mem_append_right _ (List.getElem_mem _)
  by_cases e : a[i] = b[j]
  · rw [e]; simp
  · rw [decide_eq_false (fun h => e (firstOf_inj m1 m2 h)), decide_eq_false e]
theorem mapMade (w : World) : (Instr.makeMap 80 none).run Try.prog w = .ok (.map (some w.heap.size)) (w.alloc (.map #[] 0)) := by
  simp [Instr.makeMap]
/-- The world with the box of a, the map. -/
def lkW (w : World) (p : Option Addr) (n c : Nat) : World := (w.alloc (.cells #[.slice p n c] 34)).alloc (.map #[] 0)
theorem lkW_size (w : World) (p : Option Addr) (n c : Nat) : (lkW w p n c).heap.size = w.heap.size + 2 := by simp [lkW]
/-- What stays true of the memory, round by round. -/
structure LkSt (s : Nat) (W0 : World) (cat : List Tx) (k : Nat) (wr : World) : Prop where
  kept : KeptBut (fun b => b = s + 1 ∨ b = s + 2 ∨ b = s + 3) W0 wr
  map : ∃ D : DataW Unit, wr.ownsMap Try.prog 9 (plainElem Try.prog 3) (s + 1) k D ∧ FirstIs D (cat.take k)
  row : ∃ v, Boxed wr (s + 3) 55 v ∧ wr.ownsRow (s + 2) 3 1 v k (((cat.take k).map fun t => Value.int .i64 (firstOf cat t : Nat))) ∧ ∀ g, v.ownBlock = some g → g = s + 2 ∨ W0.heap.size ≤ g
theorem lk_finish {s k : Nat} {W0 wA w4 : World} {cat : List Tx} {v v' : Value} {o : Obj} {D : DataW Unit} (hs : s + 4 ≤ W0.heap.size) (hk : KeptBut (fun b => b = s + 1 ∨ b = s + 2 ∨ b = s + 3) W0 wA)
    (hm : wA.ownsMap Try.prog 9 (plainElem Try.prog 3) (s + 1) (k + 1) D) (hD : FirstIs D (cat.take (k + 1))) (hb : Boxed wA (s + 3) 55 v) (hv : ∀ g, v.ownBlock = some g → g = s + 2 ∨ W0.heap.size ≤ g)
    (hgr : (wA.alloc o).grownBy w4 v.ownBlock) (ho : w4.ownsRow (s + 2) 3 1 v' (k + 1) ((cat.take (k + 1)).map fun t => Value.int .i64 (firstOf cat t : Nat))) (hbk : v'.ownBlock = v.ownBlock ∨ v'.ownBlock = some (wA.alloc o).heap.size) : LkSt s W0 cat (k + 1) (w4.setCell ⟨s + 3, 0, none⟩ v') := by
  have hsA := hk.size
  have hne : some (s + 3) ≠ v.ownBlock := fun e => by
    rcases hv _ e.symm with h | h <;> omega
  have hv' : ∀ g, v'.ownBlock = some g → g = s + 2 ∨ W0.heap.size ≤ g := fun g hg => by
    rcases hbk with e | e
    · exact hv g (e ▸ hg)
    · rw [e] at hg
      injection hg with hg
      rw [World.size_alloc] at hg
      exact .inr (by omega)
  have hb4 : Boxed w4 (s + 3) 55 v := (hb.alloc o).kept hgr hne
  refine ⟨((hk.alloc o).grown hgr fun g hg => ?_).set (s + 3) 0 v' (.inl (.inr (.inr rfl))), ⟨D, owns_map_later hm ?_, hD⟩, v', hb4.set v', ?_, hv'⟩
  · rcases hv g hg with h | h
    · exact .inl (.inr (.inl h))
    · exact .inr h
  · rw [heap_setCell_other _ _ _ _ (by show s + 1 ≠ s + 3; omega), hgr.block (s + 1) (by simp; omega) (fun e => by
      rcases hv _ e.symm with h | h <;> omega)]
    exact Below.heap_alloc _ _ _ (by omega)
  · exact ho.kept ⟨rfl, rfl, rfl, by simp, fun q _ hq => heap_setCell_other w4 ⟨s + 3, 0, none⟩ q v' (fun e' => hq (by simp [e']))⟩ (.inr (fun e : v'.ownBlock = some (s + 3) => by
      rcases hv' _ e with h | h <;> omega))
set_option maxRecDepth 100000 in
set_option maxHeartbeats 4000000 in
theorem likeness_any (w : World) (p q : Option Addr) (n m c d : Nat) (a b : List Tx) (hn : a.length = n) (hm : b.length = m) (hnm : n + m ≤ 8796093022208) (hp : StrRow w p a) (hq : StrRow w q b) (hpn : p = none → n = 0 ∧ c = 0) (hqn : q = none → m = 0 ∧ d = 0) (hsz : ∀ t ∈ a ++ b, t.size ≤ maxLen) :
    Calls Try.prog 44 #[.slice p n c, .slice q m d] w fun e w' => Below w.heap.size w w' ∧ ∃ cb, e = .returned (.func (.func 50) #[] cb) ∧ SaysB w' 50 cb (fun i j => decide (a[i]? = b[j]?)) n m := by
  obtain ⟨i0, hi, hz0, hz1, hz2⟩ := info_parts intInfo
  obtain ⟨i1, hj, hy0, hy1, hy2⟩ := info_parts strInfo
  have hmap := mapMade
  have hmk := run_make (P := Try.prog) (lkW w p n c) 55 3 i0 (.int .i64 0) Try.underlying55 hi hz0 .i64 .i64 0 ((n + m : Nat) : Int) (Int.le_refl _) (by omega) (by rw [hz2]; omega) (by omega)
  have ho1 := World.ownsRow_made (e := 3) (size := 1) (base := w.heap.size + 2) (lkW w p n c) (madeCells (Value.int .i64 0).cells ((n + m) * i0.size)) (n + m) (by rw [lkW_size]; exact Nat.le_refl _) (by unfold maxLen; omega) (by rw [hz1]; simp [madeCells])
  have hgr1 : (lkW w p n c).grownBy ((lkW w p n c).alloc (.cells (madeCells (Value.int .i64 0).cells ((n + m) * i0.size)) 3)) none := World.grownBy_alloc _ _ _
  have hs1 : ((lkW w p n c).alloc (.cells (madeCells (Value.int .i64 0).cells ((n + m) * i0.size)) 3)).heap.size = w.heap.size + 3 := by rw [World.size_alloc, lkW_size]
  simp only [Int.toNat_natCast, Int.toNat_zero] at hmk
  rw [lkW_size] at hmk ho1
  rw [Int.natCast_add] at hmk
  generalize (lkW w p n c).alloc (.cells (madeCells (Value.int .i64 0).cells ((n + m) * i0.size)) 3) = w1 at *
  unfold lkW at hmk
  have HN := Lib.hid hn
  have HM := Lib.hid hm
  have HP := Lib.hid hp
  have HQ := Lib.hid hq
  have HSZ := Lib.hid hsz
  have HO1 := Lib.hid ho1
  have HG1 := Lib.hid hgr1
  clear hn hm hp hq hsz ho1 hgr1
  obtain ⟨w2, hw2⟩ : ∃ w2, w2 = w1.alloc (.cells #[.slice (some ⟨w.heap.size + 2, 0, none⟩) 0 (n + m)] 55) := ⟨_, rfl⟩
  have hs2 : w2.heap.size = w.heap.size + 4 := by rw [hw2, World.size_alloc, hs1]
  have hB2 : Below w.heap.size w w2 := by
    have h1 : Below w.heap.size w (lkW w p n c) := ((Below.refl _ w).alloc (Nat.le_refl _) _).alloc (by rw [World.size_alloc]; omega) _
    have h2 : Below w.heap.size w w1 := h1.grown HG1.out (by rw [lkW_size]; omega) (fun g hg => by cases hg)
    rw [hw2]
    exact h2.alloc (by omega) _
  have c2 : w2.cell? ⟨w.heap.size, 0, none⟩ = some (.slice p n c) := by
    have h0 : (lkW w p n c).cell? ⟨w.heap.size, 0, none⟩ = some (.slice p n c) := by
      unfold lkW
      exact (World.cell?_alloc_some _ _ _ (by rw [World.cell?_alloc_mark]; rfl)).trans (by rw [World.cell?_alloc_mark]; rfl)
    have h1 : w1.cell? ⟨w.heap.size, 0, none⟩ = some (.slice p n c) := (World.cell?_of_block (a := ⟨w.heap.size, 0, none⟩) (HG1.out.block w.heap.size (by rw [lkW_size]; omega) (by simp))).trans h0
    rw [hw2]
    exact (World.cell?_alloc_some w1 _ _ (by rw [h1]; rfl)).trans h1
  have m2 : w2.ownsMap Try.prog 9 (plainElem (H := Unit) Try.prog 3) (w.heap.size + 1) 0 (.map []) := by
    have h0 := World.ownsMap_made (w.alloc (.cells #[.slice p n c] 34)) Try.prog 9 (plainElem (H := Unit) Try.prog 3)
    rw [show (w.alloc (.cells #[.slice p n c] 34)).heap.size = w.heap.size + 1 by simp] at h0
    have h1 := owns_map_later h0 (HG1.out.block (w.heap.size + 1) (by rw [lkW_size]; omega) (by simp))
    rw [hw2]
    exact owns_map_later h1 (Below.heap_alloc _ _ _ (by omega))
  have r2 : w2.heap[w.heap.size + 3]? = some (.cells #[.slice (some ⟨w.heap.size + 2, 0, none⟩) 0 (n + m)] 55 (0, 0)) := by
    rw [hw2, ← hs1]; exact heap_alloc_new w1 _
  have o2 : w2.ownsRow (w.heap.size + 2) 3 1 (.slice (some ⟨w.heap.size + 2, 0, none⟩) 0 (n + m)) 0 [] := by rw [hw2]; exact HO1.out.alloc _
  have HW2 := Lib.hid hw2
  have HM2 := Lib.hid m2
  have HR2 := Lib.hid r2
  have HO2 := Lib.hid o2
  have HB2 := Lib.hid hB2
  clear m2 r2 o2 hB2 HG1 HO1
  go_enter Try.func44, Try.ntmps44
  go_upto_region 3 with fail
  rw [← hw2]
  clear hmk hmap hw2 HW2 hs1
  go_wp2_with fail
  have hb0 : Below w2.heap.size w2 (w2.alloc (.cells #[.slice p n c, .slice q m d] 34)) := (Below.refl _ _).alloc (Nat.le_refl _) _
  have hbw := HB2.out.trans (hb0.mono (by omega))
  refine (concat_any (w2.alloc (.cells #[.slice p n c, .slice q m d] 34)) (w.heap.size + 4) p q n m c d a b HN.out HM.out hnm (HP.out.later hbw) (HQ.out.later hbw) hpn hqn (by simp; omega) (by rw [← hs2]; simp) (by rw [← hs2]; simp)).mono ?_
  rintro e w3 ⟨hb3, vc, rfl, hoc⟩
  have hb3' : Below w2.heap.size w2 w3 := hb0.trans (hb3.mono (by simp))
  have hs3 : w.heap.size + 5 ≤ w3.heap.size := by have := hb3.size; simp only [World.size_alloc] at this; omega
  have hsz3 : (w2.alloc (.cells #[.slice p n c, .slice q m d] 34)).heap.size = w.heap.size + 5 := by simp; omega
  rw [hsz3] at hoc
  have hNl : (a ++ b).length = n + m := by rw [List.length_append, HN.out, HM.out]
  rw [← hNl] at hoc
  obtain ⟨pc, cc, rfl, hrc⟩ := row_owned hoc
  have hiv := own_iv hoc
  rw [hNl]
  have hst : LkSt w.heap.size w3 (a ++ b) 0 w3 := by
    refine ⟨KeptBut.refl _ _, ⟨.map [], owns_map_later HM2.out (hb3'.block _ (by omega)), by rw [List.take_zero]; exact first_nil⟩, _, (hb3'.block _ (by omega)).trans HR2.out, ?_, fun g hg => .inl (by simpa [Value.ownBlock] using hg.symm)⟩
    rw [List.take_zero]
    exact row_later HO2.out hb3'
  have hB3 : Below w.heap.size w w3 := HB2.out.trans (hb3'.mono (by omega))
  have c3 : w3.cell? ⟨w.heap.size, 0, none⟩ = some (.slice p n c) := (hb3'.cell (p := ⟨w.heap.size, 0, none⟩) (by show w.heap.size < _; omega)).trans c2
  obtain ⟨cat, hcat⟩ : ∃ cat, a ++ b = cat := ⟨_, rfl⟩
  obtain ⟨N, hN⟩ : ∃ N, n + m = N := ⟨_, rfl⟩
  have hsz' := HSZ.out
  rw [hcat] at hst hrc hNl hsz'
  rw [hN] at hNl hnm
  rw [hN]
  have HST := Lib.hid hst
  have HB3 := Lib.hid hB3
  have HRC := Lib.hid hrc
  have HIV := Lib.hid hiv
  have HNL := Lib.hid hNl
  have HC3 := Lib.hid c3
  have HS := Lib.hid hsz'
  have HCAT := Lib.hid hcat
  have HNN := Lib.hid hN
  clear hb0 hbw hb3 hb3' hsz3 hoc hrc hiv hst hB3 c2 c3 hNl HM2 HR2 HO2 HB2 HSZ hsz' hcat hN
  go_wp2_with fail
  go_loopg [23] N (fun g vi wr => ∃ k : Nat, k + g = N ∧ vi = .int .i64 k ∧ Hid (LkSt w.heap.size w3 cat k wr))
  case atStart => exact ⟨0, by omega, rfl, HST.out⟩
  case round =>
    obtain ⟨k, hk, rfl, HL⟩ := hrel
    obtain ⟨hkept, ⟨D, hown, hD⟩, v, hbox, hrow, hv⟩ := HL.out
    have hsr := hkept.size
    obtain ⟨pv, cv, rfl⟩ := own_sl hrow
    have hbe : Below w.heap.size w wr := hkept.below HB3.out (by omega) (fun j hj => by rcases hj with h | h | h <;> omega)
    have hrowc : StrRow wr pc cat := HRC.out.but hkept (fun g off e => by have := HIV.out g off e; omega)
    have x0 := hbox.cell
    have x1 := hbox.frozen
    have xlt := hbox.lt
    by_cases hlt : k < N
    · have hlt' : k < cat.length := by rw [HNL.out]; exact hlt
      obtain ⟨b1, o1, rfl, h1c⟩ := hrowc.at k hlt'
      have g1 := h1c wr (Below.refl _ _)
      have hkey := kl_of cat[k] (HS.out _ (List.getElem_mem hlt'))
      have htk : cat.take (k + 1) = cat.take k ++ [cat[k]] := List.take_succ_eq_append_getElem hlt'
      have hin := hD.has cat[k]
      have hold := Lib.hid (fun h : cat[k] ∈ cat.take k => (show FirstIs D (cat.take (k + 1)) by rw [htk]; exact hD.old h))
      have hnew := Lib.hid (fun h : cat[k] ∉ cat.take k => (show FirstIs (D.put (kl cat[k]) (.lit (.int .i64 (k : Nat)))) (cat.take (k + 1)) by
        have := hD.put h
        rw [List.length_take, Nat.min_eq_left (by omega)] at this
        rw [htk]; exact this))
      have hval := Lib.hid (fun D' (h : FirstIs D' (cat.take (k + 1))) z => (show D'.atKey (kl cat[k]) z = .lit (.int .i64 (firstOf cat cat[k] : Nat)) by
        have hm : cat[k] ∈ cat.take (k + 1) := by
          rw [htk]
          exact List.mem_append_right _ (List.mem_singleton.2 rfl)
        rw [h.at' _ hm]
        have := firstOf_app (us := cat.drop (k + 1)) hm
        rw [List.take_append_drop] at this
        rw [this]))
      have hcells : Hid (((cat.take (k + 1)).map fun t => Value.int .i64 (firstOf cat t : Nat)) = ((cat.take k).map fun t => Value.int .i64 (firstOf cat t : Nat)) ++ [.int .i64 (firstOf cat cat[k] : Nat)]) := by
        show _ = _
        rw [htk, List.map_append]; rfl
      have hkI : (k : Int) < (N : Int) := by omega
      have hk0 : (0 : Int) ≤ (k : Int) := by omega
      have HK := Lib.hid hkept
      have HB := Lib.hid hbe
      have HBX := Lib.hid hbox
      have HV := Lib.hid hv
      have hwfk : (Lit.int .i64 (k : Int)).wf = true := by simp [Lit.wf, IntKind.min, IntKind.max, IntKind.signed, IntKind.bits]; omega
      clear htk HL hkept hbe hbox hv h1c hrowc
      generalize firstOf cat cat[k] = F at *
      generalize hX : cat[k] = x at *
      clear hX
      have HNE : Hid (some (w.heap.size + 3) ≠ (Value.slice pv k cv).ownBlock) := fun e => by
        rcases HV.out _ e.symm with h | h <;> omega
      cases hh : Maps.has D (kl x) with
      | true =>
        have hD' := Lib.hid (hold.out (hin.1 hh))
        have hval' := Lib.hid (hval.out _ hD'.out)
        clear hold hnew hval hin hD
        go_wp2_with (first
          | (at_lookup; refine wpList_lookup_own_ok_int _ rfl _ _ 80 rfl 9 3 .i64 txLaw Try.underlying80 Try.underlying3 (zeroInt _) (w.heap.size + 1) k D rfl hown _ _ rfl hkey ?_; intro c1 hat1 hwc1; rw [hh]; clear hat1 hwc1)
          | (at_lookup; refine wpList_lookup_own_int _ rfl _ _ 80 rfl 9 3 .i64 txLaw Try.underlying80 Try.underlying3 (zeroInt _) (w.heap.size + 1) k D rfl hown _ _ rfl hkey ?_; intro c2 hat2 hwc2; obtain rfl : c2 = (F : Int) := (by have h := (hval'.out _).symm.trans hat2; simpa using h.symm); clear hat2 hwc2)
          | (at_builtin; refine wpList_append_blk _ rfl _ _ 55 rfl (w.heap.size + 2) 3 i0 (.int .i64 0) 1 8 Try.underlying55 hi hz0 hz1 hz2 rfl (by decide) _ _ _ rfl (hrow.alloc _) ⟨wr.heap.size, 0, none⟩ 1 1 [.int .i64 (F : Nat)] rfl rfl (cell_one_new _ _ _) (by simp [Value.oneCell']) (by unfold maxLen; omega) (by omega) (by simp; omega) ?_; intro u' w4 hown4 hgr4 hbk4; obtain ⟨pu, cu, rfl⟩ := own_sl hown4; have x4 := (HBX.out.alloc (.cells #[.int .i64 (F : Nat)] 3)).kept hgr4 HNE.out; have z0 := x4.cell; have z1 := x4.frozen; have z2 := x4.lt))
        rw [← hcells.out] at hown4
        have hfin := lk_finish (by omega) HK.out ?_ hD'.out HBX.out HV.out hgr4 hown4 hbk4
        case refine_1 => exact hown.mono (by omega)
        have HF := Lib.hid hfin
        clear hfin hown4 hgr4 hbk4 x4 z0 z1 z2 hown hrow
        go_wp2_with fail
        go_roundg (gk - 1)
        case rel => exact ⟨k + 1, by omega, by go_num, HF.out⟩
        case measure => omega
      | false =>
        have hnin : x ∉ cat.take k := fun h => by have := hin.2 h; rw [hh] at this; cases this
        have hD' := Lib.hid (hnew.out hnin)
        have hval' := Lib.hid (hval.out _ hD'.out)
        clear hold hnew hval hin hD hnin
        go_wp2_with (first
          | (at_lookup; refine wpList_lookup_own_ok_int _ rfl _ _ 80 rfl 9 3 .i64 txLaw Try.underlying80 Try.underlying3 (zeroInt _) (w.heap.size + 1) k D rfl hown _ _ rfl hkey ?_; intro c1 hat1 hwc1; rw [hh]; clear hat1 hwc1)
          | (at_mapUpdate; refine wpList_mapUpdate_own _ rfl _ _ _ 80 rfl 9 3 txLaw Try.underlying80 _ (w.heap.size + 1) k D rfl hown (by unfold maxLen; omega) _ _ (kl x) rfl rfl hkey _ [] (plainElem_int Try.underlying3 hwfk) ?_; intro w5 hown5 hgr5; have box5 := HBX.out.kept hgr5 (by simp); have y0 := box5.cell; have y1 := box5.frozen; have y2 := box5.lt; have row5 := hrow.kept hgr5 (.inr (fun e => by rcases HV.out _ e with h | h <;> omega)); have hs5 := hgr5.size)
          | (at_lookup; refine wpList_lookup_own_int _ rfl _ _ 80 rfl 9 3 .i64 txLaw Try.underlying80 Try.underlying3 (zeroInt _) (w.heap.size + 1) (k + 1) _ rfl hown5 _ _ rfl hkey ?_; intro c2 hat2 hwc2; obtain rfl : c2 = (F : Int) := (by have h := (hval'.out _).symm.trans hat2; simpa using h.symm); clear hat2 hwc2)
          | (at_builtin; refine wpList_append_blk _ rfl _ _ 55 rfl (w.heap.size + 2) 3 i0 (.int .i64 0) 1 8 Try.underlying55 hi hz0 hz1 hz2 rfl (by decide) _ _ _ rfl (row5.alloc _) ⟨w5.heap.size, 0, none⟩ 1 1 [.int .i64 (F : Nat)] rfl rfl (cell_one_new _ _ _) (by simp [Value.oneCell']) (by unfold maxLen; omega) (by omega) (by simp; omega) ?_; intro u' w4 hown4 hgr4 hbk4; obtain ⟨pu, cu, rfl⟩ := own_sl hown4; have x4 := (box5.alloc (.cells #[.int .i64 (F : Nat)] 3)).kept hgr4 HNE.out; have z0 := x4.cell; have z1 := x4.frozen; have z2 := x4.lt))
        rw [← hcells.out] at hown4
        have hfin := lk_finish (by omega) (HK.out.grown hgr5 (fun g e => by cases e; exact .inl (.inl rfl))) hown5 hD'.out box5 HV.out hgr4 hown4 hbk4
        have HF := Lib.hid hfin
        clear hfin hown4 hgr4 hbk4 x4 z0 z1 z2 hown hrow hown5 hgr5 box5 y0 y1 y2 row5 hs5
        go_wp2_with fail
        go_roundg (gk - 1)
        case rel => exact ⟨k + 1, by omega, by go_num, HF.out⟩
        case measure => omega
    · obtain rfl : k = N := by omega
      have hall : cat.take k = cat := by rw [← HNL.out]; exact List.take_length
      rw [hall] at hrow
      have hnums : wr.ownsRow (w.heap.size + 2) 3 1 (.slice pv k cv) k (nums .i64 (ints (cat.map (firstOf cat)))) := by
        rw [show nums .i64 (ints (cat.map (firstOf cat))) = cat.map fun t => Value.int .i64 (firstOf cat t : Nat) by simp [nums, ints]]
        exact hrow
      have c4 : wr.cell? ⟨w.heap.size, 0, none⟩ = some (.slice p n c) := (World.cell?_of_block (a := ⟨w.heap.size, 0, none⟩) (hkept.block w.heap.size (by omega) (fun h => by rcases h with h | h | h <;> omega))).trans HC3.out
      have hfin := (like_says wr (w.heap.size + 3) w.heap.size p pv n c k cv m (cat.map (firstOf cat)) HNN.out.symm (by rw [List.length_map]; exact HNL.out) hnm xlt (by omega) x0 c4 (nums_row' hnums)).congr (like_eq HCAT.out HN.out HM.out)
      have HF := Lib.hid hfin
      have HB := Lib.hid hbe
      clear hfin hnums c4 hrow hall HL hkept hbe hown hD hbox hv hrowc x0 x1
      go_wp2_with fail
      go_ret
      exact ⟨HB.out, _, rfl, HF.out⟩
end Go.Proofs.Ytmkjeelmeicjjaa
