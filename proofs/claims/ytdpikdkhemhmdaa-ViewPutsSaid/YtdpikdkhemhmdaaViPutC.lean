/- slices.Clone of lines that came in; view.Put: by contracts. -/
import Derived.Test.YtdpikdkhemhmdaaViLines
import Derived.Laws.OwnMore
namespace Go.Proofs.Ytdpikdkhemhmdaa
open Go Go.RowKit

set_option maxRecDepth 100000 in
set_option maxHeartbeats 2000000 in
theorem clone_any (w : World) (p : Option Addr) (n c : Nat) (xs : List Li) (hn : xs.length = n) (hnm : n ≤ 3518437208883) (hr : LiRow w p xs) (hnil : p = none → n = 0 ∧ c = 0) :
    Calls Try.prog 53 #[.slice p n c] w (GivesLi w xs) := by
  obtain ⟨i0, hi, hz0, hz1, hz2⟩ := li_parts
  cases p with
  | none =>
    obtain ⟨rfl, rfl⟩ := hnil rfl
    have hx : xs = [] := List.eq_nil_of_length_eq_zero hn
    subst hx
    have hq := fun w => Lib.run_eql_slice_nil (P := Try.prog) w 22 26 none 0 0 0 0 Try.underlying22
    clear hr hnil
    go_enter Try.func53, Try.ntmps53
    go_wp2
    go_ret
    exact ⟨Below.refl _ _, none, 0, rfl, liRow_nil _ _, World.ownsRow_nil _ _ _ _⟩
  | some ad =>
    have hown0 := World.ownsRow_made (e := 26) (size := 4) (base := w.heap.size) w #[] 0 (Nat.le_refl _) (by unfold maxLen; omega) rfl
    have hbb0 : Below w.heap.size w (w.alloc (.cells #[] 26)) := (Below.refl _ w).alloc (Nat.le_refl _) _
    have HN := Lib.hid hn
    have hq := fun w => Lib.run_eql_slice_nil (P := Try.prog) w 22 26 (some ad) n c 0 0 Try.underlying22
    have HR := Lib.hid hr
    clear hn hnil hr
    go_enter Try.func53, Try.ntmps53
    go_wp2_with (first
      | (at_builtin; refine copy_li rfl _ _ 22 rfl w.heap.size 26 i0 (.agg #[.int .u64 0, .int .i64 0, .int .i64 0, .string ⟨#[]⟩]) Try.underlying22 hi hz0 hz1 hz2 rfl _ rfl hown0 (some ad) n c xs rfl HN.out (HR.out.later hbb0) (fun e => by cases e) (by omega) (by simp) ?_; intro v1 w1 own1 hb1; have HO := Lib.hid own1; have HB := Lib.hid hb1; clear hown0 own1 hb1))
    go_ret
    refine gives_of (Nat.le_refl _) (hbb0.trans HB.out) ⟨v1, rfl, ?_⟩
    rw [HN.out]; exact HO.out
theorem liCells_set : ∀ (xs : List Li) (k : Nat) (x : Li), k < xs.length → ((((liCells xs).set (k * 4) (.int .u64 x.u)).set (k * 4 + 1) (.int .i64 x.n)).set (k * 4 + 2) (.int .i64 x.r)).set (k * 4 + 3) (.string x.s) = liCells (xs.set k x)
  | y :: xs, 0, x, _ => by
    simp only [liCells_cons, List.set_cons_zero]; rfl
  | y :: xs, k + 1, x, h => by
    have ih := liCells_set xs k x (Nat.lt_of_succ_lt_succ h)
    rw [liCells_cons, List.set_cons_succ, liCells_cons, ← ih]
    have e0 : (k + 1) * 4 = k * 4 + 1 + 1 + 1 + 1 := by omega
    have e1 : (k + 1) * 4 + 1 = k * 4 + 1 + 1 + 1 + 1 + 1 := by omega
    have e2 : (k + 1) * 4 + 2 = k * 4 + 2 + 1 + 1 + 1 + 1 := by omega
    have e3 : (k + 1) * 4 + 3 = k * 4 + 3 + 1 + 1 + 1 + 1 := by omega
    rw [e1, e2, e3, e0]
    rfl
/-- What Put answers. -/
def PutSays (w : World) (ys : List Li) (good : Bool) (e : Ending) (w' : World) : Prop := Below w.heap.size w w' ∧ ∃ p c, e = .returned (.tuple #[.slice p (if good then ys.length else 0) c, .int .i64 (if good then 0 else 1)]) ∧ (good = false → p = none ∧ c = 0) ∧ (good = true → LiRow w' p ys ∧ w'.ownsRow w.heap.size 26 4 (.slice p ys.length c) ys.length (liCells ys))
set_option maxRecDepth 100000 in
set_option maxHeartbeats 4000000 in
theorem put_no (w : World) (p q : Option Addr) (n c m d : Nat) (xs vs : List Li) (hn : xs.length = n) (hnm : n ≤ 3518437208883) (hm : vs.length = m) (hr : LiRow w p xs) (hok : ∀ x ∈ xs, x.u < 18446744073709551616) (a : Nat) (ha : a < 18446744073709551616)
    (hne : vs.length ≠ (xs.filter (seenB a)).length) :
    Calls Try.prog 28 #[.slice p n c, .int .u64 a, .slice q m d] w (PutSays w [] false) := by
  have cP := places_any w p n c xs hn hnm hr hok a ha
  have hpl := places_len (seenB a) xs
  have hle := filter_le xs (seenB a) (n := n) (by omega)
  rw [← hpl] at hne hle
  have hneI : ¬ (m : Int) = ((places (seenB a) xs).length : Int) := by omega
  clear hr hok hpl
  go_enter Try.func28, Try.ntmps28
  go_wp2_with fail
  refine cP.mono ?_
  rintro e w1 ⟨hb1, p1, c1, rfl, _, _⟩
  go_wp2_with fail
  go_ret2
  exact ⟨hb1, none, 0, rfl, fun _ => ⟨rfl, rfl⟩, fun h => by cases h⟩
set_option maxRecDepth 100000 in
set_option maxHeartbeats 4000000 in
theorem put_yes (w : World) (p q : Option Addr) (n c m d : Nat) (xs vs : List Li) (hn : xs.length = n) (hnm : n ≤ 3518437208883) (hm : vs.length = m) (hr : LiRow w p xs) (hv : LiRow w q vs) (hnil : p = none → n = 0 ∧ c = 0) (hok : ∀ x ∈ xs, x.u < 18446744073709551616) (a : Nat) (ha : a < 18446744073709551616)
    (he : vs.length = (xs.filter (seenB a)).length) :
    Calls Try.prog 28 #[.slice p n c, .int .u64 a, .slice q m d] w (PutSays w (putI (seenB a) xs vs) true) := by
  have cP := places_any w p n c xs hn hnm hr hok a ha
  have cC := fun (W : World) (hW : Below w.heap.size w W) => clone_any W p n c xs hn hnm (hr.later hW) hnil
  have hpl := places_len (seenB a) xs
  have hle := filter_le xs (seenB a) (n := n) (by omega)
  rw [← hpl] at he
  rw [← hpl] at hle
  have PR := Lib.hid (fun k (hk : k < (places (seenB a) xs).length) => places_rank (f := seenB a) (xs := xs) hk)
  have PS := Lib.hid (fun (k p : Nat) (hp : p < xs.length) (hf : seenB a xs[p] = true) (hr : rank (seenB a) xs p = k) (hk : k < vs.length) => putK_step (vs := vs) hp hf hr hk)
  have PA := Lib.hid (putK_all (f := seenB a) (xs := xs) (vs := vs) (k := m) (by omega))
  have PL := Lib.hid (putK_len (seenB a) xs vs)
  have PI := Lib.hid (putI_len (seenB a) xs vs)
  have P0 := Lib.hid (putK_zero (seenB a) xs vs)
  generalize places (seenB a) xs = ps at *
  obtain rfl : m = ps.length := by omega
  have HN := Lib.hid hn
  have HM := Lib.hid hm
  have HV := Lib.hid hv
  have HC := Lib.hid cC
  clear hr hok hpl hn hm hv cC he hnil
  go_enter Try.func28, Try.ntmps28
  go_wp2_with fail
  refine cP.mono ?_
  rintro e w1 ⟨hb1, p1, c1, rfl, hp1, _⟩
  have cC1 := HC.out w1 hb1
  have HB1 := Lib.hid hb1
  have HP1 := Lib.hid hp1
  clear hb1 hp1 cP HC
  go_wp2_with fail
  refine cC1.mono ?_
  rintro e w2 ⟨hb2, p2, c2, rfl, _, ho2⟩
  have HB2 := Lib.hid hb2
  have hs2 := hb2.size
  have HO2 := Lib.hid ho2
  clear hb2 ho2 cC1
  rw [HN.out]
  rw [HN.out] at HO2
  obtain ⟨L, hL⟩ : ∃ L, ps.length = L := ⟨_, rfl⟩
  rw [hL] at hle PA ⊢
  have HL := Lib.hid hL
  clear hL
  go_wp2_with fail
  go_loopg [24] L (fun g vi wr => ∃ k : Nat, k + g = L ∧ vi = .int .i64 k ∧ Below w1.heap.size w1 wr ∧ w2.heap.size ≤ wr.heap.size ∧ Hid (wr.ownsRow w1.heap.size 26 4 (.slice p2 n c2) n (liCells (putK (seenB a) xs vs k))))
  case atStart => exact ⟨0, by omega, rfl, HB2.out, Nat.le_refl _, by rw [P0.out]; exact HO2.out⟩
  case round =>
    obtain ⟨k, hk, rfl, hbr, hsr, HO⟩ := hrel
    by_cases hlt : k < L
    · have hlt' : k < ps.length := by rw [HL.out]; exact hlt
      have hltv : k < vs.length := by rw [HM.out]; exact hlt'
      obtain ⟨b1, o1, rfl, _, h1c⟩ := HP1.out.at k hlt'
      have g1 := h1c wr hbr
      obtain ⟨b2, o2, rfl, _, h2c⟩ := HV.out.at k hltv
      obtain ⟨x0, x1, x2, x3⟩ := h2c wr (HB1.out.trans (hbr.mono HB1.out.size))
      obtain ⟨pp, hpp, hpe, hpf, hpr⟩ := PR.out k hlt'
      rw [hpe] at g1
      have hset := PS.out _ _ hpp hpf hpr hltv
      have hcs := liCells_set (putK (seenB a) xs vs k) pp vs[k] (by rw [PL.out]; exact hpp)
      rw [← hset] at hcs
      have hppn : pp < n := by rw [← HN.out]; exact hpp
      have hppI : (pp : Int) < (n : Int) := by omega
      have pp0 : (0 : Int) ≤ (pp : Int) := by omega
      have hkI : (k : Int) < (L : Int) := by omega
      have hk0 : (0 : Int) ≤ (k : Int) := by omega
      obtain ⟨gg, cap, hgv, hgB⟩ : ∃ gg cap, Value.slice p2 n c2 = .slice (some ⟨gg, 0, none⟩) n cap ∧ w1.heap.size ≤ gg := by
        rcases HO.out.2 with ⟨_, h0⟩ | ⟨gg, cap, cur, hv, hB, _⟩
        · omega
        · exact ⟨gg, cap, hv, hB⟩
      injection hgv with e1 e2 e3
      subst e1 e3
      generalize vs[k] = x at *
      have hfz := fun j => HO.out.frozenAt j
      have hck := fun j (hj : j < 4) => HO.out.cellAt (pp * 4 + j) (by omega)
      have hln : (liCells (putK (seenB a) xs vs k)).length = n * 4 := by rw [liCells_len, PL.out, HN.out]
      obtain ⟨u0, d0⟩ : ∃ u, wr.cell? ⟨gg, pp * 4, none⟩ = some u := ⟨_, (hck 0 (by omega)).trans (List.getElem?_eq_getElem (by omega))⟩
      obtain ⟨u1, d1⟩ : ∃ u, wr.cell? ⟨gg, pp * 4 + 1, none⟩ = some u := ⟨_, (hck 1 (by omega)).trans (List.getElem?_eq_getElem (by omega))⟩
      obtain ⟨u2, d2⟩ : ∃ u, wr.cell? ⟨gg, pp * 4 + 2, none⟩ = some u := ⟨_, (hck 2 (by omega)).trans (List.getElem?_eq_getElem (by omega))⟩
      obtain ⟨u3, d3⟩ : ∃ u, wr.cell? ⟨gg, pp * 4 + 3, none⟩ = some u := ⟨_, (hck 3 (by omega)).trans (List.getElem?_eq_getElem (by omega))⟩
      have f0 := hfz (pp * 4)
      have f1 := hfz (pp * 4 + 1)
      have f2 := hfz (pp * 4 + 2)
      have f3 := hfz (pp * 4 + 3)
      have HB := Lib.hid hbr
      have HCS := Lib.hid hcs
      clear hcs hset hpe hpf hpr hck hfz hln h1c h2c hbr
      go_wp2_with fail
      have st0 := HO.out.stored (pp * 4) (.int .u64 x.u)
      have st1 := st0.1.stored (pp * 4 + 1) (.int .i64 x.n)
      have st2 := st1.1.stored (pp * 4 + 2) (.int .i64 x.r)
      have st3 := st2.1.stored (pp * 4 + 3) (.string x.s)
      have hrow := st3.1
      rw [HCS.out] at hrow
      have HRW := Lib.hid hrow
      have HBB := Lib.hid ((((HB.out.setCell (p := ⟨gg, pp * 4, none⟩) hgB (.int .u64 x.u)).setCell (p := ⟨gg, pp * 4 + 1, none⟩) hgB (.int .i64 x.n)).setCell (p := ⟨gg, pp * 4 + 2, none⟩) hgB (.int .i64 x.r)).setCell (p := ⟨gg, pp * 4 + 3, none⟩) hgB (.string x.s))
      clear hrow st0 st1 st2 st3 d0 d1 d2 d3 f0 f1 f2 f3 x0 x1 x2 x3 g1
      go_roundg (gk - 1)
      case rel => exact ⟨k + 1, by omega, by go_num, HBB.out, by simpa using hsr, HRW.out⟩
      case measure => omega
    · obtain rfl : k = L := by omega
      have HO3 := Lib.hid HO.out
      rw [PA.out] at HO3
      have HB := Lib.hid (HB1.out.trans (hbr.mono HB1.out.size))
      have hs1 := HB1.out.size
      clear HO hbr
      go_wp2_with fail
      go_ret2
      have hl : (putI (seenB a) xs vs).length = n := by rw [PI.out, HN.out]
      obtain ⟨p3, c3, hv3, hr3⟩ := li_owned hl HO3.out
      injection hv3 with e1 e2 e3
      subst e1 e3
      refine ⟨HB.out, p2, c2, by rw [hl]; rfl, (fun h => by cases h), fun _ => ⟨hr3, ?_⟩⟩
      rw [hl]; exact base_le HO3.out hs1
end Go.Proofs.Ytdpikdkhemhmdaa
