/- scrimref06.Lines on any two rows; both Puts, of any list: by contracts. -/
import Derived.Test.YtdpikdkhemhmdaaViRefPl
import Derived.Test.YtdpikdkhemhmdaaViPutC
import Derived.Test.YtdpikdkhemhmdaaViAlike
import Derived.WideShapes
namespace Go.Proofs.Ytdpikdkhemhmdaa
open Go Go.RowKit Go.Maps

theorem lnLaw : Keyed Try.prog 26 := Keyed.of_law (deep_law_laid (P := Try.prog) (by kernel_rfl) (m := 2) (by omega) (of_decide_eq_true (by kernel_rfl)) (by kernel_rfl) (by kernel_rfl))
theorem oneLi_iff {x y : Li} : oneLi x y = true ↔ x = y := by
  constructor
  · intro h
    simp only [oneLi, idB, Bool.and_eq_true, decide_eq_true_eq, beq_iff_eq] at h
    obtain ⟨⟨h1, h2⟩, h3⟩ := h
    obtain ⟨e1, e2⟩ := Prod.mk.inj (show (x.u, x.n) = (y.u, y.n) from h1)
    rw [ByteArray.toList_eq, ByteArray.toList_eq] at h3
    have e3 := Go.WideShapes.bytes_inj h3
    cases x; cases y
    simp only at e1 e2 h2 e3
    subst e1 e2 h2 e3
    rfl
  · rintro rfl; exact oneLi_refl x
theorem agg_inj {x y : Li} (h : x.agg = y.agg) : x = y := by
  cases x; cases y
  simp only [Li.agg, Value.agg.injEq, Array.mk.injEq, List.cons.injEq, Value.int.injEq, Value.string.injEq, true_and, and_true] at h
  obtain ⟨e1, e2, e3, e4⟩ := h
  have e1' := Int.ofNat.inj e1
  subst e1' e2 e3 e4
  rfl
set_option maxRecDepth 100000 in
theorem neqAny {x y : Li} (hx : LiOk x) (hy : LiOk y) (w : World) : (binOp .neq 26 x.agg y.agg).run Try.prog w = .ok (.bool (!oneLi x y)) w := by
  obtain ⟨l, hl⟩ := li_key hx
  obtain ⟨l', hl'⟩ := li_key hy
  obtain ⟨r, h1, h2⟩ := run_equal_deep w (m := 2) (by omega) lineKeyAt lineWide hl hl'
  have hr : r = oneLi x y := by
    rw [Bool.eq_iff_iff, h2, oneLi_iff]
    constructor
    · intro e
      rw [← e] at hl'
      exact agg_inj (lnLaw.inj hl hl')
    · rintro rfl
      rw [hl] at hl'
      exact Option.some.inj hl'
  subst hr
  unfold Li.agg at h1 ⊢
  simp only [binOp]
  simp [h1, Result.andThen]
set_option maxRecDepth 100000 in
set_option maxHeartbeats 4000000 in
theorem refLinesD_any (w : World) (p q : Option Addr) (n m c d : Nat) (xs ys : List Li) (hp : LiRow w p xs) (hq : LiRow w q ys) (hn : xs.length = n) (hm : ys.length = m) (hl : n ≤ 9223372036854775807) (hl' : m ≤ 9223372036854775807) (hfx : ∀ x ∈ xs, LiOk x) (hfy : ∀ y ∈ ys, LiOk y) :
    Calls Try.prog 19 #[.slice p n c, .slice q m d] w fun e w' => e = .returned (.bool (sameLi xs ys)) ∧ Below w.heap.size w w' := by
  have hg := lineGuard
  by_cases hnm : n = m
  · subst hnm
    have HN := Lib.hid hn; have HM := Lib.hid hm
    have hall := Lib.hid (sameLi_all xs ys (hn.trans hm.symm))
    have hhit := Lib.hid (sameLi_hit xs ys)
    generalize sameLi xs ys = res at *
    clear hn hm hl'
    go_enter Try.func19, Try.ntmps19
    go_wp2
    go_loopg [5] n (fun g vi wr => ∃ k : Nat, k + g = n ∧ vi = .int .i64 k ∧ Below w.heap.size w wr ∧ Hid (∀ (j : Nat) (h : j < xs.length) (h' : j < ys.length), j < k → oneLi xs[j] ys[j] = true))
    case atStart => exact ⟨0, by omega, rfl, Below.refl _ _, fun j _ _ h => absurd h (Nat.not_lt_zero _)⟩
    case round =>
      obtain ⟨k, hk, rfl, hbr, heq⟩ := hrel
      by_cases hlt : k < n
      · have hx : k < xs.length := by rw [HN.out]; exact hlt
        have hy : k < ys.length := by rw [HM.out]; exact hlt
        obtain ⟨b1, o1, rfl, _, h1c⟩ := hp.at k hx
        obtain ⟨b2, o2, rfl, _, h2c⟩ := hq.at k hy
        obtain ⟨g0, g1, g2, g3⟩ := h1c wr hbr
        obtain ⟨k0, k1, k2, k3⟩ := h2c wr hbr
        have hne := fun W => neqAny (hfx xs[k] (List.getElem_mem hx)) (hfy ys[k] (List.getElem_mem hy)) W
        have hres : Hid (oneLi xs[k] ys[k] = false → res = false) := fun e => hhit.out k hx hy e
        have hone : Hid (∀ b, oneLi xs[k] ys[k] = b → b = true → ∀ (j : Nat) (h : j < xs.length) (h' : j < ys.length), j < k + 1 → oneLi xs[j] ys[j] = true) := by
          intro b hb ht j h h' hj
          by_cases e : j = k
          · subst e; exact hb.trans ht
          · exact heq.out j h h' (by omega)
        generalize xs[k] = x at *
        generalize ys[k] = y at *
        generalize oneLi x y = b at *
        unfold Li.agg at hne
        have hk0 : (0 : Int) ≤ (k : Int) := by omega
        have hkI : (k : Int) < (n : Int) := by omega
        have HB := Lib.hid hbr
        clear h1c h2c hbr hall hhit heq hfx hfy hp hq
        cases b
        · have e := hres.out rfl
          subst e
          clear hres hone
          go_wp2_with fail
          go_quiet (fail)
          go_wp2
          go_ret
          exact ⟨rfl, belowDN HB.out _⟩
        · have HX := Lib.hid (hone.out true rfl rfl)
          clear hres hone
          go_wp2_with fail
          go_quiet (fail)
          go_wp2
          go_roundg (gk - 1)
          case rel => exact ⟨k + 1, by omega, by go_num, belowDN HB.out _, HX⟩
          case measure => omega
      · obtain rfl : k = n := by omega
        have e : res = true := hall.out fun j h h' => heq.out j h h' (by have := HN.out; omega)
        subst e
        clear hall hhit heq
        go_wp2_with fail
        go_ret
        exact ⟨rfl, hbr⟩
  · have e : sameLi xs ys = false := sameLi_len xs ys (by rw [hn, hm]; exact hnm)
    rw [e]
    have hb : ¬ ((n : Int) = (m : Int)) := by omega
    clear e hn hm
    go_enter Try.func19, Try.ntmps19
    go_wp2
    go_ret
    exact ⟨rfl, Below.refl _ _⟩
/-- What either Put answers. -/
def PutGives (w : World) (ys : List Li) (er : Nat) (e : Ending) (w' : World) : Prop := Below w.heap.size w w' ∧ ∃ p c, e = .returned (.tuple #[.slice p ys.length c, .int .i64 er]) ∧ LiRow w' p ys ∧ w'.ownsRow w.heap.size 26 4 (.slice p ys.length c) ys.length (liCells ys)
def putFit (a : Nat) (xs vs : List Li) : Bool := decide (vs.length = (xs.filter (seenB a)).length)
def putL (a : Nat) (xs vs : List Li) : List Li := if putFit a xs vs then putI (seenB a) xs vs else []
def putE (a : Nat) (xs vs : List Li) : Nat := if putFit a xs vs then 0 else 1
theorem putL_le (a : Nat) (xs vs : List Li) {n : Nat} (hn : xs.length = n) : (putL a xs vs).length ≤ n := by
  unfold putL; split
  · rw [putI_len, hn]; exact Nat.le_refl _
  · exact Nat.zero_le _
theorem putL_ok {a : Nat} {xs vs : List Li} (hx : ∀ x ∈ xs, LiOk x) (hv : ∀ x ∈ vs, LiOk x) : ∀ x ∈ putL a xs vs, LiOk x := fun x h => by
  unfold putL at h
  by_cases hf : putFit a xs vs = true
  · rw [if_pos hf] at h
    rcases putI_mem (of_decide_eq_true hf) x h with h | h
    · exact hx x h
    · exact hv x h
  · rw [if_neg hf] at h; cases h
theorem putE_le (a : Nat) (xs vs : List Li) : putE a xs vs ≤ 1 := by unfold putE; split <;> omega
theorem put_any (w : World) (p q : Option Addr) (n c m d : Nat) (xs vs : List Li) (hn : xs.length = n) (hnm : n ≤ 3518437208883) (hm : vs.length = m) (hr : LiRow w p xs) (hv : LiRow w q vs) (hnil : p = none → n = 0 ∧ c = 0) (hok : ∀ x ∈ xs, x.u < 18446744073709551616) (a : Nat) (ha : a < 18446744073709551616) :
    Calls Try.prog 28 #[.slice p n c, .int .u64 a, .slice q m d] w (PutGives w (putL a xs vs) (putE a xs vs)) := by
  unfold putL putE
  by_cases hf : putFit a xs vs = true
  · rw [if_pos hf, if_pos hf]
    refine (put_yes w p q n c m d xs vs hn hnm hm hr hv hnil hok a ha (of_decide_eq_true hf)).mono ?_
    rintro e w' ⟨hb, p1, c1, rfl, _, hg⟩
    obtain ⟨h1, h2⟩ := hg rfl
    exact ⟨hb, p1, c1, rfl, h1, h2⟩
  · rw [if_neg hf, if_neg hf]
    refine (put_no w p q n c m d xs vs hn hnm hm hr hok a ha (fun e => hf (decide_eq_true e))).mono ?_
    rintro e w' ⟨hb, p1, c1, rfl, hg, _⟩
    obtain ⟨rfl, rfl⟩ := hg rfl
    exact ⟨hb, none, 0, rfl, liRow_nil _ _, World.ownsRow_nil _ _ _ _⟩
theorem putI_step {f : Li → Bool} {xs vs : List Li} {k : Nat} (h : k < xs.length) : (putI f xs vs).take (k + 1) = (putI f xs vs).take k ++ [if f xs[k] then vs[rank f xs k]! else xs[k]] := by
  have h' : k < (putI f xs vs).length := by rw [putI_len]; exact h
  rw [List.take_succ_eq_append_getElem h', putI_at vs h]
theorem rank_le_k (f : Li → Bool) (xs : List Li) (k : Nat) : rank f xs k ≤ k := by
  unfold rank
  refine Nat.le_trans (List.length_filter_le _ _) ?_
  rw [List.length_take]; omega
set_option maxRecDepth 100000 in
set_option maxHeartbeats 4000000 in
theorem refPut_no (w : World) (p q : Option Addr) (n c m d : Nat) (xs vs : List Li) (hn : xs.length = n) (hnm : n ≤ 3518437208883) (hm : vs.length = m) (hr : LiRow w p xs) (hok : ∀ x ∈ xs, x.u < 18446744073709551616) (a : Nat) (ha : a < 18446744073709551616)
    (hne : vs.length ≠ (xs.filter (seenB a)).length) :
    Calls Try.prog 27 #[.slice p n c, .int .u64 a, .slice q m d] w (PutGives w [] 1) := by
  have cP := refPlaces_any w p n c xs hn hnm hr hok a ha
  have hpl := places_len (seenB a) xs
  have hle := filter_le xs (seenB a) (n := n) (by omega)
  rw [← hpl] at hne hle
  have hneI : ¬ (m : Int) = ((places (seenB a) xs).length : Int) := by omega
  clear hr hok hpl
  go_enter Try.func27, Try.ntmps27
  go_wp2_with fail
  refine cP.mono ?_
  rintro e w1 ⟨hb1, p1, c1, rfl, _, _⟩
  go_wp2_with fail
  go_ret2
  exact ⟨hb1, none, 0, rfl, liRow_nil _ _, World.ownsRow_nil _ _ _ _⟩
set_option maxRecDepth 100000 in
set_option maxHeartbeats 8000000 in
theorem refPut_yes (w : World) (p q : Option Addr) (n c m d : Nat) (xs vs : List Li) (hn : xs.length = n) (hnm : n ≤ 3518437208883) (hm : vs.length = m) (hr : LiRow w p xs) (hv : LiRow w q vs) (hok : ∀ x ∈ xs, x.u < 18446744073709551616) (a : Nat) (ha : a < 18446744073709551616)
    (he : vs.length = (xs.filter (seenB a)).length) :
    Calls Try.prog 27 #[.slice p n c, .int .u64 a, .slice q m d] w (PutGives w (putI (seenB a) xs vs) 0) := by
  obtain ⟨i0, hi, hz0, hz1, hz2⟩ := li_parts
  have cP := refPlaces_any w p n c xs hn hnm hr hok a ha
  have hpl := places_len (seenB a) xs
  have hle := filter_le xs (seenB a) (n := n) (by omega)
  rw [← hpl] at he hle
  have RK := Lib.hid (fun k (h : k < xs.length) => rank_step (f := seenB a) (xs := xs) (k := k) h)
  have RL := Lib.hid (fun k (h : k < xs.length) (hf : seenB a xs[k] = true) => rank_lt h hf)
  have RZ := Lib.hid (rank_zero (seenB a) xs)
  have RU := Lib.hid (rank_le_k (seenB a) xs)
  have PS := Lib.hid (fun k (h : k < xs.length) => putI_step (f := seenB a) (xs := xs) (vs := vs) (k := k) h)
  have PL := Lib.hid (putI_len (seenB a) xs vs)
  rw [← hpl] at RL
  generalize places (seenB a) xs = ps at *
  obtain rfl : m = ps.length := by omega
  have HN := Lib.hid hn
  have HM := Lib.hid hm
  have HV := Lib.hid hv
  have HR := Lib.hid hr
  have HK := Lib.hid hok
  clear hr hok hpl hn hm hv he
  generalize putI (seenB a) xs vs = T at *
  go_enter Try.func27, Try.ntmps27
  go_wp2_with fail
  refine cP.mono ?_
  rintro e w1 ⟨hb1, p1, c1, rfl, _, _⟩
  have HB1 := Lib.hid hb1
  clear hb1 cP
  obtain ⟨L, hL⟩ : ∃ L, ps.length = L := ⟨_, rfl⟩
  rw [hL] at hle RL HM ⊢
  clear hL
  go_wp2_with fail
  go_loopg [8, 9, 10] n (fun g u vk vi wr => ∃ k : Nat, k + g = n ∧ vi = .int .i64 k ∧ vk = .int .i64 (rank (seenB a) xs k : Nat) ∧ Below w.heap.size w wr ∧ Hid (wr.ownsRow w.heap.size 26 4 u k (liCells (T.take k))))
  case atStart => exact ⟨0, by omega, rfl, by rw [RZ.out]; rfl, HB1.out, by rw [List.take_zero]; exact World.ownsRow_nil _ _ _ _⟩
  case round =>
    obtain ⟨k, hk, rfl, rfl, hbr, HO⟩ := hrel
    have hsr := hbr.size
    by_cases hlt : k < n
    · have hlt' : k < xs.length := by rw [HN.out]; exact hlt
      obtain ⟨b1, o1, rfl, _, h1c⟩ := HR.out.at k hlt'
      obtain ⟨g0, g1, g2, g3⟩ := h1c wr hbr
      have hxu := HK.out _ (List.getElem_mem hlt')
      have hST := Lib.hid (PS.out k hlt')
      have hRK := Lib.hid (RK.out k hlt')
      have hRL := Lib.hid (RL.out k hlt')
      have hru := RU.out k
      have hk0 : (0 : Int) ≤ (k : Int) := by omega
      have hkI : (k : Int) < (n : Int) := by omega
      generalize xs[k] = x at *
      generalize T.take k = ys at *
      generalize rank (seenB a) xs k = r at *
      have hr0 : (0 : Int) ≤ (r : Int) := by omega
      have cS := fun W => refSeen_any a x W ha hxu
      unfold Li.agg at cS
      have HB := Lib.hid hbr
      clear h1c hbr
      cases hf : seenB a x with
      | false =>
        rw [hf] at cS
        have hST2 : Hid (T.take (k + 1) = ys ++ [x]) := by have := hST.out; rw [hf, if_neg (by simp)] at this; exact this
        have hR2 : Hid (rank (seenB a) xs (k + 1) = r) := by have := hRK.out; rw [hf, if_neg (by simp)] at this; exact this
        have HC := Lib.hid (Li.vals_one x)
        clear hST hRK hRL
        go_wp2_with (first
          | (go_at_call 24; refine (cS _).mono ?_; rintro e w2 ⟨rfl, hb2⟩; have ho' := row_later HO.out hb2; have hsz2 := hb2.size; have l0 := (hb2.cell (p := ⟨b1, o1 + k * 4, none⟩) (World.block_lt_of_cell? _ _ g0)).trans g0; have l1 := (hb2.cell (p := ⟨b1, o1 + k * 4 + 1, none⟩) (World.block_lt_of_cell? _ _ g1)).trans g1; have l2 := (hb2.cell (p := ⟨b1, o1 + k * 4 + 2, none⟩) (World.block_lt_of_cell? _ _ g2)).trans g2; have l3 := (hb2.cell (p := ⟨b1, o1 + k * 4 + 3, none⟩) (World.block_lt_of_cell? _ _ g3)).trans g3)
          | (at_builtin; refine wpList_append_own _ rfl _ _ 22 rfl w.heap.size 26 i0 (.agg #[.int .u64 0, .int .i64 0, .int .i64 0, .string ⟨#[]⟩]) 4 40 Try.underlying22 hi hz0 hz1 hz2 rfl (by decide) _ _ _ rfl (ho'.alloc _) ⟨w2.heap.size, 0, none⟩ 1 1 x.vals rfl rfl (cells_four w2 x _) HC.out (by unfold maxLen; omega) (by omega) (by simp; omega) ?_))
        intro u' w3 hown' hgrow _
        have hb3 : Below w.heap.size w w3 := ((HB.out.trans (hb2.mono hsr)).alloc (by omega) _).grown hgrow (by simp; omega) (fun g hg => (ho'.lt g hg).1)
        have HO2 : Hid (w3.ownsRow w.heap.size 26 4 u' (k + 1) (liCells (ys ++ [x]))) := by
          show w3.ownsRow _ _ _ _ _ _
          rw [liCells_snoc]; exact hown'
        clear ho' hown' hgrow cS hb2 l0 l1 l2 l3 HO
        go_wp2_with fail
        go_roundg (gk - 1)
        case rel => exact ⟨k + 1, by omega, by go_num, by rw [hR2.out], hb3, by rw [hST2.out]; exact HO2.out⟩
        case measure => omega
      | true =>
        rw [hf] at cS
        have hrl : r < L := hRL.out hf
        have hrv : r < vs.length := by rw [HM.out]; exact hrl
        have hST2 : Hid (T.take (k + 1) = ys ++ [vs[r]]) := by have := hST.out; rw [hf, if_pos rfl, getElem!_pos vs r hrv] at this; exact this
        have hR2 : Hid (rank (seenB a) xs (k + 1) = r + 1) := by have := hRK.out; rw [hf, if_pos rfl] at this; exact this
        obtain ⟨b2, o2, rfl, _, h2c⟩ := HV.out.at r hrv
        obtain ⟨y0, y1, y2, y3⟩ := h2c wr HB.out
        generalize vs[r] = y at *
        have HC := Lib.hid (Li.vals_one y)
        have hrI : (r : Int) < (L : Int) := by omega
        clear hST hRK hRL h2c
        go_wp2_with (first
          | (go_at_call 24; refine (cS _).mono ?_; rintro e w2 ⟨rfl, hb2⟩; have ho' := row_later HO.out hb2; have hsz2 := hb2.size; have l0 := (hb2.cell (p := ⟨b2, o2 + r * 4, none⟩) (World.block_lt_of_cell? _ _ y0)).trans y0; have l1 := (hb2.cell (p := ⟨b2, o2 + r * 4 + 1, none⟩) (World.block_lt_of_cell? _ _ y1)).trans y1; have l2 := (hb2.cell (p := ⟨b2, o2 + r * 4 + 2, none⟩) (World.block_lt_of_cell? _ _ y2)).trans y2; have l3 := (hb2.cell (p := ⟨b2, o2 + r * 4 + 3, none⟩) (World.block_lt_of_cell? _ _ y3)).trans y3)
          | (at_builtin; refine wpList_append_own _ rfl _ _ 22 rfl w.heap.size 26 i0 (.agg #[.int .u64 0, .int .i64 0, .int .i64 0, .string ⟨#[]⟩]) 4 40 Try.underlying22 hi hz0 hz1 hz2 rfl (by decide) _ _ _ rfl (ho'.alloc _) ⟨w2.heap.size, 0, none⟩ 1 1 y.vals rfl rfl (cells_four w2 y _) HC.out (by unfold maxLen; omega) (by omega) (by simp; omega) ?_))
        intro u' w3 hown' hgrow _
        have hb3 : Below w.heap.size w w3 := ((HB.out.trans (hb2.mono hsr)).alloc (by omega) _).grown hgrow (by simp; omega) (fun g hg => (ho'.lt g hg).1)
        have HO2 : Hid (w3.ownsRow w.heap.size 26 4 u' (k + 1) (liCells (ys ++ [y]))) := by
          show w3.ownsRow _ _ _ _ _ _
          rw [liCells_snoc]; exact hown'
        clear ho' hown' hgrow cS hb2 l0 l1 l2 l3 HO
        go_wp2_with fail
        go_roundg (gk - 1)
        case rel => exact ⟨k + 1, by omega, by go_num, by rw [hR2.out]; go_num, hb3, by rw [hST2.out]; exact HO2.out⟩
        case measure => omega
    · obtain rfl : k = n := by omega
      have hTl : T.length = k := by rw [PL.out, HN.out]
      have hall : T.take k = T := by rw [← hTl]; exact List.take_length
      have HO2 := Lib.hid HO.out
      rw [hall] at HO2
      have HB := Lib.hid hbr
      obtain ⟨p3, c3, rfl, hr3⟩ := li_owned hTl HO2.out
      have HR3 := Lib.hid hr3
      have HTL := Lib.hid hTl
      clear HO hbr hall hr3 hTl
      go_wp2_with fail
      go_ret2
      refine ⟨HB.out, p3, c3, by rw [HTL.out]; rfl, HR3.out, ?_⟩
      rw [HTL.out]; exact HO2.out
theorem refPut_any (w : World) (p q : Option Addr) (n c m d : Nat) (xs vs : List Li) (hn : xs.length = n) (hnm : n ≤ 3518437208883) (hm : vs.length = m) (hr : LiRow w p xs) (hv : LiRow w q vs) (hok : ∀ x ∈ xs, x.u < 18446744073709551616) (a : Nat) (ha : a < 18446744073709551616) :
    Calls Try.prog 27 #[.slice p n c, .int .u64 a, .slice q m d] w (PutGives w (putL a xs vs) (putE a xs vs)) := by
  unfold putL putE
  by_cases hf : putFit a xs vs = true
  · rw [if_pos hf, if_pos hf]
    exact refPut_yes w p q n c m d xs vs hn hnm hm hr hv hok a ha (of_decide_eq_true hf)
  · rw [if_neg hf, if_neg hf]
    exact refPut_no w p q n c m d xs vs hn hnm hm hr hok a ha (fun e => hf (decide_eq_true e))
end Go.Proofs.Ytdpikdkhemhmdaa
