/- view.Alike: by contract. -/
import Derived.Test.YtdpikdkhemhmdaaViId
namespace Go.Proofs.Ytdpikdkhemhmdaa
open Go Go.RowKit

theorem two_li (w : World) (x y : Li) : LiAt ((w.alloc (.cells #[.int .u64 x.u, .int .i64 x.n, .int .i64 x.r, .string x.s] 26)).alloc (.cells #[.int .u64 y.u, .int .i64 y.n, .int .i64 y.r, .string y.s] 26)) w.heap.size 0 x ∧ LiAt ((w.alloc (.cells #[.int .u64 x.u, .int .i64 x.n, .int .i64 x.r, .string x.s] 26)).alloc (.cells #[.int .u64 y.u, .int .i64 y.n, .int .i64 y.r, .string y.s] 26)) (w.heap.size + 1) 0 y ∧ Below w.heap.size w ((w.alloc (.cells #[.int .u64 x.u, .int .i64 x.n, .int .i64 x.r, .string x.s] 26)).alloc (.cells #[.int .u64 y.u, .int .i64 y.n, .int .i64 y.r, .string y.s] 26)) ∧ ((w.alloc (.cells #[.int .u64 x.u, .int .i64 x.n, .int .i64 x.r, .string x.s] 26)).alloc (.cells #[.int .u64 y.u, .int .i64 y.n, .int .i64 y.r, .string y.s] 26)).heap.size = w.heap.size + 2 := by
  refine ⟨four_cells (T := 26) ?_, four_cells (T := 26) ?_, ((Below.refl _ w).alloc (Nat.le_refl _) _).alloc (by simp) _, by simp⟩
  · exact (Below.heap_alloc (w.alloc (.cells #[.int .u64 x.u, .int .i64 x.n, .int .i64 x.r, .string x.s] 26)) _ _ (by simp)).trans (World.alloc_heap_new w _)
  · have := World.alloc_heap_new (w.alloc (.cells #[.int .u64 x.u, .int .i64 x.n, .int .i64 x.r, .string x.s] 26)) (.cells #[.int .u64 y.u, .int .i64 y.n, .int .i64 y.r, .string y.s] 26)
    rw [World.size_alloc] at this
    exact this
set_option maxRecDepth 100000 in
set_option maxHeartbeats 4000000 in
theorem alike1_any (x y : Li) (w : World) (hx : LiOk x) (hy : LiOk y) : Calls Try.prog 59 #[x.agg, y.agg] w fun e w' => e = .returned (.bool (oneLi x y)) ∧ Below w.heap.size w w' := by
  have cS := fun W => idSame_any x y W hx hy
  have M := Lib.hid (two_li w x y)
  unfold oneLi
  generalize idB x y = b at *
  unfold Li.agg at *
  clear hx hy
  go_enter Try.func59, Try.ntmps59
  go_wp2_with fail
  refine (cS _).mono ?_
  rintro e w2 ⟨rfl, hb2⟩
  obtain ⟨m1, m2, hb0, hsz⟩ := M.out
  obtain ⟨_, _, a2, a3⟩ := m1.below hb2 (by rw [hsz]; omega)
  obtain ⟨_, _, b2, b3⟩ := m2.below hb2 (by rw [hsz]; omega)
  have HB2 := Lib.hid (hb0.trans (hb2.mono (by rw [hsz]; omega)))
  simp only [Nat.zero_add] at a2 a3 b2 b3
  clear cS hb2 M m1 m2 hb0 hsz
  cases b with
  | false =>
    go_wp2_with fail
    go_ret
    exact ⟨rfl, HB2.out⟩
  | true =>
    by_cases hr : x.r = y.r
    · rw [hr] at a2
      go_wp2_with fail
      go_ret
      refine ⟨?_, HB2.out⟩
      simp [hr]
    · have hb : (x.r == y.r) = false := beq_false_of_ne hr
      go_wp2_with fail
      go_ret
      refine ⟨?_, HB2.out⟩
      simp [hb]
set_option maxRecDepth 100000 in
set_option maxHeartbeats 4000000 in
theorem equalFunc_any (w : World) (p q : Option Addr) (n m c d : Nat) (xs ys : List Li) (hp : LiRow w p xs) (hq : LiRow w q ys) (hn : xs.length = n) (hm : ys.length = m) (hl : n ≤ 3518437208883) (hfx : ∀ x ∈ xs, LiOk x) (hfy : ∀ y ∈ ys, LiOk y) :
    Calls Try.prog 58 #[.slice p n c, .slice q m d, .func (.func 59) #[] #[]] w fun e w' => e = .returned (.bool (sameLi xs ys)) ∧ Below w.heap.size w w' := by
  by_cases hnm : n = m
  · subst hnm
    have HN := Lib.hid hn; have HM := Lib.hid hm
    have hall := Lib.hid (sameLi_all xs ys (hn.trans hm.symm))
    have hhit := Lib.hid (sameLi_hit xs ys)
    generalize sameLi xs ys = res at *
    clear hn hm
    go_enter Try.func58, Try.ntmps58
    go_wp2_with fail
    go_loopw [17] (fun i wr => ∃ k : Nat, k ≤ n ∧ i = .int .i64 k ∧ Below w.heap.size w wr ∧ Hid (∀ (j : Nat) (h : j < xs.length) (h' : j < ys.length), j < k → oneLi xs[j] ys[j] = true)) (fun i _ => n - (intOf i).toNat)
    case atStart => exact ⟨0, by omega, rfl, Below.refl _ _, fun j _ _ h => absurd h (Nat.not_lt_zero _)⟩
    case round =>
      obtain ⟨k, hk, rfl, hbr, heq⟩ := hrel
      by_cases hlt : k < n
      · have hx : k < xs.length := by rw [HN.out]; exact hlt
        have hy : k < ys.length := by rw [HM.out]; exact hlt
        obtain ⟨b1, o1, rfl, l1, h1c⟩ := hp.at k hx
        obtain ⟨b2, o2, rfl, l2, h2c⟩ := hq.at k hy
        have g1 := h1c wr hbr
        have hsz := hbr.size
        have g2 := h2c _ (hbr.alloc hsz (.cells #[.int .u64 xs[k].u, .int .i64 xs[k].n, .int .i64 xs[k].r, .string xs[k].s] 26))
        have c1 := fun W => alike1_any xs[k] ys[k] W (hfx _ (List.getElem_mem hx)) (hfy _ (List.getElem_mem hy))
        have hres : Hid (oneLi xs[k] ys[k] = false → res = false) := fun e => hhit.out k hx hy e
        have hone : Hid (∀ b, oneLi xs[k] ys[k] = b → b = true → ∀ (j : Nat) (h : j < xs.length) (h' : j < ys.length), j < k + 1 → oneLi xs[j] ys[j] = true) := by
          intro b hb ht j h h' hj
          by_cases e : j = k
          · subst e; exact hb.trans ht
          · exact heq.out j h h' (by omega)
        generalize xs[k] = x at *
        generalize ys[k] = y at *
        generalize oneLi x y = b at *
        unfold Li.agg at c1
        have hk0 : (0 : Int) ≤ (k : Int) := Int.natCast_nonneg _
        have hkm : (k : Int) < (n : Int) := by omega
        clear h1c h2c hall hhit heq hfx hfy
        unfold LiAt at g1 g2
        obtain ⟨s1, s2, s3, s4⟩ := g1
        obtain ⟨t1, t2, t3, t4⟩ := g2
        cases b
        · have e := hres.out rfl
          subst e
          clear hres hone
          go_wp2_with fail
          refine (c1 _).mono ?_
          rintro e w1 ⟨rfl, hb1⟩
          have hb2 := ((hbr.alloc hsz _).alloc (by simp; omega) _).trans (hb1.mono (by simp; omega))
          clear hb1 s1 s2 s3 s4 t1 t2 t3 t4
          go_wp2_with fail
          go_ret
          exact ⟨rfl, hb2⟩
        · have hnext := hone.out true rfl rfl
          have HX := Lib.hid hnext
          clear hres hone hnext
          go_wp2_with fail
          refine (c1 _).mono ?_
          rintro e w1 ⟨rfl, hb1⟩
          have hb2 := ((hbr.alloc hsz _).alloc (by simp; omega) _).trans (hb1.mono (by simp; omega))
          clear hb1 s1 s2 s3 s4 t1 t2 t3 t4
          go_wp2_with fail
          go_roundw
          case rel => exact ⟨k + 1, by omega, by go_num, hb2, HX⟩
          case measure => simp [intOf]; omega
      · obtain rfl : n = k := by omega
        have e : res = true := hall.out fun j h h' => heq.out j h h' (by have := HN.out; omega)
        subst e
        clear hall hhit heq
        go_wp2_with fail
        go_ret
        exact ⟨rfl, hbr⟩
  · have e : sameLi xs ys = false := sameLi_len xs ys (by rw [hn, hm]; exact hnm)
    rw [e]
    have hb : ((n : Int) != (m : Int)) = true := by rw [bne, beq_false_of_ne (by omega)]; rfl
    clear e hn hm
    go_enter Try.func58, Try.ntmps58
    go_wp2
    go_ret
    exact ⟨rfl, Below.refl _ _⟩

theorem alike_any (w : World) (p q : Option Addr) (n m c d : Nat) (xs ys : List Li) (a : Nat) (hn : xs.length = n) (hm : ys.length = m) (hnm : n ≤ 3518437208883) (hmm : m ≤ 3518437208883) (hp : LiRow w p xs) (hq : LiRow w q ys) (hfx : ∀ x ∈ xs, LiOk x) (hfy : ∀ y ∈ ys, LiOk y) (ha : a < 18446744073709551616) :
    Calls Try.prog 32 #[.slice p n c, .slice q m d, .int .u64 a] w fun e w' => e = .returned (.bool (sameLi (xs.filter (seenB a)) (ys.filter (seenB a)))) ∧ Below w.heap.size w w' := by
  have c1 := of_any w p n c xs hn hnm hp (fun x hx => (hfx x hx).u) a ha
  have c2 := fun W (hW : Below w.heap.size w W) => of_any W q m d ys hm hmm (hq.later hW) (fun x hx => (hfy x hx).u) a ha
  have c3 := fun W p1 k1 p2 k2 (h1 : LiRow W p1 (xs.filter (seenB a))) (h2 : LiRow W p2 (ys.filter (seenB a))) => equalFunc_any W p1 p2 _ _ k1 k2 _ _ h1 h2 rfl rfl (filter_le xs (seenB a) (by omega)) (filter_ok hfx) (filter_ok hfy)
  have C2 := Lib.hid c2
  have C3 := Lib.hid c3
  clear hn hm hp hq hfx hfy c2 c3
  go_enter Try.func32, Try.ntmps32
  go_wp2_with fail
  refine c1.mono ?_
  rintro e w1 ⟨hb1, p1, k1, rfl, hr1, _⟩
  have d2 := C2.out w1 hb1
  have HB1 := Lib.hid hb1
  have HR1 := Lib.hid hr1
  clear c1 hb1 hr1 C2
  go_wp2_with fail
  refine d2.mono ?_
  rintro e w2 ⟨hb2, p2, k2, rfl, hr2, _⟩
  have d3 := C3.out w2 p1 k1 p2 k2 (HR1.out.later hb2) hr2
  have HB2 := Lib.hid (HB1.out.trans (hb2.mono HB1.out.size))
  clear d2 hb2 hr2 C3 HB1 HR1
  go_wp2_with fail
  refine d3.mono ?_
  rintro e w3 ⟨rfl, hb3⟩
  have HB3 := Lib.hid (HB2.out.trans (hb3.mono HB2.out.size))
  clear d3 hb3 HB2
  go_wp2_with fail
  go_ret
  exact ⟨rfl, HB3.out⟩
end Go.Proofs.Ytdpikdkhemhmdaa
