/- ViewLess, by a walk over the contracts. -/
import Derived.Test.YtdpikdkhemhmdaaViAwake
import Derived.Test.YtdpikdkhemhmdaaLbBoth
namespace Go.Proofs.Ytdpikdkhemhmdaa
open Go Go.RowKit

theorem filter_ok {xs : List Li} {f : Li → Bool} (h : ∀ x ∈ xs, LiOk x) : ∀ x ∈ xs.filter f, LiOk x := fun x hx => h x (List.mem_filter.1 hx).1
theorem filter_u {xs : List Li} {f : Li → Bool} (h : ∀ x ∈ xs, x.u < 18446744073709551616) : ∀ x ∈ xs.filter f, x.u < 18446744073709551616 := fun x hx => h x (List.mem_filter.1 hx).1
theorem filter_le (xs : List Li) (f : Li → Bool) {n : Nat} (hn : xs.length ≤ n) : (xs.filter f).length ≤ n := Nat.le_trans (List.length_filter_le _ _) hn
set_option maxRecDepth 100000 in
set_option maxHeartbeats 8000000 in
theorem viewLess_any (w : World) (p : Option Addr) (n c : Nat) (xs : List Li) (a b : Nat) (hn : xs.length = n) (hnm : n ≤ 3518437208780) (hr : LiRow w p xs) (hf : ∀ x ∈ xs, LiOk x) (ha : a < 18446744073709551616) (hb : b < 18446744073709551616) :
    Calls Try.prog 8 #[.slice p n c, .int .u64 a, .int .u64 b] w fun e w' => e = .returned (.bool true) ∧ Below w.heap.size w w' := by
  have hu : ∀ x ∈ xs, x.u < 18446744073709551616 := fun x hx => (hf x hx).u
  have cA := awake_any w
  have c2 := fun W => refBoth_any a b 2 W ha hb (.inr (.inl rfl))
  have c1 := fun W => refBoth_any a b 1 W ha hb (.inl rfl)
  rw [both_and a b ha] at c2
  rw [both_or a b ha hb] at c1
  have hab : a &&& b < 18446744073709551616 := Nat.lt_of_le_of_lt Nat.and_le_left ha
  have hob : a ||| b < 18446744073709551616 := Nat.or_lt_two_pow (n := 64) ha hb
  have COf := Lib.hid (fun (W : World) (hW : Below w.heap.size w W) (d : Nat) (hd : d < 18446744073709551616) => of_any W p n c xs hn (by omega) (hr.later hW) hu d hd)
  have CHi := Lib.hid (fun (W : World) (hW : Below w.heap.size w W) => hidden_any W p n c xs hn (by omega) (hr.later hW) hu a ha)
  have CSub := Lib.hid (fun (f : Li → Bool) (W : World) (q : Option Addr) (k : Nat) (hq : LiRow W q (xs.filter f)) (d : Nat) (hd : d < 18446744073709551616) => of_any W q (xs.filter f).length k (xs.filter f) rfl (filter_le xs f (by omega)) hq (filter_u hu) d hd)
  have CEq := Lib.hid (fun (f : Li → Bool) (W : World) (q q' : Option Addr) (k k' : Nat) (hq : LiRow W q (xs.filter f)) (hq' : LiRow W q' (xs.filter f)) => refLines_any W q q' (xs.filter f).length k k' (xs.filter f) rfl (filter_le xs f (by omega)) hq hq' (filter_ok hf))
  have E1 := Lib.hid (view_both xs a b)
  have E2 := Lib.hid (view_both xs b a)
  have E3 := Lib.hid (view_wide xs a b)
  rw [Nat.and_comm b a] at E2
  have HN := Lib.hid hn
  have HR := Lib.hid hr
  have HF := Lib.hid hf
  clear hn hr hf hu
  go_enter Try.func8, Try.ntmps8
  go_wp2_with fail
  refine cA.mono ?_
  rintro e w1 ⟨rfl, hb1⟩
  clear cA
  go_wp2_with fail
  refine (c2 _).mono ?_
  rintro e w2 ⟨rfl, hb2⟩
  have HB2 := Lib.hid (hb1.trans (hb2.mono hb1.size))
  clear c2 hb1 hb2
  go_wp2_with fail
  refine (COf.out _ HB2.out a ha).mono ?_
  rintro e w3 ⟨hb3, p3, k3, rfl, hr3, _⟩
  have HB3 := Lib.hid (HB2.out.trans (hb3.mono HB2.out.size))
  have CS3 := CSub.out _ w3 p3 k3 hr3 b hb
  rw [E1.out] at CS3
  clear hb3 HB2 hr3
  go_wp2_with fail
  refine CS3.mono ?_
  rintro e w4 ⟨hb4, p4, k4, rfl, hr4, _⟩
  have HB4 := Lib.hid (HB3.out.trans (hb4.mono HB3.out.size))
  have HR4 := Lib.hid hr4
  clear hb4 HB3 hr4 CS3
  go_wp2_with fail
  refine (COf.out _ HB4.out (a &&& b) hab).mono ?_
  rintro e w5 ⟨hb5, p5, k5, rfl, hr5, _⟩
  have HB5 := Lib.hid (HB4.out.trans (hb5.mono HB4.out.size))
  have HR5 := Lib.hid (HR4.out.later hb5)
  have CE5 := CEq.out _ w5 p4 p5 k4 k5 HR5.out hr5
  clear hb5 HB4 hr5 HR4
  go_wp2_with fail
  refine CE5.mono ?_
  rintro e w6 ⟨rfl, hb6⟩
  have HB6 := Lib.hid (HB5.out.trans (hb6.mono HB5.out.size))
  have HR6 := Lib.hid (HR5.out.later hb6)
  clear hb6 HB5 CE5 HR5
  go_wp2_with fail
  refine (COf.out _ HB6.out b hb).mono ?_
  rintro e w7 ⟨hb7, p7, k7, rfl, hr7, _⟩
  have HB7 := Lib.hid (HB6.out.trans (hb7.mono HB6.out.size))
  have HR7 := Lib.hid (HR6.out.later hb7)
  have CS7 := CSub.out _ w7 p7 k7 hr7 a ha
  rw [E2.out] at CS7
  clear hb7 HB6 hr7 HR6
  go_wp2_with fail
  refine CS7.mono ?_
  rintro e w8 ⟨hb8, p8, k8, rfl, hr8, _⟩
  have HB8 := Lib.hid (HB7.out.trans (hb8.mono HB7.out.size))
  have CE8 := CEq.out _ w8 p4 p8 k4 k8 (HR7.out.later hb8) hr8
  clear hb8 HB7 hr8 HR7 CS7
  go_wp2_with fail
  refine CE8.mono ?_
  rintro e w9 ⟨rfl, hb9⟩
  have HB9 := Lib.hid (HB8.out.trans (hb9.mono HB8.out.size))
  clear hb9 HB8 CE8
  go_wp2_with fail
  refine (c1 _).mono ?_
  rintro e w10 ⟨rfl, hb10⟩
  have HB10 := Lib.hid (HB9.out.trans (hb10.mono HB9.out.size))
  clear c1 hb10 HB9
  go_wp2_with fail
  refine (COf.out _ HB10.out (a ||| b) hob).mono ?_
  rintro e w11 ⟨hb11, p11, k11, rfl, hr11, _⟩
  have HB11 := Lib.hid (HB10.out.trans (hb11.mono HB10.out.size))
  have CS11 := CSub.out _ w11 p11 k11 hr11 a ha
  rw [E3.out] at CS11
  clear hb11 HB10 hr11
  go_wp2_with fail
  refine CS11.mono ?_
  rintro e w12 ⟨hb12, p12, k12, rfl, hr12, _⟩
  have HB12 := Lib.hid (HB11.out.trans (hb12.mono HB11.out.size))
  have HR12 := Lib.hid hr12
  clear hb12 HB11 hr12 CS11
  go_wp2_with fail
  refine (COf.out _ HB12.out a ha).mono ?_
  rintro e w13 ⟨hb13, p13, k13, rfl, hr13, _⟩
  have HB13 := Lib.hid (HB12.out.trans (hb13.mono HB12.out.size))
  have CE13 := CEq.out _ w13 p12 p13 k12 k13 (HR12.out.later hb13) hr13
  clear hb13 HB12 hr13 HR12
  go_wp2_with fail
  refine CE13.mono ?_
  rintro e w14 ⟨rfl, hb14⟩
  have HB14 := Lib.hid (HB13.out.trans (hb14.mono HB13.out.size))
  clear hb14 HB13 CE13 CEq CSub
  go_wp2_with fail
  refine (COf.out _ HB14.out a ha).mono ?_
  rintro e w15 ⟨hb15, p15, k15, rfl, hr15, _⟩
  have HB15 := Lib.hid (HB14.out.trans (hb15.mono HB14.out.size))
  have HR15 := Lib.hid hr15
  clear hb15 HB14 hr15
  go_wp2_with fail
  refine (CHi.out _ HB15.out).mono ?_
  rintro e w16 ⟨hb16, p16, k16, rfl, hr16, _⟩
  have HB16 := Lib.hid (HB15.out.trans (hb16.mono HB15.out.size))
  have HS := Lib.hid (HR15.out.later hb16)
  have HH := Lib.hid hr16
  clear hb16 HB15 hr16 HR15 COf CHi
  have HL1 : (xs.filter (seenB a)).length ≤ n := filter_le xs _ (by rw [HN.out]; exact Nat.le_refl _)
  have HL2 : (xs.filter (fun x => !seenB a x)).length ≤ n := filter_le xs _ (by rw [HN.out]; exact Nat.le_refl _)
  have Q1 := Lib.hid (fun m h hf => filter_at (f := seenB a) (xs := xs) (m := m) h hf)
  have Q2 := Lib.hid (fun m h hf => filter_at (f := fun x => !seenB a x) (xs := xs) (m := m) h hf)
  have S1 := Lib.hid (fun m h => rank_step (f := seenB a) (xs := xs) (k := m) h)
  have S2 := Lib.hid (fun m h => rank_step (f := fun x => !seenB a x) (xs := xs) (k := m) h)
  have A1 := Lib.hid (rank_all (seenB a) xs (k := n) (by rw [HN.out]; exact Nat.le_refl _))
  have A2 := Lib.hid (rank_all (fun x => !seenB a x) xs (k := n) (by rw [HN.out]; exact Nat.le_refl _))
  have R1 := Lib.hid (rank_le (seenB a) xs)
  have Z1 := Lib.hid (rank_zero (seenB a) xs)
  have Z2 := Lib.hid (rank_zero (fun x => !seenB a x) xs)
  obtain ⟨L1, hL1⟩ : ∃ L1, (xs.filter (seenB a)).length = L1 := ⟨_, rfl⟩
  obtain ⟨L2, hL2⟩ : ∃ L2, (xs.filter (fun x => !seenB a x)).length = L2 := ⟨_, rfl⟩
  have hg := lineGuard
  rw [hL1] at HL1 A1 ⊢
  rw [hL2] at HL2 A2 ⊢
  have E1 := Lib.hid hL1
  have E2 := Lib.hid hL2
  clear hL1 hL2
  go_wp2_with fail
  go_loopg [14, 15, 16] n (fun g vi vk vn wr => ∃ m : Nat, m + g = n ∧ vi = .int .i64 (rank (seenB a) xs m) ∧ vk = .int .i64 (rank (fun x => !seenB a x) xs m) ∧ vn = .int .i64 m ∧ Below w16.heap.size w16 wr)
  case atStart => exact ⟨0, by omega, by rw [Z1.out]; rfl, by rw [Z2.out]; rfl, rfl, Below.refl _ _⟩
  case round =>
    obtain ⟨m, hm, rfl, rfl, rfl, hbr⟩ := hrel
    have hbw := HB16.out.trans (hbr.mono HB16.out.size)
    by_cases hlt : m < n
    · have hlt' : m < xs.length := by rw [HN.out]; exact hlt
      obtain ⟨b1, o1, rfl, _, h1c⟩ := HR.out.at m hlt'
      obtain ⟨g0, g1, g2, g3⟩ := h1c wr hbw
      have hox := HF.out _ (List.getElem_mem hlt')
      have q1 := Lib.hid (Q1.out m hlt')
      have q2 := Lib.hid (Q2.out m hlt')
      have s1 := Lib.hid (S1.out m hlt')
      have s2 := Lib.hid (S2.out m hlt')
      have hk0 : (0 : Int) ≤ (m : Int) := by omega
      have hkI : (m : Int) < (n : Int) := by omega
      have r1 := R1.out m
      rw [E1.out] at r1
      generalize xs[m] = x at *
      obtain ⟨ra, hra⟩ : ∃ ra, rank (seenB a) xs m = ra := ⟨_, rfl⟩
      obtain ⟨rb, hrb⟩ : ∃ rb, rank (fun x => !seenB a x) xs m = rb := ⟨_, rfl⟩
      rw [hra] at r1 ⊢
      rw [hrb]
      have cS := fun W => seen_any a x W ha hox.u
      have hne := fun W => neqLine hox W
      unfold Li.agg at cS hne
      have HB := Lib.hid hbr
      have HC := Lib.hid h1c
      clear h1c hbr
      cases hfx : seenB a x with
      | true =>
        rw [hfx] at cS
        obtain ⟨hl, hx⟩ := q1.out hfx
        obtain ⟨b2, o2, rfl, _, h2c⟩ := HS.out.at _ hl
        rw [hx, hra] at h2c
        rw [hra, E1.out] at hl
        have hli : (ra : Int) < (L1 : Int) := by omega
        have ra0 : (0 : Int) ≤ (ra : Int) := by omega
        have s1' : Hid (rank (seenB a) xs (m + 1) = ra + 1) := by have := s1.out; rw [hfx, if_pos rfl, hra] at this; exact this
        have s2' : Hid (rank (fun x => !seenB a x) xs (m + 1) = rb) := by have := s2.out; simp only [hfx, Bool.not_true] at this; rw [if_neg (by simp), hrb, Nat.add_zero] at this; exact this
        have H2 := Lib.hid h2c
        clear h2c hx q1 q2 s1 s2 hra hrb
        go_wp2_with (first
          | (go_at_call 23; refine (cS _).mono ?_; rintro e v1 ⟨rfl, hv1⟩; have hbv := HB.out.trans (hv1.mono HB.out.size); obtain ⟨x0, x1, x2, x3⟩ := H2.out v1 hbv; obtain ⟨y0, y1, y2, y3⟩ := HC.out v1 (HB16.out.trans (hbv.mono HB16.out.size))))
        go_quiet (fail)
        go_wp2
        go_roundg (gk - 1)
        case rel => exact ⟨m + 1, by omega, by rw [s1'.out]; go_num, by rw [s2'.out], by go_num, belowDN hbv _⟩
        case measure => omega
      | false =>
        rw [hfx] at cS
        obtain ⟨hl, hx⟩ := q2.out (by rw [hfx]; rfl)
        obtain ⟨b2, o2, rfl, _, h2c⟩ := HH.out.at _ hl
        rw [hx, hrb] at h2c
        rw [hrb, E2.out] at hl
        have hli : (rb : Int) < (L2 : Int) := by omega
        have rb0 : (0 : Int) ≤ (rb : Int) := by omega
        have s1' : Hid (rank (seenB a) xs (m + 1) = ra) := by have := s1.out; rw [hfx, if_neg (by simp), hra, Nat.add_zero] at this; exact this
        have s2' : Hid (rank (fun x => !seenB a x) xs (m + 1) = rb + 1) := by have := s2.out; simp only [hfx, Bool.not_false] at this; rw [if_pos trivial, hrb] at this; exact this
        have H2 := Lib.hid h2c
        clear h2c hx q1 q2 s1 s2 hra hrb
        by_cases hia : ra < L1
        · have hiaI : (ra : Int) < (L1 : Int) := by omega
          go_wp2_with (first
            | (go_at_call 23; refine (cS _).mono ?_; rintro e v1 ⟨rfl, hv1⟩; have hbv := HB.out.trans (hv1.mono HB.out.size); obtain ⟨x0, x1, x2, x3⟩ := H2.out v1 hbv; obtain ⟨y0, y1, y2, y3⟩ := HC.out v1 (HB16.out.trans (hbv.mono HB16.out.size))))
          go_quiet (fail)
          go_wp2
          go_roundg (gk - 1)
          case rel => exact ⟨m + 1, by omega, by rw [s1'.out], by rw [s2'.out]; go_num, by go_num, belowDN hbv _⟩
          case measure => omega
        · have hiaI : ¬ (ra : Int) < (L1 : Int) := by omega
          have hbv := HB.out
          obtain ⟨x0, x1, x2, x3⟩ := H2.out wr hbv
          go_wp2_with fail
          go_quiet (fail)
          go_wp2
          go_roundg (gk - 1)
          case rel => exact ⟨m + 1, by omega, by rw [s1'.out], by rw [s2'.out]; go_num, by go_num, belowDN hbv _⟩
          case measure => omega
    · obtain rfl : m = n := by omega
      have a1 := A1.out
      have a2 := A2.out
      rw [a1, a2]
      have HB := Lib.hid hbw
      clear hbr hbw
      go_wp2_with fail
      go_ret
      exact ⟨rfl, HB.out⟩
end Go.Proofs.Ytdpikdkhemhmdaa
