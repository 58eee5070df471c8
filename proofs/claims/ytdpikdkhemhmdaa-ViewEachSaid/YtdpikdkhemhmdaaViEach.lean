/- view.Each and its iterator: by contracts. -/
import Derived.Test.YtdpikdkhemhmdaaViPutC
namespace Go.Proofs.Ytdpikdkhemhmdaa
open Go Go.RowKit Go.Shelf

attribute [local go_sem] Oper.semAt_some

/-- What Each hands out: a function over two rows of its own. -/
def EachSays (w : World) (f : Li → Bool) (xs : List Li) (e : Ending) (w' : World) : Prop := Below w.heap.size w w' ∧ ∃ b5 b6 p5 k5 p6 k6, e = .returned (.func (.func 52) #[] #[.pointer (some ⟨b5, 0, none⟩), .pointer (some ⟨b6, 0, none⟩)]) ∧
  w.heap.size ≤ b5 ∧ w.heap.size ≤ b6 ∧ Boxed w' b5 28 (.slice p5 (places f xs).length k5) ∧ Boxed w' b6 22 (.slice p6 (xs.filter f).length k6) ∧
  w'.ownsRow w.heap.size 3 1 (.slice p5 (places f xs).length k5) (places f xs).length (nums .i64 (places f xs)) ∧ w'.ownsRow w.heap.size 26 4 (.slice p6 (xs.filter f).length k6) (xs.filter f).length (liCells (xs.filter f))
theorem each_any (w : World) (p : Option Addr) (n c : Nat) (xs : List Li) (hn : xs.length = n) (hnm : n ≤ 3518437208883) (hr : LiRow w p xs) (hok : ∀ x ∈ xs, x.u < 18446744073709551616) (a : Nat) (ha : a < 18446744073709551616) :
    Calls Try.prog 26 #[.slice p n c, .int .u64 a] w (EachSays w (seenB a) xs) := by
  have cP := places_any w p n c xs hn hnm hr hok a ha
  have cO := Lib.hid (fun (W : World) (hW : Below w.heap.size w W) => of_any W p n c xs hn hnm (hr.later hW) hok a ha)
  clear hn hr hok
  go_enter Try.func26, Try.ntmps26
  go_wp2_with fail
  refine cP.mono ?_
  rintro e w1 ⟨hb1, p1, k1, rfl, _, ho1⟩
  have cO1 := cO.out w1 hb1
  have HB1 := Lib.hid hb1
  have HO1 := Lib.hid ho1
  clear cP hb1 ho1 cO
  go_wp2_with fail
  refine cO1.mono ?_
  rintro e w2 ⟨hb2, p2, k2, rfl, _, ho2⟩
  have HB2 := Lib.hid (HB1.out.trans (hb2.mono HB1.out.size))
  have HO12 := Lib.hid (row_later HO1.out hb2)
  have HO2 := Lib.hid (base_le ho2 HB1.out.size)
  clear cO1 hb2 ho2 HO1
  go_wp2_with fail
  go_ret
  have hs2 := HB2.out.size
  have q := Boxed.new (w2.alloc (.cells #[.slice p1 (places (seenB a) xs).length k1] 28)) 22 (.slice p2 (xs.filter (seenB a)).length k2)
  rw [World.size_alloc] at q
  exact ⟨(HB2.out.alloc hs2 _).alloc (by simp; omega) _, _, _, p1, k1, p2, k2, rfl, hs2, by omega, (Boxed.new _ _ _).alloc _, q, (HO12.out.alloc _).alloc _, (HO2.out.alloc _).alloc _⟩
theorem fin_step {m k : Nat} (h : k < m) : (List.finRange m).take (k + 1) = (List.finRange m).take k ++ [⟨k, h⟩] := by
  rw [List.take_succ_eq_append_getElem (by simpa using h)]
  simp
/-- What is yielded: by its number. -/
def encK (ps : List Int) (vs : List Li) (k : Nat) : Array Value := #[.int .i64 (ps[k]?.getD 0), (vs[k]?.getD default).agg]
set_option maxRecDepth 100000 in
set_option maxHeartbeats 4000000 in
theorem each1_in (fu : Nat) (hfu : 1 ≤ fu) (l b5 b6 : Nat) (p5 p6 : Option Addr) (m k5 k6 : Nat) (ps : List Int) (vs : List Li) (hm5 : ps.length = m) (hm6 : vs.length = m) (hmm : m ≤ 3518437208883) (B : Nat) (w0 : World) (J Jx : List (Fin m) → World → Prop)
    (hY : ∀ pre (y : Fin m) W, J pre W → pre.length < m → YieldAt Fence.wide (fu - 1) Try.prog l (encK ps vs y.1) W fun e W' => (e = .returned (.bool true) ∧ J (pre ++ [y]) W' ∧ KeepX B w0.heap.size W W') ∨ (e = .returned (.bool false) ∧ Jx (pre ++ [y]) W'))
    (W : World) (hb5 : w0.cell? ⟨b5, 0, none⟩ = some (.slice p5 m k5)) (h5 : b5 < w0.heap.size ∧ b5 ≠ B) (hb6 : w0.cell? ⟨b6, 0, none⟩ = some (.slice p6 m k6)) (h6 : b6 < w0.heap.size ∧ b6 ≠ B) (hW0 : KeepX B w0.heap.size w0 W)
    (ha5 : ∀ i (h : i < ps.length), ∃ b off, p5 = some ⟨b, off, none⟩ ∧ b < w0.heap.size ∧ b ≠ B ∧ w0.cell? ⟨b, off + i, none⟩ = some (.int .i64 ps[i]))
    (ha6 : ∀ i (h : i < vs.length), ∃ b off, p6 = some ⟨b, off, none⟩ ∧ b < w0.heap.size ∧ b ≠ B ∧ LiAt w0 b (off + i * 4) vs[i]) (h0 : J [] W) :
    CallsIn Fence.wide fu Try.prog 52 #[.func (.yield l) #[] #[], .pointer (some ⟨b5, 0, none⟩), .pointer (some ⟨b6, 0, none⟩)] W fun e W' => (∃ v, e = .returned v) ∧
      ((∃ ys, ys = List.finRange m ∧ J ys W') ∨ (∃ pre, pre <+: List.finRange m ∧ Jx pre W')) := by
  refine callsIn_of_wp Try.func52 rfl trivial ?_ rfl
  simp only [Try.ntmps52, List.size_toArray, List.length_cons, List.length_nil, Nat.reduceAdd, Nat.reduceSub, Array.replicate_succ, Array.replicate_zero, List.push_toArray, List.append_toArray, List.nil_append, List.cons_append]
  have k1 := (hW0.cell (p := ⟨b5, 0, none⟩) h5.1 h5.2).trans hb5
  have HM5 := Lib.hid hm5
  have HM6 := Lib.hid hm6
  have HY := Lib.hid hY
  have HA5 := Lib.hid ha5
  have HA6 := Lib.hid ha6
  have HB6 := Lib.hid hb6
  have H0 := Lib.hid h0
  have HK0 := Lib.hid hW0
  have HFS := Lib.hid (fun k (h : k < m) => fin_step h)
  have HFL : Hid ((List.finRange m).length = m) := List.length_finRange ..
  clear hm5 hm6 hY ha5 ha6 hb6 h0 hW0 hb5 h5
  gi_wp2
  gi_loopw [8] (fun t wr => ∃ k : Nat, k ≤ m ∧ t = .int .i64 k ∧ Hid (J ((List.finRange m).take k) wr) ∧ Hid (KeepX B w0.heap.size w0 wr))
    (fun t _ => m - (intOf t).toNat)
  case atStart => exact ⟨0, by omega, rfl, by rw [List.take_zero]; exact H0.out, HK0.out⟩
  case round =>
    obtain ⟨k, hk, rfl, HJk, HB⟩ := hrel
    have hk0 : (0 : Int) ≤ (k : Int) := by omega
    by_cases hlt : k < m
    · have hl5 : k < ps.length := by rw [HM5.out]; exact hlt
      have hl6 : k < vs.length := by rw [HM6.out]; exact hlt
      have hkI : (k : Int) < (m : Int) := by omega
      obtain ⟨c1, o1, rfl, q1, q2, q3⟩ := HA5.out k hl5
      obtain ⟨c2, o2, rfl, r1, r2, r3⟩ := HA6.out k hl6
      have g5 := (HB.out.cell (p := ⟨c1, o1 + k, none⟩) q1 q2).trans q3
      obtain ⟨g0, g1, g2, g3⟩ := LiAt.keepX r3 HB.out r1 r2
      have gb := (HB.out.cell (p := ⟨b6, 0, none⟩) h6.1 h6.2).trans HB6.out
      have hpl : ((List.finRange m).take k).length = k := by rw [List.length_take, HFL.out]; omega
      obtain ⟨fn, tmps, assign, body, hy, hR⟩ := HY.out _ ⟨k, hlt⟩ _ HJk.out (by rw [hpl]; exact hlt)
      have HTK := Lib.hid (HFS.out k hlt)
      unfold encK at hy
      rw [List.getElem?_eq_getElem hl5, List.getElem?_eq_getElem hl6] at hy
      simp only [Option.getD_some] at hy
      generalize ps[k] = z at *
      generalize vs[k] = x at *
      unfold Li.agg at hy
      clear hpl r3 q3 HJk
      gi_wp2
      refine hR.mono ?_
      rintro e W3 (⟨rfl, hJ3, hk3⟩ | ⟨rfl, hJx3⟩)
      · have HJ3 := Lib.hid hJ3
        have HB3 := Lib.hid (HB.out.trans hk3)
        clear hJ3 hk3 hR hy g0 g1 g2 g3 g5 gb HB
        gi_wp2
        go_roundw
        case rel => exact ⟨k + 1, by omega, by go_num, by show J _ _; rw [HTK.out]; exact HJ3.out, HB3⟩
        case measure => simp [intOf]; omega
      · have HJx := Lib.hid hJx3
        clear hJx3 hR hy g0 g1 g2 g3 g5 gb
        gi_wp2
        refine bodyPost_ret (results_none rfl _ _ _) rfl ?_
        exact ⟨⟨_, rfl⟩, .inr ⟨_, by rw [← HTK.out]; exact List.take_prefix _ _, HJx.out⟩⟩
    · obtain rfl : k = m := by omega
      gi_wp2
      refine bodyPost_end (results_none rfl _ _ _) rfl ?_
      exact ⟨⟨_, rfl⟩, .inl ⟨_, rfl, by have := HJk.out; rw [List.take_of_length_le (by rw [HFL.out]; exact Nat.le_refl _)] at this; exact this⟩⟩
theorem each_stops (fu : Nat) (hfu : 1 ≤ fu) (b5 b6 : Nat) (p5 p6 : Option Addr) (m k5 k6 : Nat) (ps : List Int) (vs : List Li) (hm5 : ps.length = m) (hm6 : vs.length = m) (hmm : m ≤ 3518437208883) (B : Nat) (w : World)
    (hb5 : w.cell? ⟨b5, 0, none⟩ = some (.slice p5 m k5)) (h5 : b5 < w.heap.size ∧ b5 ≠ B) (hb6 : w.cell? ⟨b6, 0, none⟩ = some (.slice p6 m k6)) (h6 : b6 < w.heap.size ∧ b6 ≠ B)
    (ha5 : ∀ i (h : i < ps.length), ∃ b off, p5 = some ⟨b, off, none⟩ ∧ b < w.heap.size ∧ b ≠ B ∧ w.cell? ⟨b, off + i, none⟩ = some (.int .i64 ps[i]))
    (ha6 : ∀ i (h : i < vs.length), ∃ b off, p6 = some ⟨b, off, none⟩ ∧ b < w.heap.size ∧ b ≠ B ∧ LiAt w b (off + i * 4) vs[i]) :
    SeqStopsK Fence.wide fu Try.prog 52 #[.pointer (some ⟨b5, 0, none⟩), .pointer (some ⟨b6, 0, none⟩)] (fun y : Fin m => encK ps vs y.1) (KeepX B w.heap.size) (fun ys => ys = List.finRange m) (fun pre => pre <+: List.finRange m) m w :=
  fun l J Jx W hW _ _ hY h0 => each1_in fu hfu l b5 b6 p5 p6 m k5 k6 ps vs hm5 hm6 hmm B w J Jx hY W hb5 h5 hb6 h6 (KeepX.of_below hW (Nat.le_refl _)) ha5 ha6 h0
end Go.Proofs.Ytdpikdkhemhmdaa
