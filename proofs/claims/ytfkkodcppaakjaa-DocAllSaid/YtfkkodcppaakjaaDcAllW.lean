/- DocAll, by a walk over the contracts. -/
import Derived.Test.YtfkkodcppaakjaaDcAll
import Derived.Test.YtfkkodcppaakjaaDcMay
import Derived.Test.YtfkkodcppaakjaaDcOne
namespace Go.Proofs.Ytfkkodcppaakjaa
open Go Go.RowKit Go.Maps Go.Shelf

attribute [local go_sem] Oper.semAt_some

theorem boxed_later {W W' : World} {B : Nat} {t : TypeId} {v : Value} (h : Boxed W B t v) (hb : Below W.heap.size W W') : Boxed W' B t v := (hb.block B h.lt).trans h
theorem fn_in (d f : Nat) (lb : Array Value) (w : World) : (Op.equalIn (d + 1) 39 (.func (.func f) #[] lb) .nilFunc).run Try.prog w = .ok false w := by
  simp [Op.equalIn, run_underlying Try.underlying39]
theorem fn_nil (f : Nat) (lb : Array Value) (w : World) : (binOp .eql 39 (.func (.func f) #[] lb) .nilFunc).run Try.prog w = .ok (.bool false) w := by
  simp only [binOp]
  simp [Op.equal, Op.maxDepth, fn_in 9999]
set_option maxRecDepth 100000 in
set_option maxHeartbeats 4000000 in
theorem docAll_no (w : World) (p : Option Addr) (n c : Nat) (xs : List Li) (stop : Int) (hn : xs.length = n) (hnm : n ≤ 3518437208880) (hr : LiRow w p xs) (hnil : p = none → n = 0 ∧ c = 0) (hf : ∀ x ∈ xs, LiOk x) (hno : takesB [] xs = false) :
    Calls Try.prog 4 #[.slice p n c, .int .i64 stop] w fun e w' => e = .returned (.bool true) ∧ Below w.heap.size w w' := by
  have hB0 : Below w.heap.size w (((w.alloc (.cells #[.slice p n c] 22)).alloc (.cells #[.int .i64 stop] 3)).alloc (.cells #[.bool false] 4)) := (((Below.refl _ _).alloc (Nat.le_refl _) _).alloc (by simp) _).alloc (by simp; omega) _
  have c0 := ((Boxed.new w 22 (.slice p n c)).alloc (.cells #[.int .i64 stop] 3)).alloc (.cells #[.bool false] 4)
  have c2 := Boxed.new ((w.alloc (.cells #[.slice p n c] 22)).alloc (.cells #[.int .i64 stop] 3)) 4 (.bool false)
  simp only [World.size_alloc] at c2
  have cN := dNew_any _ p n c xs hn (hr.later hB0) hnil hf (by omega)
  have cM := fun W (hW : Below w.heap.size w W) => may_any W p n c xs hn (by unfold maxLen; omega) (hr.later hW) hf
  rw [hno] at cM
  have HNO := Lib.hid hno
  have HM := Lib.hid cM
  refine (callsIn_wide (n := 3)).1 ?_
  refine callsIn_of_wp_marks Try.func4 rfl trivial ?_ rfl
  simp only [Try.ntmps4, List.size_toArray, List.length_cons, List.length_nil, Nat.reduceAdd, Nat.reduceSub, Array.replicate_succ, Array.replicate_zero, List.push_toArray, List.append_toArray, List.nil_append, List.cons_append]
  have H0 := Lib.hid c0; have H2 := Lib.hid c2; have HB0 := Lib.hid hB0
  have HS0 : Hid ((((w.alloc (.cells #[.slice p n c] 22)).alloc (.cells #[.int .i64 stop] 3)).alloc (.cells #[.bool false] 4)).heap.size = w.heap.size + 3) := by show _ = _; simp
  have k0 := H0.out.cell
  clear c0 c2 hB0 hno cM hr hnil hf hn
  gi_wp2
  refine ⟨trivial, (callsIn_wide.2 cN).mono ?_⟩
  rintro e w1 ⟨hb1, ⟨hyes, _⟩ | ⟨_, rfl⟩⟩
  · rw [HNO.out] at hyes; cases hyes
  · have g0 := boxed_later H0.out hb1
    have g2 := boxed_later H2.out hb1
    have hbw1 := HB0.out.trans (hb1.mono HB0.out.size)
    have cM1 := HM.out w1 hbw1
    clear k0
    have k0 := g0.cell
    have G2 := Lib.hid g2
    have HB1 := Lib.hid hbw1
    clear cN hb1 g0 g2 hbw1 H0 H2 HM HB0
    gi_wp2
    refine ⟨trivial, (callsIn_wide.2 cM1).mono ?_⟩
    rintro e w2 ⟨rfl, hb2⟩
    have g2 := boxed_later G2.out hb2
    have HB2 := Lib.hid (HB1.out.trans (hb2.mono HB1.out.size))
    have k2 := g2.cell
    have f2 := g2.frozen
    clear cM1 hb2 g2 G2 HB1 k0
    gi_wp2
    have hc5 := World.cell?_setCell_same' w2 ⟨w.heap.size + 1 + 1, 0, none⟩ (.bool true) (by rw [k2]; rfl)
    refine ⟨.bool true, ?_, rfl, HB2.out.setCell (p := ⟨w.heap.size + 1 + 1, 0, none⟩) (by show w.heap.size ≤ w.heap.size + 1 + 1; omega) _⟩
    simp [results, Try.f4, go_sem, hc5]
end Go.Proofs.Ytfkkodcppaakjaa
