/- scrimref04.Lines on two rows of the same lines; whether two identities are one: by contracts. -/
import Derived.Test.YtbcfmckhgjcakaaDoorIdTwice
import Derived.Laws.StructEq
namespace Go.Proofs.YtbcfmckhgjcakaaDoor
open Go Go.RowKit Go.Maps

theorem liCellsOf : Tryd.prog.cellsOf 25 = 4 := by kernel_rfl
theorem li_key {x : Li} (h : LiOk x) : ∃ l, keyOf Tryd.prog 25 x.agg = some l := by
  have hw := wf_lab h.u
  obtain ⟨m, hm⟩ : ∃ m, Tryd.prog.types.size = m + 1 := ⟨Tryd.prog.types.size - 1, by have : Tryd.prog.types.size ≠ 0 := of_decide_eq_true (by kernel_rfl); omega⟩
  have hk : Tryd.prog.keyType 25 = true := by kernel_rfl
  have hl : Tryd.prog.keyLits (Tryd.prog.types.size + 1) 25 [.int .u64 x.u, .int .i64 x.n, .int .i64 x.r, .string x.s] = some [.int .u64 x.u, .int .i64 x.n, .int .i64 x.r, .string x.s.data.toList] := by
    rw [hm]
    have e1 : Tryd.prog.cellsOf 23 = 1 := by kernel_rfl
    have e2 : Tryd.prog.cellsOf 3 = 1 := by kernel_rfl
    have e3 : Tryd.prog.cellsOf 9 = 1 := by kernel_rfl
    simp [Program.keyLits, Tryd.underlying25, liCellsOf, Tryd.underlying23, Tryd.underlying3, Tryd.underlying9, e1, e2, e3, hw, h.n, h.r, h.s]
  unfold keyOf
  rw [Tryd.underlying25]
  simp only [hk, Value.formed, Tryd.underlying25, Li.agg]
  rw [show (Value.agg #[Value.int .u64 (x.u : Int), Value.int .i64 x.n, Value.int .i64 x.r, Value.string x.s]).cells.toList = [Value.int .u64 (x.u : Int), Value.int .i64 x.n, Value.int .i64 x.r, Value.string x.s] from rfl, hl]
  simp [liCellsOf]
theorem lineWide : (match Tryd.prog.underlying 25 with | some (.array _ _) | some (.struct _) => true | _ => false) = true := by kernel_rfl
theorem lineKeyAt : Tryd.prog.keyTypeAt 2 25 = true := by kernel_rfl
set_option maxRecDepth 100000 in
theorem neqLine {x : Li} (hx : LiOk x) (w : World) : (binOp .neq 25 x.agg x.agg).run Tryd.prog w = .ok (.bool false) w := by
  obtain ⟨l, hl⟩ := li_key hx
  obtain ⟨r, h1, h2⟩ := run_equal_deep w (m := 2) (by omega) lineKeyAt lineWide hl hl
  have hr : r = true := h2.2 rfl
  subst hr
  unfold Li.agg at h1 ⊢
  simp only [binOp]
  simp [h1, Result.andThen]
theorem idWide : (match Tryd.prog.underlying 65 with | some (.array _ _) | some (.struct _) => true | _ => false) = true := by kernel_rfl
theorem idKeyAt : Tryd.prog.keyTypeAt 2 65 = true := by kernel_rfl
set_option maxRecDepth 100000 in
theorem eqlId {x y : Li} (hx : LiOk x) (hy : LiOk y) (w : World) : (binOp .eql 65 (.agg #[.int .u64 x.u, .int .i64 x.n]) (.agg #[.int .u64 y.u, .int .i64 y.n])).run Tryd.prog w = .ok (.bool (decide (x.id = y.id))) w := by
  obtain ⟨r, h1, h2⟩ := run_equal_deep w (m := 2) (by omega) idKeyAt idWide (id_key hx.u hx.n) (id_key hy.u hy.n)
  have hr : r = decide (x.id = y.id) := by
    rw [Bool.eq_iff_iff, h2, decide_eq_true_eq]
    constructor
    · intro e; exact id_inj hx.u hx.n hy.u hy.n e
    · intro e
      obtain ⟨e1, e2⟩ := Prod.mk.inj (show (x.u, x.n) = (y.u, y.n) from e)
      rw [e1, e2]
  subst hr
  simp only [binOp]
  simp [h1, Result.andThen]
theorem lineGuard : Tryd.prog.eqGuardType Tryd.prog.depth 25 = false := by kernel_rfl
theorem idGuard : Tryd.prog.eqGuardType Tryd.prog.depth 65 = false := by kernel_rfl

theorem belowDN {B : Nat} {w W : World} (h : Below B w W) (q : Nat) : Below B w (W.drewN q) := ⟨h.os, h.tape, h.output, h.size, h.block⟩
set_option maxRecDepth 100000 in
set_option maxHeartbeats 2000000 in
theorem refLines_any (w : World) (p q : Option Addr) (n c d : Nat) (xs : List Li) (hn : xs.length = n) (hnm : n ≤ 9223372036854775807) (hp : LiRow w p xs) (hq : LiRow w q xs) (hf : ∀ x ∈ xs, LiOk x) :
    Calls Tryd.prog 16 #[.slice p n c, .slice q n d] w fun e w' => e = .returned (.bool true) ∧ Below w.heap.size w w' := by
  have HN := Lib.hid hn
  have hg := lineGuard
  clear hn
  go_enter Tryd.func16, Tryd.ntmps16
  go_wp2
  go_loopg [5] n (fun g vi wr => ∃ k : Nat, k + g = n ∧ vi = .int .i64 k ∧ Below w.heap.size w wr)
  case atStart => exact ⟨0, by omega, rfl, Below.refl _ _⟩
  case round =>
    obtain ⟨k, hk, rfl, hbr⟩ := hrel
    by_cases hlt : k < n
    · have hlt' : k < xs.length := by rw [HN.out]; exact hlt
      obtain ⟨b1, o1, rfl, _, h1c⟩ := hp.at k hlt'
      obtain ⟨b2, o2, rfl, _, h2c⟩ := hq.at k hlt'
      obtain ⟨g0, g1, g2, g3⟩ := h1c wr hbr
      obtain ⟨k0, k1, k2, k3⟩ := h2c wr hbr
      have hne := fun W => neqLine (hf xs[k] (List.getElem_mem hlt')) W
      generalize xs[k] = x at *
      unfold Li.agg at hne
      have hk0 : (0 : Int) ≤ (k : Int) := by omega
      have hkI : (k : Int) < (n : Int) := by omega
      have HB := Lib.hid hbr
      clear h1c h2c hbr hf hp hq
      go_wp2_with fail
      go_quiet (fail)
      go_wp2
      go_roundg (gk - 1)
      case rel => exact ⟨k + 1, by omega, by go_num, belowDN HB.out _⟩
      case measure => omega
    · obtain rfl : k = n := by omega
      go_wp2_with fail
      go_ret
      exact ⟨rfl, hbr⟩
end Go.Proofs.YtbcfmckhgjcakaaDoor
