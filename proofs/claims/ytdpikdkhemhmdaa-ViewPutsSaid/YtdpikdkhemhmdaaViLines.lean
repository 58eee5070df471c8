/- scrimref06.Lines on two rows of the same lines; Of, Hidden, Places, Texts, Strings, Put of the document: by contracts. -/
import Derived.Test.YtdpikdkhemhmdaaViOf
import Derived.Laws.StructEq
import Derived.Deep.QuietTactic
namespace Go.Proofs.Ytdpikdkhemhmdaa
open Go Go.RowKit

theorem wf_lab {a : Nat} (h : a < 18446744073709551616) : (Lit.int .u64 (a : Int)).wf = true := WalkArith.wf_u64 (by omega)

theorem liCellsOf : Try.prog.cellsOf 26 = 4 := by kernel_rfl
theorem li_key {x : Li} (h : LiOk x) : ∃ l, keyOf Try.prog 26 x.agg = some l := by
  have hw := wf_lab h.u
  obtain ⟨m, hm⟩ : ∃ m, Try.prog.types.size = m + 1 := ⟨Try.prog.types.size - 1, by have : Try.prog.types.size ≠ 0 := of_decide_eq_true (by kernel_rfl); omega⟩
  have hk : Try.prog.keyType 26 = true := by kernel_rfl
  have hl : Try.prog.keyLits (Try.prog.types.size + 1) 26 [.int .u64 x.u, .int .i64 x.n, .int .i64 x.r, .string x.s] = some [.int .u64 x.u, .int .i64 x.n, .int .i64 x.r, .string x.s.data.toList] := by
    rw [hm]
    have e1 : Try.prog.cellsOf 24 = 1 := by kernel_rfl
    have e2 : Try.prog.cellsOf 3 = 1 := by kernel_rfl
    have e3 : Try.prog.cellsOf 9 = 1 := by kernel_rfl
    simp [Program.keyLits, Try.underlying26, liCellsOf, Try.underlying24, Try.underlying3, Try.underlying9, e1, e2, e3, hw, h.n, h.r, h.s]
  unfold keyOf
  rw [Try.underlying26]
  simp only [hk, Value.formed, Try.underlying26, Li.agg]
  rw [show (Value.agg #[Value.int .u64 (x.u : Int), Value.int .i64 x.n, Value.int .i64 x.r, Value.string x.s]).cells.toList = [Value.int .u64 (x.u : Int), Value.int .i64 x.n, Value.int .i64 x.r, Value.string x.s] from rfl, hl]
  simp [liCellsOf]
theorem lineWide : (match Try.prog.underlying 26 with | some (.array _ _) | some (.struct _) => true | _ => false) = true := by kernel_rfl
theorem lineKeyAt : Try.prog.keyTypeAt 2 26 = true := by kernel_rfl
set_option maxRecDepth 100000 in
theorem neqLine {x : Li} (hx : LiOk x) (w : World) : (binOp .neq 26 x.agg x.agg).run Try.prog w = .ok (.bool false) w := by
  obtain ⟨l, hl⟩ := li_key hx
  obtain ⟨r, h1, h2⟩ := run_equal_deep w (m := 2) (by omega) lineKeyAt lineWide hl hl
  have hr : r = true := h2.2 rfl
  subst hr
  unfold Li.agg at h1 ⊢
  simp only [binOp]
  simp [h1, Result.andThen]
theorem lineGuard : Try.prog.eqGuardType Try.prog.depth 26 = false := by kernel_rfl
theorem belowDN {B : Nat} {w W : World} (h : Below B w W) (q : Nat) : Below B w (W.drewN q) := ⟨h.os, h.tape, h.output, h.size, h.block⟩
set_option maxRecDepth 100000 in
set_option maxHeartbeats 2000000 in
theorem refLines_any (w : World) (p q : Option Addr) (n c d : Nat) (xs : List Li) (hn : xs.length = n) (hnm : n ≤ 9223372036854775807) (hp : LiRow w p xs) (hq : LiRow w q xs) (hf : ∀ x ∈ xs, LiOk x) :
    Calls Try.prog 19 #[.slice p n c, .slice q n d] w fun e w' => e = .returned (.bool true) ∧ Below w.heap.size w w' := by
  have HN := Lib.hid hn
  have hg := lineGuard
  clear hn
  go_enter Try.func19, Try.ntmps19
  go_wp2
  go_loopg [5] n (fun g vi wr => ∃ k : Nat, k + g = n ∧ vi = .int .i64 k ∧ Below w.heap.size w wr)
  case atStart => exact ⟨0, by omega, rfl, Below.refl _ _⟩
  case round =>
    obtain ⟨k, hk, rfl, hbr⟩ := hrel
    by_cases hlt : k < n
    · have hlt' : k < xs.length := by rw [HN.out]; exact hlt
      obtain ⟨b1, o1, rfl, _, h1c⟩ := hp.at k hlt'
      obtain ⟨b2, o2, rfl, _, h2c⟩ := hq.at k hlt'
      obtain ⟨g0, g1, g2, g3⟩ := h1c wr hbr
      obtain ⟨k0, k1, k2, k3⟩ := h2c wr hbr
      have hne := fun W => neqLine (hf xs[k] (List.getElem_mem hlt')) W
      generalize xs[k] = x at *
      unfold Li.agg at hne
      have hk0 : (0 : Int) ≤ (k : Int) := by omega
      have hkI : (k : Int) < (n : Int) := by omega
      have HB := Lib.hid hbr
      clear h1c h2c hbr hf hp hq
      go_wp2_with fail
      go_quiet (fail)
      go_wp2
      go_roundg (gk - 1)
      case rel => exact ⟨k + 1, by omega, by go_num, belowDN HB.out _⟩
      case measure => omega
    · obtain rfl : k = n := by omega
      go_wp2_with fail
      go_ret
      exact ⟨rfl, hbr⟩
end Go.Proofs.Ytdpikdkhemhmdaa
