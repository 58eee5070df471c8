/- The document's Set, by its contract. -/
import Derived.Test.YtdpikdkhemhmdaaLbBase
import Derived.Laws.CopyOwn
namespace Go.Proofs.Ytdpikdkhemhmdaa
open Go.RowKit

theorem div_pow_step (a k : Nat) : a / 2 ^ (k + 1) = a / 2 ^ k / 2 := by rw [Nat.pow_succ, Nat.div_div_eq_div_mul]
theorem bit_div (a k : Nat) : a.testBit k = (a / 2 ^ k % 2 == 1) := by
  rw [Nat.testBit_eq_decide_div_mod_eq]
  rw [Bool.eq_iff_iff]; simp
theorem bools_one {cs : Array Value} {f : Nat → Bool} (h : Bits cs f) : cs.all (·.oneCell') = true := by
  rw [Array.all_eq_true]
  intro i hi
  have h1 := h.get i (by have := h.size; omega)
  rw [Array.getElem?_eq_getElem hi, Option.some.injEq] at h1
  rw [h1]; rfl
theorem arrInfo : (Try.prog.info? 73).map (·.size) = some 64 := by kernel_rfl

set_option maxRecDepth 100000 in
set_option maxHeartbeats 2000000 in
theorem refSet_any (a : Nat) (w : World) (ha : a < 18446744073709551616) :
    Calls Try.prog 60 #[.int .u64 a] w fun e w' => ∃ cs, e = .returned (.agg cs) ∧ Bits cs a.testBit ∧ Below w.heap.size w w' := by
  go_enter Try.func60, Try.ntmps60
  go_wp2_with fail
  go_loopg [0, 4] 64 (fun g x i wr => ∃ (k : Nat) (z cur : Array Value), k + g = 64 ∧ (w.alloc (.cells z 73)).alloc (.cells cur 73) = wr ∧ i = .int .i64 k ∧ x = .int .u64 (a / 2 ^ k : Nat) ∧ z.size = 64 ∧ cur.size = 64 ∧
    Hid (∀ i, i < k → cur[i]? = some (.bool (a.testBit i))))
  case atStart => exact ⟨0, _, _, rfl, rfl, rfl, by simp, rfl, rfl, fun i h => absurd h (Nat.not_lt_zero _)⟩
  case round =>
    obtain ⟨k, z, cur, hk, rfl, rfl, rfl, hz, hcur, hb⟩ := hrel
    by_cases h0 : k < 64
    · have hst := Lib.hid (div_pow_step a k)
      have hbit := Lib.hid (bit_div a k)
      have hx : a / 2 ^ k < 18446744073709551616 := Nat.lt_of_le_of_lt (Nat.div_le_self _ _) ha
      have hold : ∃ o, cur[k]? = some o := ⟨_, Array.getElem?_eq_getElem (by omega)⟩
      obtain ⟨o, ho⟩ := hold
      have hcell : ((w.alloc (.cells z 73)).alloc (.cells cur 73)).cell? ⟨w.heap.size + 1, k, none⟩ = some o := by simp [ho]
      obtain ⟨y, hy⟩ : ∃ y, a / 2 ^ (k + 1) = y := ⟨_, rfl⟩
      rw [hy] at hst
      have HY := Lib.hid hy
      clear hy
      generalize a / 2 ^ k = x at *
      have hkk : (0 : Int) ≤ (k : Int) := Int.natCast_nonneg _
      have hbz : Hid (((x : Int) % 2 == 1) = a.testBit k) := by
        rcases Nat.mod_two_eq_zero_or_one x with h | h
        · rw [hbit.out, h, show (x : Int) % 2 = 0 by omega]; rfl
        · rw [hbit.out, h, show (x : Int) % 2 = 1 by omega]; rfl
      have hnew : Hid (∀ b, b = a.testBit k → ∀ i, i < k + 1 → (cur.setIfInBounds k (.bool b))[i]? = some (.bool (a.testBit i))) := by
        intro b hb' i hi
        by_cases e : i = k
        · subst e; rw [Array.getElem?_setIfInBounds_self_of_lt (by omega), hb']
        · rw [Array.getElem?_setIfInBounds_ne (fun e' => e e'.symm)]; exact hb.out i (by omega)
      clear hb hbit ho
      go_wp2_with fail
      go_roundg (gk - 1)
      case rel => exact ⟨k + 1, z, _, by omega, rfl, by go_num, by rw [HY.out, hst.out]; go_num, hz, by simpa using hcur, hnew.out _ hbz.out⟩
      case measure => omega
    · obtain rfl : k = 64 := by omega
      have hB : Bits cur a.testBit := ⟨hcur, hb.out⟩
      have hone := bools_one hB
      have hg : ((w.alloc (.cells z 73)).alloc (.cells cur 73)).heap[w.heap.size + 1]? = some (.cells cur 73 (0, 0)) := by
        have := heap_alloc_new (w.alloc (.cells z 73)) (.cells cur 73)
        simpa using this
      have hg0 : ((w.alloc (.cells z 73)).alloc (.cells cur 73)).heap[w.heap.size]? = some (.cells z 73 (0, 0)) := by
        rw [heap_alloc_old _ _ (by simp), heap_alloc_new]
      have hi1 := arrInfo
      rw [← hcur] at hi1
      have HB := Lib.hid hB
      clear hb hB
      go_wp2_with (first | (refine wpList_load_row rfl _ _ rfl (w.heap.size + 1) rfl _ cur (0, 0) _ hg Try.underlying73 rfl hi1 ?_) | (refine wpList_store_row rfl _ _ _ rfl w.heap.size cur rfl rfl _ z hg0 hi1 (hz.trans hcur.symm) hone ?_))
      exact bodyPost_ret (v := .agg cur) (results_cell_row rfl _ _ w.heap.size _ cur (0, 0) _ rfl (setRow_heap _ _ _ _ _ _ hg0) Try.underlying73 rfl hi1) rfl
        ⟨cur, rfl, HB.out, below_setRow (((Below.refl _ _).alloc (Nat.le_refl _) _).alloc (by simp) _) (Nat.le_refl _) _⟩
end Go.Proofs.Ytdpikdkhemhmdaa
