/- view.told at texts and at labels; view.Texts: by contracts. -/
import Derived.Test.YtdpikdkhemhmdaaViOf
import Derived.Laws.OwnMore
import Derived.SliceStrings
namespace Go.Proofs.Ytdpikdkhemhmdaa
open Go Go.RowKit

/-- The slice at p holds these texts. -/
def StrRow (w : World) (p : Option Addr) (ss : List ByteArray) : Prop := ∀ i (h : i < ss.length), ∃ b off, p = some ⟨b, off, none⟩ ∧ b < w.heap.size ∧ w.cell? ⟨b, off + i, none⟩ = some (.string ss[i])
theorem StrRow.at {w : World} {p : Option Addr} {ss : List ByteArray} (h : StrRow w p ss) (i : Nat) (hi : i < ss.length) : ∃ b off, p = some ⟨b, off, none⟩ ∧ ∀ W, Below w.heap.size w W → W.cell? ⟨b, off + i, none⟩ = some (.string ss[i]) := by
  obtain ⟨b, off, e, hlt, hc⟩ := h i hi
  exact ⟨b, off, e, fun W hb => (hb.cell (p := ⟨b, off + i, none⟩) hlt).trans hc⟩
theorem StrRow.later {w W : World} {p : Option Addr} {ss : List ByteArray} (h : StrRow w p ss) (hb : Below w.heap.size w W) : StrRow W p ss := fun i hi => by
  obtain ⟨b, off, e, hlt, hc⟩ := h i hi
  exact ⟨b, off, e, Nat.lt_of_lt_of_le hlt hb.size, (hb.cell (p := ⟨b, off + i, none⟩) hlt).trans hc⟩
theorem strInfo : (Try.prog.info? 9).map (fun i => (i.zero, i.size, i.bytes)) = some (some (.string ⟨#[]⟩), 1, 16) := by kernel_rfl
theorem labInfo : (Try.prog.info? 24).map (fun i => (i.zero, i.size, i.bytes)) = some (some (.int .u64 0), 1, 8) := by kernel_rfl
/-- A row of texts that the call itself owns, as a slice that holds them. -/
theorem row_owned {W : World} {B : Nat} {e : TypeId} {v : Value} {ks : List ByteArray} (h : W.ownsRow B e 1 v ks.length (ks.map Value.string)) : ∃ p c, v = .slice p ks.length c ∧ StrRow W p ks := by
  rcases h.2 with ⟨hv, h0⟩ | ⟨g, cap, cur, hv, _⟩
  · refine ⟨none, 0, by rw [hv, h0], fun i hi => ?_⟩
    omega
  · refine ⟨some ⟨g, 0, none⟩, cap, hv, fun i hi => ?_⟩
    subst hv
    have hc := h.cellAt i (by omega)
    rw [List.getElem?_map, List.getElem?_eq_getElem hi] at hc
    have hlt := World.block_lt_of_cell? W _ (show W.cell? ⟨g, i, none⟩ = some (.string ks[i]) from hc)
    exact ⟨g, 0, rfl, hlt, by rw [Nat.zero_add]; exact hc⟩
theorem row_at {W : World} {B : Nat} {e : TypeId} {p : Option Addr} {n c : Nat} {ks : List ByteArray} (hk : ks.length = n) (h : W.ownsRow B e 1 (.slice p n c) n (ks.map Value.string)) : StrRow W p ks := by
  subst hk
  obtain ⟨p', c', e', hr⟩ := row_owned h
  injection e' with e1 e2 e3
  rw [e1]; exact hr
/-- Texts handed out, in a row of the call's own. -/
def GivesTx (w : World) (ts : List ByteArray) (e : Ending) (w' : World) : Prop := Below w.heap.size w w' ∧ ∃ p c, e = .returned (.slice p ts.length c) ∧ StrRow w' p ts ∧ w'.ownsRow w.heap.size 9 1 (.slice p ts.length c) ts.length (ts.map Value.string)
/-- Labels handed out, in a row of the call's own. -/
def GivesLb (w : World) (ps : List Int) (e : Ending) (w' : World) : Prop := Below w.heap.size w w' ∧ ∃ p c, e = .returned (.slice p ps.length c) ∧ NumRow .u64 w' p ps ∧ w'.ownsRow w.heap.size 24 1 (.slice p ps.length c) ps.length (nums .u64 ps)
theorem tell_step {xs : List Li} (f : Li → Value) (z : Value) {k n : Nat} (h : k < xs.length) (hn : n = xs.length) : ((xs.take k).map f ++ List.replicate (n - k) z).set k (f xs[k]) = (xs.take (k + 1)).map f ++ List.replicate (n - (k + 1)) z := by
  subst hn
  have hl : ((xs.take k).map f).length = k := by simp; omega
  rw [List.set_append_right _ _ (by omega), hl, Nat.sub_self, show xs.length - k = (xs.length - (k + 1)) + 1 by omega, List.replicate_succ, List.set_cons_zero, List.take_succ_eq_append_getElem h, List.map_append]
  simp
set_option maxRecDepth 100000 in
theorem askText_any (x : Li) (w : World) : Calls Try.prog 50 #[.agg #[.int .u64 x.u, .int .i64 x.n, .int .i64 x.r, .string x.s]] w fun e w' => e = .returned (.string x.s) ∧ Below w.heap.size w w' := by
  go_enter Try.func50, Try.ntmps50
  go_wp2
  go_ret
  exact ⟨rfl, (Below.refl _ _).alloc (Nat.le_refl _) _⟩
set_option maxRecDepth 100000 in
set_option maxHeartbeats 4000000 in
theorem toldS_any (w : World) (p : Option Addr) (n c : Nat) (xs : List Li) (hn : xs.length = n) (hnm : n ≤ 3518437208883) (hr : LiRow w p xs) :
    Calls Try.prog 49 #[.slice p n c, .func (.func 50) #[] #[]] w (GivesTx w (xs.map (·.s))) := by
  obtain ⟨i0, hi, hz0, hz1, hz2⟩ := info_parts strInfo
  obtain ⟨w1, hmk, ho1, hgr1⟩ := run_make_full (P := Try.prog) w w.heap.size 30 _ i0 (.string ⟨#[]⟩) 1 Try.underlying30 hi hz0 hz1 .i64 .i64 n (by rw [hz2]; omega) (by unfold maxLen; omega) (Nat.le_refl _)
  have hb1 : Below w.heap.size w w1 := (Below.refl _ _).grown hgr1 (Nat.le_refl _) (fun g hg => by cases hg)
  rw [show (.string ⟨#[]⟩ : Value).cells = #[.string ⟨#[]⟩] from rfl, Nat.mul_one, toList_madeCells_one] at ho1
  have hs1 := hb1.size
  have HN := Lib.hid hn
  have HR := Lib.hid hr
  have HB1 := Lib.hid hb1
  have HO1 := Lib.hid ho1
  have hcA := fun x W => askText_any x W
  have eg := enters_of Try.func50 (by kernel_rfl) rfl
  clear hn hr hb1 ho1
  go_enter Try.func49, Try.ntmps49
  go_wp2_with fail
  clear hmk
  go_loopg [13] n (fun g vi wr => ∃ k : Nat, k + g = n ∧ vi = .int .i64 k ∧ Below w.heap.size w wr ∧ Hid (wr.ownsRow w.heap.size _ 1 (.slice (some ⟨w.heap.size, 0, none⟩) n n) n ((xs.take k).map (fun x => .string x.s) ++ List.replicate (n - k) (.string ⟨#[]⟩))))
  case atStart => exact ⟨0, by omega, rfl, HB1.out, by rw [List.take_zero, Nat.sub_zero]; exact HO1.out⟩
  case round =>
    obtain ⟨k, hk, rfl, hbr, HO⟩ := hrel
    have hsr := hbr.size
    by_cases hlt : k < n
    · have hlt' : k < xs.length := by rw [HN.out]; exact hlt
      obtain ⟨b1, o1, rfl, _, h1c⟩ := HR.out.at k hlt'
      obtain ⟨g0, g1, g2, g3⟩ := h1c wr hbr
      have hst := tell_step (fun x => .string x.s) (.string ⟨#[]⟩) hlt' (show n = xs.length from HN.out.symm)
      have hkI : (k : Int) < (n : Int) := by omega
      have hk0 : (0 : Int) ≤ (k : Int) := by omega
      generalize xs[k] = x at *
      have HB := Lib.hid hbr
      have HST := Lib.hid hst
      clear h1c hbr hst
      go_wp2_with fail
      refine (hcA x _).mono ?_
      rintro e w2 ⟨rfl, hb2⟩
      have ho2 := HO.out.alloc (.cells #[.int .u64 x.u, .int .i64 x.n, .int .i64 x.r, .string x.s] 26)
      have ho3 := row_later ho2 hb2
      have hbe := (HB.out.alloc hsr (.cells #[.int .u64 x.u, .int .i64 x.n, .int .i64 x.r, .string x.s] 26)).trans (hb2.mono (by simp; omega))
      have fz := ho3.frozenAt k
      have cz := ho3.cellAt k (by omega)
      obtain ⟨uz, hz⟩ : ∃ u, ((xs.take k).map (fun x => Value.string x.s) ++ List.replicate (n - k) (Value.string ⟨#[]⟩))[k]? = some u := ⟨_, List.getElem?_eq_getElem (by have := ho3.1; omega)⟩
      rw [hz] at cz
      have HO3 := Lib.hid ho3
      have HBE := Lib.hid hbe
      clear ho2 ho3 hb2 hbe hz
      go_wp2_with fail
      have hrow := (HO3.out.stored k (.string x.s)).1
      rw [HST.out] at hrow
      have HRW := Lib.hid hrow
      have HBB := Lib.hid (HBE.out.setCell (p := ⟨w.heap.size, k, none⟩) (Nat.le_refl _) (.string x.s))
      clear hrow fz cz
      go_roundg (gk - 1)
      case rel => exact ⟨k + 1, by omega, by go_num, HBB.out, HRW.out⟩
      case measure => omega
    · obtain rfl : k = n := by omega
      have HO3 := Lib.hid HO.out
      have hall : xs.take k = xs := by rw [← HN.out]; exact List.take_length
      rw [hall, Nat.sub_self, List.replicate_zero, List.append_nil] at HO3
      have HB := Lib.hid hbr
      clear HO hbr hall
      go_wp2_with fail
      go_ret
      have hl : (xs.map (·.s)).length = k := by rw [List.length_map]; exact HN.out
      have hro := HO3.out
      rw [show xs.map (fun x => Value.string x.s) = (xs.map (·.s)).map Value.string by rw [List.map_map]; rfl] at hro
      exact ⟨HB.out, _, k, by rw [hl]; rfl, row_at hl hro, by rw [hl]; exact hro⟩
set_option maxRecDepth 100000 in
theorem askLab_any (x : Li) (w : World) : Calls Try.prog 55 #[.agg #[.int .u64 x.u, .int .i64 x.n, .int .i64 x.r, .string x.s]] w fun e w' => e = .returned (.int .u64 x.u) ∧ Below w.heap.size w w' := by
  go_enter Try.func55, Try.ntmps55
  go_wp2
  go_ret
  exact ⟨rfl, (Below.refl _ _).alloc (Nat.le_refl _) _⟩
set_option maxRecDepth 100000 in
set_option maxHeartbeats 4000000 in
theorem toldL_any (w : World) (p : Option Addr) (n c : Nat) (xs : List Li) (hn : xs.length = n) (hnm : n ≤ 3518437208883) (hr : LiRow w p xs) :
    Calls Try.prog 54 #[.slice p n c, .func (.func 55) #[] #[]] w (GivesLb w (xs.map (fun x => (x.u : Int)))) := by
  obtain ⟨i0, hi, hz0, hz1, hz2⟩ := info_parts labInfo
  obtain ⟨w1, hmk, ho1, hgr1⟩ := run_make_full (P := Try.prog) w w.heap.size 45 _ i0 (.int .u64 0) 1 Try.underlying45 hi hz0 hz1 .i64 .i64 n (by rw [hz2]; omega) (by unfold maxLen; omega) (Nat.le_refl _)
  have hb1 : Below w.heap.size w w1 := (Below.refl _ _).grown hgr1 (Nat.le_refl _) (fun g hg => by cases hg)
  rw [show (.int .u64 0 : Value).cells = #[.int .u64 0] from rfl, Nat.mul_one, toList_madeCells_one] at ho1
  have hs1 := hb1.size
  have HN := Lib.hid hn
  have HR := Lib.hid hr
  have HB1 := Lib.hid hb1
  have HO1 := Lib.hid ho1
  have hcA := fun x W => askLab_any x W
  have eg := enters_of Try.func55 (by kernel_rfl) rfl
  clear hn hr hb1 ho1
  go_enter Try.func54, Try.ntmps54
  go_wp2_with fail
  clear hmk
  go_loopg [13] n (fun g vi wr => ∃ k : Nat, k + g = n ∧ vi = .int .i64 k ∧ Below w.heap.size w wr ∧ Hid (wr.ownsRow w.heap.size _ 1 (.slice (some ⟨w.heap.size, 0, none⟩) n n) n ((xs.take k).map (fun x => .int .u64 x.u) ++ List.replicate (n - k) (.int .u64 0))))
  case atStart => exact ⟨0, by omega, rfl, HB1.out, by rw [List.take_zero, Nat.sub_zero]; exact HO1.out⟩
  case round =>
    obtain ⟨k, hk, rfl, hbr, HO⟩ := hrel
    have hsr := hbr.size
    by_cases hlt : k < n
    · have hlt' : k < xs.length := by rw [HN.out]; exact hlt
      obtain ⟨b1, o1, rfl, _, h1c⟩ := HR.out.at k hlt'
      obtain ⟨g0, g1, g2, g3⟩ := h1c wr hbr
      have hst := tell_step (fun x => .int .u64 x.u) (.int .u64 0) hlt' (show n = xs.length from HN.out.symm)
      have hkI : (k : Int) < (n : Int) := by omega
      have hk0 : (0 : Int) ≤ (k : Int) := by omega
      generalize xs[k] = x at *
      have HB := Lib.hid hbr
      have HST := Lib.hid hst
      clear h1c hbr hst
      go_wp2_with fail
      refine (hcA x _).mono ?_
      rintro e w2 ⟨rfl, hb2⟩
      have ho2 := HO.out.alloc (.cells #[.int .u64 x.u, .int .i64 x.n, .int .i64 x.r, .string x.s] 26)
      have ho3 := row_later ho2 hb2
      have hbe := (HB.out.alloc hsr (.cells #[.int .u64 x.u, .int .i64 x.n, .int .i64 x.r, .string x.s] 26)).trans (hb2.mono (by simp; omega))
      have fz := ho3.frozenAt k
      have cz := ho3.cellAt k (by omega)
      obtain ⟨uz, hz⟩ : ∃ u, ((xs.take k).map (fun x => Value.int .u64 x.u) ++ List.replicate (n - k) (Value.int .u64 0))[k]? = some u := ⟨_, List.getElem?_eq_getElem (by have := ho3.1; omega)⟩
      rw [hz] at cz
      have HO3 := Lib.hid ho3
      have HBE := Lib.hid hbe
      clear ho2 ho3 hb2 hbe hz
      go_wp2_with fail
      have hrow := (HO3.out.stored k (.int .u64 x.u)).1
      rw [HST.out] at hrow
      have HRW := Lib.hid hrow
      have HBB := Lib.hid (HBE.out.setCell (p := ⟨w.heap.size, k, none⟩) (Nat.le_refl _) (.int .u64 x.u))
      clear hrow fz cz
      go_roundg (gk - 1)
      case rel => exact ⟨k + 1, by omega, by go_num, HBB.out, HRW.out⟩
      case measure => omega
    · obtain rfl : k = n := by omega
      have HO3 := Lib.hid HO.out
      have hall : xs.take k = xs := by rw [← HN.out]; exact List.take_length
      rw [hall, Nat.sub_self, List.replicate_zero, List.append_nil] at HO3
      have HB := Lib.hid hbr
      clear HO hbr hall
      go_wp2_with fail
      go_ret
      have hl : (xs.map (fun x => (x.u : Int))).length = k := by rw [List.length_map]; exact HN.out
      have hro := HO3.out
      rw [show xs.map (fun x => Value.int .u64 x.u) = nums .u64 (xs.map (fun x => (x.u : Int))) by unfold nums; rw [List.map_map]; rfl] at hro
      exact ⟨HB.out, _, k, by rw [hl]; rfl, nums_row' hro, by rw [hl]; exact hro⟩
theorem texts_any (w : World) (p : Option Addr) (n c : Nat) (xs : List Li) (hn : xs.length = n) (hnm : n ≤ 3518437208883) (hr : LiRow w p xs) :
    Calls Try.prog 15 #[.slice p n c] w (GivesTx w (xs.map (·.s))) := by
  have cT := toldS_any w p n c xs hn hnm hr
  clear hn hr
  go_enter Try.func15, Try.ntmps15
  go_wp2_with fail
  refine cT.mono ?_
  rintro e w2 ⟨hb, p2, c2, rfl, hr2, ho2⟩
  go_wp2_with fail
  go_ret
  exact ⟨hb, p2, c2, by rw [List.length_map]; rfl, hr2, ho2⟩
end Go.Proofs.Ytdpikdkhemhmdaa
