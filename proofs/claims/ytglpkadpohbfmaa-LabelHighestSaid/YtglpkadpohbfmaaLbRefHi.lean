/- The document's Highest, by its contract. -/
import Derived.Test.YtglpkadpohbfmaaLbHigh
import Derived.Test.YtglpkadpohbfmaaRegFam
import Derived.Test.YtglpkadpohbfmaaLbIter
import Derived.Test.YtglpkadpohbfmaaOwnAppend
namespace Go.Proofs.Ytglpkadpohbfmaa
open Go.RowKit

/-- Does y, at place k, say that x, at place i, is none of the highest? -/
def badY (i k : Nat) (x y : Nat64) : Bool := (!(y.val == x.val) && belowB x.val y.val) || (decide (k < i) && y.val == x.val)
def badAt (p : List Nat64) (i : Nat) (x : Nat64) (k : Nat) : Bool := match p[k]? with | some y => badY i k x y | none => false
def goodTo (p : List Nat64) (i : Nat) (x : Nat64) (k : Nat) : Bool := (List.range k).all fun j => !badAt p i x j
theorem goodTo_step (p : List Nat64) (i k : Nat) (x y : Nat64) (h : p[k]? = some y) : goodTo p i x (k + 1) = (goodTo p i x k && !badY i k x y) := by
  unfold goodTo
  rw [List.range_succ, List.all_append]
  simp [badAt, h]
def keepAt (p : List Nat64) (i : Nat) : Option Nat64 := match p[i]? with | some x => if goodTo p i x p.length then some x else none | none => none
def refTo (p : List Nat64) (m : Nat) : List Nat64 := (List.range m).filterMap (keepAt p)
theorem refTo_step (p : List Nat64) (m : Nat) (x : Nat64) (h : p[m]? = some x) : refTo p (m + 1) = if goodTo p m x p.length then refTo p m ++ [x] else refTo p m := by
  unfold refTo
  rw [List.range_succ, List.filterMap_append]
  cases e : goodTo p m x p.length <;> simp [keepAt, h, e]
theorem refTo_len (p : List Nat64) (m : Nat) : (refTo p m).length ≤ m := by
  have := List.length_filterMap_le (keepAt p) (List.range m)
  simpa [refTo] using this

theorem labInfoN : (Try.prog.info? 25).map (fun i => (i.zero, i.size, i.bytes)) = some (some (.int .u64 0), 1, 8) := by kernel_rfl
def encN (x : Nat64) : Value := .int .u64 (x.val : Nat)
def RowN (w : World) (p : Option Addr) (l : List Nat64) : Prop := ∀ i x, l[i]? = some x → ∃ b off, p = some ⟨b, off, none⟩ ∧ w.cell? ⟨b, off + i, none⟩ = some (encN x)
def HiN (w : World) (l : List Nat64) (e : Ending) (w' : World) : Prop := ∃ v, e = .returned v ∧ Below w.heap.size w w' ∧ w'.ownsRow w.heap.size 25 1 v l.length (l.map encN)

theorem owns_later {w W : World} {base : Nat} {e : TypeId} {size : Nat} {v : Value} {n : Nat} {xs : List Value} (h : w.ownsRow base e size v n xs) (hb : Below w.heap.size w W) : W.ownsRow base e size v n xs := by
  refine ⟨h.1, ?_⟩
  rcases h.2 with h0 | ⟨g, cap, cur, a1, a2, a3, a4⟩
  · exact .inl h0
  · have hlt : g < w.heap.size := by
      rcases Nat.lt_or_ge g w.heap.size with h' | h'
      · exact h'
      · rw [Array.getElem?_eq_none h'] at a3; cases a3
    exact .inr ⟨g, cap, cur, a1, a2, (hb.block g hlt).trans a3, a4⟩

set_option maxRecDepth 100000 in
set_option maxHeartbeats 8000000 in
theorem refHi_any (w : World) (p : Option Addr) (n c : Nat) (l : List Nat64) (hp : RowN w p l) (hn : l.length = n) (hl : n ≤ 1000) :
    Calls Try.prog 5 #[.slice p n c] w (HiN w (refTo l n)) := by
  obtain ⟨i0, hi, hz0, hz1, hz2⟩ := info_parts labInfoN
  have hfin : Hid (∀ v w', Below w.heap.size w w' → w'.ownsRow w.heap.size 25 1 v (refTo l n).length ((refTo l n).map encN) → HiN w (refTo l n) (.returned v) w') := by
    intro v w' hb ho
    exact ⟨v, rfl, hb, ho⟩
  have HN := Lib.hid hn
  have HP := Lib.hid hp
  clear hn hp
  go_enter Try.func5, Try.ntmps5
  go_wp2_with fail
  go_loopg [3, 4] n (fun g v i wr => ∃ m : Nat, m + g = n ∧ i = .int .i64 m ∧ Below w.heap.size w wr ∧ Hid (wr.ownsRow w.heap.size 25 1 v (refTo l m).length ((refTo l m).map encN)))
  case atStart => exact ⟨0, by omega, rfl, Below.refl _ _, World.ownsRow_nil _ _ _ _⟩
  case round =>
    obtain ⟨wo, hwo⟩ : ∃ wo, wo = wr := ⟨_, rfl⟩
    obtain ⟨m, hm, rfl, hbr, ho⟩ := hrel
    have hmm : (0 : Int) ≤ (m : Int) := Int.natCast_nonneg _
    by_cases h0 : m < n
    · have hmi : (m : Int) < (n : Int) := by omega
      obtain ⟨x, hx⟩ : ∃ x, l[m]? = some x := ⟨l[m]'(by rw [HN.out]; exact h0), List.getElem?_eq_getElem _⟩
      obtain ⟨b1, o1, rfl, hc1⟩ := HP.out m x hx
      have hl1 := World.block_lt_of_cell? w _ hc1
      have HX := Lib.hid (refTo_step l m x hx)
      rw [HN.out] at HX
      have hrl := refTo_len l m
      subst hwo
      generalize hRd : refTo l m = R at *
      clear hRd
      go_wp2_with fail
      go_loopg [5, 6] n (fun g h i wx => ∃ k : Nat, k + g = n ∧ i = .int .i64 k ∧ h = .bool (goodTo l m x k) ∧ Below wo.heap.size wo wx)
      case atStart => exact ⟨0, by omega, rfl, rfl, Below.refl _ _⟩
      case round =>
        obtain ⟨k, hk, rfl, rfl, hbx⟩ := hrel
        have hkk : (0 : Int) ≤ (k : Int) := Int.natCast_nonneg _
        by_cases h1 : k < n
        · have hki : (k : Int) < (n : Int) := by omega
          obtain ⟨y, hy⟩ : ∃ y, l[k]? = some y := ⟨l[k]'(by rw [HN.out]; exact h1), List.getElem?_eq_getElem _⟩
          obtain ⟨b2, o2, e2, hc2⟩ := HP.out k y hy
          injection e2 with e2
          injection e2 with e2 e3
          subst e2 e3
          have hl2 := World.block_lt_of_cell? w _ hc2
          have hbw := hbr.trans (hbx.mono hbr.size)
          have hS : TwoC wo ⟨b1, o1 + k, none⟩ ⟨b1, o1 + m, none⟩ (.int .u64 (y.val : Nat)) (.int .u64 (x.val : Nat)) wr := ⟨(hbw.cell (p := ⟨b1, o1 + k, none⟩) hl2).trans hc2, (hbw.cell (p := ⟨b1, o1 + m, none⟩) hl1).trans hc1, hbx⟩
          obtain ⟨ι, F, hne, hT, hinto⟩ := family_of (TwoC wo ⟨b1, o1 + k, none⟩ ⟨b1, o1 + m, none⟩ (.int .u64 (y.val : Nat)) (.int .u64 (x.val : Nat))) wr hS
          have f1 : ∀ n, (F n).cell? ⟨b1, o1 + k, none⟩ = some (.int .u64 (y.val : Nat)) := fun n => (hT n).1
          have f2 : ∀ n, (F n).cell? ⟨b1, o1 + m, none⟩ = some (.int .u64 (x.val : Nat)) := fun n => (hT n).2.1
          have f3 := Lib.hid (fun n => twoCEnd (hT n))
          have hd := hinto _ (twoCDrew hS)
          have cB : ∀ n, Calls Try.prog 12 #[.int .u64 (x.val : Nat), .int .u64 (y.val : Nat)] (F n) fun e w'' => e = .returned (.bool (belowB x.val y.val)) ∧ ∃ m, w'' = F m := fun n =>
            (refBelow_any x.val y.val (F n) x.lt y.lt).mono fun e w'' ⟨h1, h2⟩ => ⟨h1, hinto _ (twoCKeep h2 (hT n))⟩
          have HG := Lib.hid (goodTo_step l m k x y hy)
          have HB : Hid (badY m k x y = ((!(y.val == x.val) && belowB x.val y.val) || (decide (k < m) && y.val == x.val))) := (rfl : _ = _)
          clear hc1 hc2 hy hx hbr hbw hbx hT hinto hS
          generalize goodTo l m x k = gg at *
          generalize badY m k x y = bd at *
          generalize belowB x.val y.val = bb at *
          generalize x.val = xv at *
          generalize y.val = yv at *
          by_cases hxy : yv = xv
          · subst hxy
            have he1 : ((yv : Int) != (yv : Int)) = false := by simp
            have he2 : ((yv : Int) == (yv : Int)) = true := by simp
            by_cases hkm : k < m
            · have hgd : Hid (goodTo l m x (k + 1) = false) := by show _ = _; rw [HG.out, HB.out]; simp [hkm]
              have hkmi : (k : Int) < (m : Int) := by omega
              clear HB HG
              go_wp2_with fail
              refine region_family F (by kernel_rfl) (by kernel_rfl) hd ?_
              repeat (go_big_quiet_step ((go_at_call 12; exact cB _)))
              refine wpQuiet_nil ?_
              intro w' hw'
              obtain ⟨nq, rfl⟩ := hw'
              go_wp2_with fail
              go_roundg (gk - 1)
              case rel => exact ⟨k + 1, by omega, by go_num, by rw [hgd.out], f3.out nq⟩
              case measure => omega
            · have hgd : Hid (goodTo l m x (k + 1) = gg) := by show _ = _; rw [HG.out, HB.out]; simp [hkm]
              have hkmi : ¬ (k : Int) < (m : Int) := by omega
              clear HB HG
              go_wp2_with fail
              refine region_family F (by kernel_rfl) (by kernel_rfl) hd ?_
              repeat (go_big_quiet_step ((go_at_call 12; exact cB _)))
              refine wpQuiet_nil ?_
              intro w' hw'
              obtain ⟨nq, rfl⟩ := hw'
              go_wp2_with fail
              go_roundg (gk - 1)
              case rel => exact ⟨k + 1, by omega, by go_num, by rw [hgd.out], f3.out nq⟩
              case measure => omega
          · have he1 : ((yv : Int) != (xv : Int)) = true := by rw [bne, beq_false_of_ne (by omega)]; rfl
            have he2 : ((yv : Int) == (xv : Int)) = false := beq_false_of_ne (by omega)
            cases bb
            · by_cases hkm : k < m
              · have hgd : Hid (goodTo l m x (k + 1) = gg) := by show _ = _; rw [HG.out, HB.out]; simp [hxy]
                have hkmi : (k : Int) < (m : Int) := by omega
                clear HB HG
                go_wp2_with fail
                refine region_family F (by kernel_rfl) (by kernel_rfl) hd ?_
                repeat (go_big_quiet_step ((go_at_call 12; exact cB _)))
                refine wpQuiet_nil ?_
                intro w' hw'
                obtain ⟨nq, rfl⟩ := hw'
                go_wp2_with fail
                go_roundg (gk - 1)
                case rel => exact ⟨k + 1, by omega, by go_num, by rw [hgd.out], f3.out nq⟩
                case measure => omega
              · have hgd : Hid (goodTo l m x (k + 1) = gg) := by show _ = _; rw [HG.out, HB.out]; simp [hxy]
                have hkmi : ¬ (k : Int) < (m : Int) := by omega
                clear HB HG
                go_wp2_with fail
                refine region_family F (by kernel_rfl) (by kernel_rfl) hd ?_
                repeat (go_big_quiet_step ((go_at_call 12; exact cB _)))
                refine wpQuiet_nil ?_
                intro w' hw'
                obtain ⟨nq, rfl⟩ := hw'
                go_wp2_with fail
                go_roundg (gk - 1)
                case rel => exact ⟨k + 1, by omega, by go_num, by rw [hgd.out], f3.out nq⟩
                case measure => omega
            · have hgd : Hid (goodTo l m x (k + 1) = false) := by show _ = _; rw [HG.out, HB.out]; simp [hxy]
              clear HB HG
              go_wp2_with fail
              refine region_family F (by kernel_rfl) (by kernel_rfl) hd ?_
              repeat (go_big_quiet_step ((go_at_call 12; exact cB _)))
              refine wpQuiet_nil ?_
              intro w' hw'
              obtain ⟨nq, rfl⟩ := hw'
              go_wp2_with fail
              go_roundg (gk - 1)
              case rel => exact ⟨k + 1, by omega, by go_num, by rw [hgd.out], f3.out nq⟩
              case measure => omega
        · obtain rfl : k = n := by omega
          have hbw := hbr.trans (hbx.mono hbr.size)
          have hcx : wr.cell? ⟨b1, o1 + m, none⟩ = some (.int .u64 (x.val : Nat)) := (hbw.cell (p := ⟨b1, o1 + m, none⟩) hl1).trans hc1
          have ho0 := owns_later ho.out hbx
          clear ho hc1 hbx hbr hx HP
          generalize goodTo l m x k = gt at *
          cases gt
          · have HO : Hid (wr.ownsRow w.heap.size 25 1 u3 (refTo l (m + 1)).length ((refTo l (m + 1)).map encN)) := by
              show World.ownsRow _ _ _ _ _ _ _
              rw [HX.out]; exact ho0
            clear ho0 HX
            go_wp2_with fail
            go_roundg (k - (m + 1))
            case rel => exact ⟨m + 1, by omega, by go_num, hbw, HO⟩
            case measure => omega
          · have hsz := hbw.size
            go_wp2_with (at_builtin; refine wpList_append_own _ rfl _ _ 23 rfl w.heap.size 25 i0 (.int .u64 0) 1 8 Try.underlying23 hi hz0 hz1 hz2 rfl (by decide) _ _ _ rfl (ho0.alloc _) ⟨wr.heap.size, 0, none⟩ 1 1 [.int .u64 (x.val : Nat)] rfl rfl ?c1 ?c2 ?c3 ?c4 ?c5 ?_)
            case c2 => rfl
            case c3 => unfold maxLen; omega
            case c4 => omega
            case c5 => first | omega | (simp; omega)
            intro v' w7 hown' hgrow _
            have hb7 : Below w.heap.size w w7 := (hbw.alloc (by omega) _).grown hgrow (by simp; omega) (fun g hg => (ho0.lt g hg).1)
            have HO : Hid (w7.ownsRow w.heap.size 25 1 v' (refTo l (m + 1)).length ((refTo l (m + 1)).map encN)) := by
              show World.ownsRow _ _ _ _ _ _ _
              rw [HX.out]
              simp only [if_true]
              rw [List.length_append, List.length_singleton, List.map_append]
              exact hown'
            clear ho0 hown' hgrow HX
            go_wp2_with fail
            go_roundg (k - (m + 1))
            case rel => exact ⟨m + 1, by omega, by go_num, hb7, HO⟩
            case measure => omega
    · obtain rfl : m = n := by omega
      have HF := Lib.hid (hfin.out _ _ hbr ho.out)
      clear hfin ho
      go_wp2_with fail
      go_ret
      exact HF.out
end Go.Proofs.Ytglpkadpohbfmaa
