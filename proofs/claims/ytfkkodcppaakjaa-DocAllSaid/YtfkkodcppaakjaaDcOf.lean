/- doc.of, and what goes over lines with a function value: by contracts. -/
import Derived.Test.YtfkkodcppaakjaaDcBase
namespace Go.Proofs.Ytfkkodcppaakjaa
open Go Go.RowKit Go.Maps

theorem dOf_any (x : Li) (w : World) : Calls Try.prog 36 #[x.agg] w fun e w' => e = .returned (.agg #[.int .u64 x.u, .int .i64 x.n]) ∧ Below w.heap.size w w' := by
  unfold Li.agg
  go_enter Try.func36, Try.ntmps36
  go_wp2
  refine bodyPost_ret (v := .agg #[.int .u64 x.u, .int .i64 x.n]) (by simp [results, Try.results36, go_sem]) rfl ⟨rfl, ((Below.refl _ _).alloc (Nat.le_refl _) _).alloc (by simp) _⟩

/-- What is asked of a line by a function value that writes nothing of ours. -/
def AsksL (g : Nat) (cb : Array Value) (f : Li → Bool) (w : World) : Prop := ∀ (x : Li) (W : World), LiOk x → Below w.heap.size w W → Calls Try.prog g (#[x.agg] ++ cb) W fun e w' => e = .returned (.bool (f x)) ∧ Below W.heap.size W w'
def ixL (f : Li → Bool) (xs : List Li) : Int := match xs.findIdx? f with
  | some i => (i : Nat)
  | none => -1
theorem ix_hit {f : Li → Bool} {xs : List Li} {k : Nat} (hk : k < xs.length) (h : ∀ j (hj : j < xs.length), j < k → f xs[j] = false) (e : f xs[k] = true) : ixL f xs = (k : Nat) := by
  have : xs.findIdx? f = some k := by
    rw [List.findIdx?_eq_some_iff_getElem]
    exact ⟨hk, e, fun j hj => by simp [h j (by omega) hj]⟩
  unfold ixL; rw [this]
theorem ix_none {f : Li → Bool} {xs : List Li} (h : ∀ j (hj : j < xs.length), f xs[j] = false) : ixL f xs = -1 := by
  have : xs.findIdx? f = none := by
    rw [List.findIdx?_eq_none_iff]
    intro x hx
    obtain ⟨j, hj, rfl⟩ := List.getElem_of_mem hx
    exact h j hj
  unfold ixL; rw [this]
theorem ix_any (f : Li → Bool) (xs : List Li) : decide ((0 : Int) ≤ ixL f xs) = xs.any f := by
  unfold ixL
  cases h : xs.findIdx? f with
  | none =>
    rw [List.findIdx?_eq_none_iff] at h
    have : xs.any f = false := by rw [List.any_eq_false]; intro x hx; simp [h x hx]
    rw [this]; rfl
  | some i =>
    rw [List.findIdx?_eq_some_iff_getElem] at h
    obtain ⟨hi, he, _⟩ := h
    have : xs.any f = true := List.any_eq_true.2 ⟨xs[i], List.getElem_mem hi, he⟩
    rw [this]
    simp
set_option maxRecDepth 100000 in
set_option maxHeartbeats 2000000 in
theorem indexFunc_any (g : Nat) (cb : Array Value) (f : Li → Bool) (w : World) (p : Option Addr) (n c : Nat) (xs : List Li) (hn : xs.length = n) (hnm : n ≤ 9223372036854775807) (hr : LiRow w p xs) (hf : ∀ x ∈ xs, LiOk x) (eg : ∀ args W, (callFunc g args).run Try.prog W = .ok (.enter g args) W) (ha : AsksL g cb f w) :
    Calls Try.prog 45 #[.slice p n c, .func (.func g) #[] cb] w fun e w' => e = .returned (.int .i64 (ixL f xs)) ∧ Below w.heap.size w w' := by
  have HN := Lib.hid hn
  have HHIT := Lib.hid (fun k hk h e => ix_hit (f := f) (xs := xs) (k := k) hk h e)
  have HNO := Lib.hid (fun h => ix_none (f := f) (xs := xs) h)
  obtain ⟨R, hR⟩ : ∃ R, ixL f xs = R := ⟨_, rfl⟩
  rw [hR] at HHIT HNO ⊢
  have HA : Aside _ := ha
  clear hn hR ha
  go_enter Try.func45, Try.ntmps45
  go_wp2
  go_loopg [8] n (fun g' vi wr => ∃ k : Nat, k + g' = n ∧ vi = .int .i64 k ∧ Below w.heap.size w wr ∧ Hid (∀ j (hj : j < xs.length), j < k → f xs[j] = false))
  case atStart => exact ⟨0, by omega, rfl, Below.refl _ _, fun j _ h => absurd h (Nat.not_lt_zero _)⟩
  case round =>
    obtain ⟨k, hk, rfl, hbr, hno⟩ := hrel
    by_cases hlt : k < n
    · have hlt' : k < xs.length := by rw [HN.out]; exact hlt
      obtain ⟨b1, o1, rfl, hb1, h1c⟩ := hr.at k hlt'
      obtain ⟨g0, g1, g2, g3⟩ := h1c wr hbr
      have cA := HA.out xs[k] wr (hf _ (List.getElem_mem hlt')) hbr
      have hhit := Lib.hid (fun e => HHIT.out k hlt' hno.out e)
      have hnx := Lib.hid (fun (e : f xs[k] = false) j (hj : j < xs.length) (hjk : j < k + 1) => (show f xs[j] = false from by
        by_cases e' : j = k
        · subst e'; exact e
        · exact hno.out j hj (by omega)))
      generalize xs[k] = x at *
      have HB := Lib.hid hbr
      have hsz := hbr.size
      unfold Li.agg at cA
      have hk0 : (0 : Int) ≤ (k : Int) := by omega
      have hkI : (k : Int) < (n : Int) := by omega
      clear h1c hbr hno hf hr
      cases hfx : f x with
      | false =>
        rw [hfx] at cA
        have HX := Lib.hid (hnx.out hfx)
        clear hhit hnx hfx
        go_wp2_with (first | (go_at_fn g; refine cA.mono ?_; rintro e w2 ⟨rfl, hb2⟩))
        have hbe : Below w.heap.size w w2 := HB.out.trans (hb2.mono hsz)
        clear cA hb2
        go_roundg (gk - 1)
        case rel => exact ⟨k + 1, by omega, by go_num, hbe, HX⟩
        case measure => omega
      | true =>
        rw [hfx] at cA
        have hr1 := Lib.hid (hhit.out hfx)
        clear hhit hnx hfx
        go_wp2_with (first | (go_at_fn g; refine cA.mono ?_; rintro e w2 ⟨rfl, hb2⟩))
        go_ret
        exact ⟨retI hr1.out.symm, HB.out.trans (hb2.mono hsz)⟩
    · obtain rfl : k = n := by omega
      have hr1 := Lib.hid (HNO.out fun j hj => hno.out j hj (by rw [HN.out] at hj; exact hj))
      have HB := Lib.hid hbr
      clear hbr
      go_wp2_with fail
      go_ret
      exact ⟨retI hr1.out.symm, HB.out⟩
theorem containsFunc_any (g : Nat) (cb : Array Value) (f : Li → Bool) (w : World) (p : Option Addr) (n c : Nat) (xs : List Li) (hn : xs.length = n) (hnm : n ≤ 9223372036854775807) (hr : LiRow w p xs) (hf : ∀ x ∈ xs, LiOk x) (eg : ∀ args W, (callFunc g args).run Try.prog W = .ok (.enter g args) W) (ha : AsksL g cb f w) :
    Calls Try.prog 39 #[.slice p n c, .func (.func g) #[] cb] w fun e w' => e = .returned (.bool (xs.any f)) ∧ Below w.heap.size w w' := by
  have cI := indexFunc_any g cb f w p n c xs hn hnm hr hf eg ha
  have hd := Lib.hid (ix_any f xs)
  generalize ixL f xs = i at *
  generalize xs.any f = b at *
  clear ha hr hf hn
  go_enter Try.func39, Try.ntmps39
  go_wp2_with (first | (go_at_call 45; refine cI.mono ?_; rintro e w2 ⟨rfl, hb2⟩))
  go_ret
  exact ⟨ret_bool hd.out, hb2⟩
end Go.Proofs.Ytfkkodcppaakjaa
