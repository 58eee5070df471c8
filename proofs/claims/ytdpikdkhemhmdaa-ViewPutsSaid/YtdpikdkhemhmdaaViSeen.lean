/- view.Seen, view.Own, scrimref06.Seen; what is asked of a line: by contracts. -/
import Derived.Test.YtdpikdkhemhmdaaViP
import Derived.Test.YtdpikdkhemhmdaaLbOps
import Derived.Test.YtdpikdkhemhmdaaLbBelow
import Derived.RangeFuncBox
import Derived.Shelf.Abstract
namespace Go.Proofs.Ytdpikdkhemhmdaa
open Go Go.RowKit

theorem seen_any (c : Nat) (x : Li) (w : World) (hc : c < 18446744073709551616) (hx : x.u < 18446744073709551616) :
    Calls Try.prog 23 #[.int .u64 c, x.agg] w fun e w' => e = .returned (.bool (seenB c x)) ∧ Below w.heap.size w w' := by
  have cB := fun W => below_any x.u c W hx hc
  unfold seenB Li.agg
  go_enter Try.func23, Try.ntmps23
  go_wp2_with (go_at_call 51; refine (cB _).mono ?_; rintro e w' ⟨rfl, rfl⟩)
  go_ret
  exact ⟨rfl, (Below.refl _ _).alloc (Nat.le_refl _) _⟩
theorem own_any (c : Nat) (x : Li) (w : World) :
    Calls Try.prog 25 #[.int .u64 c, x.agg] w fun e w' => e = .returned (.bool (decide (x.u = c))) ∧ Below w.heap.size w w' := by
  unfold Li.agg
  by_cases h : x.u = c
  · subst h
    go_enter Try.func25, Try.ntmps25
    go_wp2
    go_ret
    exact ⟨by simp, (Below.refl _ _).alloc (Nat.le_refl _) _⟩
  · have hI : ¬ (x.u : Int) = (c : Int) := by omega
    go_enter Try.func25, Try.ntmps25
    go_wp2
    go_ret
    exact ⟨by simp [h, hI], (Below.refl _ _).alloc (Nat.le_refl _) _⟩
theorem refSeen_any (c : Nat) (x : Li) (w : World) (hc : c < 18446744073709551616) (hx : x.u < 18446744073709551616) :
    Calls Try.prog 24 #[.int .u64 c, x.agg] w fun e w' => e = .returned (.bool (seenB c x)) ∧ Below w.heap.size w w' := by
  have cB := fun W => refBelow_any x.u c W hx hc
  unfold seenB Li.agg
  go_enter Try.func24, Try.ntmps24
  go_wp2_with (go_at_call 35; refine (cB _).mono ?_; rintro e w' ⟨rfl, hb⟩)
  go_ret
  exact ⟨rfl, ((Below.refl _ _).alloc (Nat.le_refl _) _).trans (hb.mono (by simp))⟩
/-- What is there stays, but for one block. -/
structure KeepX (B n : Nat) (w w' : World) : Prop where
  os : w'.os = w.os
  tape : w'.tape = w.tape
  output : w'.output = w.output
  size : w.heap.size ≤ w'.heap.size
  block : ∀ k, k < n → k ≠ B → w'.heap[k]? = w.heap[k]?
theorem KeepX.refl (B n : Nat) (w : World) : KeepX B n w w := ⟨rfl, rfl, rfl, Nat.le_refl _, fun _ _ _ => rfl⟩
theorem KeepX.trans {B n : Nat} {a b c : World} (h : KeepX B n a b) (k : KeepX B n b c) : KeepX B n a c :=
  ⟨k.os.trans h.os, k.tape.trans h.tape, k.output.trans h.output, Nat.le_trans h.size k.size, fun j hj hB => (k.block j hj hB).trans (h.block j hj hB)⟩
theorem KeepX.of_below {B n m : Nat} {a b : World} (h : Below m a b) (hm : n ≤ m) : KeepX B n a b := ⟨h.os, h.tape, h.output, h.size, fun j hj _ => h.block j (by omega)⟩
theorem KeepX.alloc {B n : Nat} {a b : World} (h : KeepX B n a b) (hb : n ≤ b.heap.size) (o : Obj) : KeepX B n a (b.alloc o) := h.trans (KeepX.of_below ((Below.refl _ _).alloc (Nat.le_refl _) o) hb)
theorem KeepX.cell {B n : Nat} {w w' : World} (h : KeepX B n w w') {p : Addr} (hp : p.block < n) (hB : p.block ≠ B) : w'.cell? p = w.cell? p := by
  unfold World.cell?
  rw [h.block p.block hp hB]
theorem KeepX.below {B n : Nat} {w w' : World} (h : KeepX B n w w') (hB : B ≤ n) : Below B w w' := ⟨h.os, h.tape, h.output, h.size, fun j hj => h.block j (by omega) (by omega)⟩
theorem keepX_t {B n : Nat} : ∀ {X Y Z : World}, KeepX B n X Y → KeepX B n Y Z → KeepX B n X Z := fun h k => h.trans k
theorem keepX_b {B n m : Nat} (h : n ≤ m) : ∀ (W : World) (l : Nat) (o o' : Obj), m ≤ l → W.heap[l]? = some o → o.isCells = false → o.isWalk = false → KeepX B n W (W.putObj l o') := fun W l o o' hl _ _ _ =>
  ⟨rfl, rfl, rfl, by simp [World.putObj], fun k hk _ => World.putObj_heap_other (by omega)⟩
/-- What is asked of a line by a function value that writes nothing of ours. -/
def AsksL (g : Nat) (cb : Array Value) (f : Li → Bool) (Ok : World → Prop) : Prop := ∀ (x : Li) (W : World), x.u < 18446744073709551616 → Ok W → Calls Try.prog g (#[x.agg] ++ cb) W fun e w' => e = .returned (.bool (f x)) ∧ Below W.heap.size W w'
theorem askSeen (B c : Nat) (h64 : c < 18446744073709551616) : AsksL 65 #[.pointer (some ⟨B, 0, none⟩)] (seenB c) (fun W => Boxed W B 24 (.int .u64 c)) := fun x W hx hb => by
  show Calls Try.prog 65 #[x.agg, .pointer (some ⟨B, 0, none⟩)] W _
  have h0 := hb.cell
  have hBW := hb.lt
  have cS := fun W => seen_any c x W h64 hx
  clear hb
  unfold Li.agg at cS ⊢
  go_enter Try.func65, Try.ntmps65
  go_wp2_with (go_at_call 23; refine (cS _).mono ?_; rintro e w' ⟨rfl, hb⟩)
  go_ret
  exact ⟨rfl, ((Below.refl _ _).alloc (Nat.le_refl _) _).trans (hb.mono (by simp))⟩
theorem askHidden (B c : Nat) (h64 : c < 18446744073709551616) : AsksL 47 #[.pointer (some ⟨B, 0, none⟩)] (fun x => !seenB c x) (fun W => Boxed W B 24 (.int .u64 c)) := fun x W hx hb => by
  show Calls Try.prog 47 #[x.agg, .pointer (some ⟨B, 0, none⟩)] W _
  have h0 := hb.cell
  have hBW := hb.lt
  have cS := fun W => seen_any c x W h64 hx
  clear hb
  unfold Li.agg at cS ⊢
  go_enter Try.func47, Try.ntmps47
  go_wp2_with (go_at_call 23; refine (cS _).mono ?_; rintro e w' ⟨rfl, hb⟩)
  go_ret
  exact ⟨rfl, ((Below.refl _ _).alloc (Nat.le_refl _) _).trans (hb.mono (by simp))⟩
theorem seenBy_any (c : Nat) (w : World) : Calls Try.prog 46 #[.int .u64 c] w fun e w' => e = .returned (.func (.func 65) #[] #[.pointer (some ⟨w.heap.size, 0, none⟩)]) ∧ w' = w.alloc (.cells #[.int .u64 c] 24) := by
  go_enter Try.func46, Try.ntmps46
  go_wp2
  go_ret
  exact ⟨rfl, rfl⟩
theorem eg_seen : ∀ args W, (callFunc 65 args).run Try.prog W = .ok (.enter 65 args) W := enters_of Try.func65 (by kernel_rfl) rfl
theorem eg_hidden : ∀ args W, (callFunc 47 args).run Try.prog W = .ok (.enter 47 args) W := enters_of Try.func47 (by kernel_rfl) rfl
theorem where_any (p : Option Addr) (n c g : Nat) (cb : Array Value) (w : World) : Calls Try.prog 48 #[.slice p n c, .func (.func g) #[] cb] w fun e w' =>
    e = .returned (.func (.func 66) #[] #[.pointer (some ⟨w.heap.size, 0, none⟩), .pointer (some ⟨w.heap.size + 1, 0, none⟩)]) ∧ w' = (w.alloc (.cells #[.slice p n c] 22)).alloc (.cells #[.func (.func g) #[] cb] 62) := by
  go_enter Try.func48, Try.ntmps48
  go_wp2
  go_ret
  exact ⟨rfl, rfl⟩
end Go.Proofs.Ytdpikdkhemhmdaa
