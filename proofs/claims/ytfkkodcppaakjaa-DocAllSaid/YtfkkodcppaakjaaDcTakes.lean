/- doc.takes, by its contract. -/
import Derived.Test.YtfkkodcppaakjaaDcTake1
namespace Go.Proofs.Ytfkkodcppaakjaa
open Go Go.RowKit Go.Maps

/-- May the lines be put to these? -/
def takesB (xs ls : List Li) : Bool := (twiceI ls).isNone && !(ls.any (notFit xs))
theorem takes1_run : ∀ args W, (callFunc 40 args).run Try.prog W = .ok (.enter 40 args) W := fun _ _ => by kernel_rfl
set_option maxRecDepth 100000 in
set_option maxHeartbeats 2000000 in
theorem takes_any (w : World) (B a : Nat) (v : Value) (m k : Nat) (xs : List Li) (h : DocAt w B a v m k xs) (p : Option Addr) (n c : Nat) (ls : List Li) (hn : ls.length = n) (hnm : n < maxLen) (hr : LiRow w p ls) (hf : ∀ x ∈ ls, LiOk x) :
    Calls Try.prog 31 #[.pointer (some ⟨a, 0, none⟩), .slice p n c] w fun e w' => e = .returned (.bool (takesB xs ls)) ∧ Below w.heap.size w w' := by
  have hb0 : Below w.heap.size w (w.alloc (.cells #[.pointer (some ⟨a, 0, none⟩)] 33)) := (Below.refl _ _).alloc (Nat.le_refl _) _
  have cT := twice_any (w.alloc (.cells #[.pointer (some ⟨a, 0, none⟩)] 33)) p n c ls hn hnm (hr.later hb0) hf
  have hm0 : (w.alloc (.cells #[.pointer (some ⟨a, 0, none⟩)] 33)).cell? ⟨w.heap.size, 0, none⟩ = some (.pointer (some ⟨a, 0, none⟩)) := by rw [World.cell?_alloc_mark]; rfl
  have hD0 := h.later hb0
  have hr0 := hr.later hb0
  have hs0 : (w.alloc (.cells #[.pointer (some ⟨a, 0, none⟩)] 33)).heap.size = w.heap.size + 1 := by simp
  unfold twV at cT
  unfold takesB
  have HN := Lib.hid hn
  have hnm' : n ≤ 9223372036854775807 := by unfold maxLen at hnm; omega
  cases htw : twiceI ls with
  | some i =>
    rw [htw] at cT
    dsimp only at cT
    have HB0 := Lib.hid hb0
    clear htw hn hD0 hr0 hm0 hr h hf hb0
    go_enter Try.func31, Try.ntmps31
    go_wp2_with (first | (go_at_call 8; refine cT.mono ?_; rintro e w1 ⟨rfl, hb1⟩))
    go_ret
    exact ⟨rfl, HB0.out.trans (hb1.mono HB0.out.size)⟩
  | none =>
    rw [htw] at cT
    dsimp only at cT
    obtain ⟨W0, hW0⟩ : ∃ W0, w.alloc (.cells #[.pointer (some ⟨a, 0, none⟩)] 33) = W0 := ⟨_, rfl⟩
    rw [hW0] at hb0 hD0 hr0 hm0 hs0
    have HB0 := Lib.hid hb0
    have HD0 : Aside _ := hD0
    have HR0 : Aside _ := hr0
    have HM0 := Lib.hid hm0
    have HS0 := Lib.hid hs0
    have HF : Aside _ := hf
    have cK : ∀ W, Below W0.heap.size W0 W → Calls Try.prog 39 #[.slice p n c, .func (.func 40) #[] #[.pointer (some ⟨w.heap.size, 0, none⟩)]] W fun e w' => e = .returned (.bool (ls.any (notFit xs))) ∧ Below W.heap.size W w' := fun W hW => by
      have hbx : W.cell? ⟨w.heap.size, 0, none⟩ = some (.pointer (some ⟨a, 0, none⟩)) := (hW.cell (p := ⟨w.heap.size, 0, none⟩) (by rw [HS0.out]; exact Nat.lt_succ_self _)).trans HM0.out
      refine containsFunc_any _ _ _ W p n c ls HN.out hnm' (LiRow.later HR0.out hW) HF.out takes1_run fun x W2 hx hW2 => ?_
      exact takes1_any W2 B a w.heap.size v m k xs ((HD0.out.later hW).later hW2) ((hW2.cell (p := ⟨w.heap.size, 0, none⟩) (World.block_lt_of_cell? W _ hbx)).trans hbx) x hx
    have cK' := Lib.hid cK
    generalize ls.any (notFit xs) = b at *
    clear htw hn hD0 hr0 hm0 hr h hf hb0 hs0 cK
    subst hW0
    go_enter Try.func31, Try.ntmps31
    go_wp2_with (first
      | (go_at_call 8; refine cT.mono ?_; rintro e w1 ⟨rfl, hb1⟩; have cK2 := cK'.out w1 hb1)
      | (go_at_call 39; refine cK2.mono ?_; rintro e w2 ⟨rfl, hb2⟩))
    go_ret
    exact ⟨rfl, (HB0.out.trans (hb1.mono HB0.out.size)).trans (hb2.mono (HB0.out.trans (hb1.mono HB0.out.size)).size)⟩
end Go.Proofs.Ytfkkodcppaakjaa
