/- HunkUndone: a walk over contracts; awake; hunk.Undo. -/
import Derived.Test.YtjmnbnlhahbcjaaHuUndP
import Derived.Test.YtjmnbnlhahbcjaaHuApply
import Derived.Test.YtjmnbnlhahbcjaaHuInvW
import Derived.Test.YtjmnbnlhahbcjaaHuMark
namespace Go.Proofs.Ytjmnbnlhahbcjaa
open Go Go.RowKit

/-- What Undo answers. -/
def undX (a : List Tx) (hs : List Hu) : Int × List Tx := if (invX hs).1 = 0 then apX a (invX hs).2 else ((invX hs).1, [])
theorem invX_ok {hs : List Hu} (h : (invX hs).1 = 0) : invX hs = (0, inv 0 hs) := by
  unfold invX at h ⊢
  split at h
  · simp at h
  · split at h
    · simp at h
    · rename_i h1 h2
      rw [if_neg h1, if_neg h2]
set_option maxRecDepth 100000 in
theorem undo_any (w : World) (q : Option Addr) (m d : Nat) (a : List Tx) (p : Option Addr) (n c : Nat) (hs : List Hu) (hn : hs.length = n) (hnb : n ≤ 2513169434900) (hr : HuRow w p hs) (hB : HuB hs) (hm : a.length = m) (hmb : m ≤ 8796093021952) (hq : TxP w q d a) (hsum : m + goesN hs ≤ 8796093021952) :
    Calls Try.prog 43 #[.slice q m d, .slice p n c] w (GivesA w (undX a hs)) := by
  have cI := invert_any w p n c hs hn hnb hr hB
  have HQ := Lib.hid hq
  unfold undX
  clear hr hq
  by_cases hbad : (invX hs).1 = 0
  · rw [if_pos hbad]
    have e := invX_ok hbad
    rw [e] at cI ⊢
    have cA := fun W ph ch (hb : Below w.heap.size w W) (hx : HuRow W ph (inv 0 hs)) => apply_any W q m d a ph n ch (inv 0 hs) (by rw [inv_len]; exact hn) hnb hx (inv_b 0 hs hB) hm hmb (HQ.out.later hb) (by rw [inv_comes]; exact hsum)
    have hil : (inv 0 hs).length = n := by rw [inv_len]; exact hn
    dsimp only at *
    generalize apX a (inv 0 hs) = X at *
    clear hbad e hm hn hB
    go_enter Try.func43, Try.ntmps43
    go_wp2_with fail
    refine cI.mono ?_
    rintro e w1 ⟨hb1, v, us, rfl, ho⟩
    obtain ⟨ph, ch, rfl, hrh⟩ := ho.reads
    dsimp only at hrh
    have cA1 := cA w1 ph ch hb1 hrh
    dsimp only
    rw [hil]
    have HB1 := Lib.hid hb1
    have hs1 := hb1.size
    clear cI cA hb1 ho hrh hil
    go_wp2_with fail
    refine cA1.mono ?_
    rintro e w2 ⟨hb2, v, rfl, ho2⟩
    have hgv : GivesA w X (.returned (.tuple #[v, .int .i64 X.1])) w2 := ⟨HB1.out.trans (hb2.mono hs1), v, rfl, own_mono ho2 hs1⟩
    have HGV := Lib.hid hgv
    obtain ⟨x1, x2⟩ := X
    clear cA1 hb2 ho2 hgv
    go_wp2_with fail
    go_ret2
    exact HGV.out
  · rw [if_neg hbad]
    generalize invX hs = X at *
    obtain ⟨x1, x2⟩ := X
    dsimp only at *
    have hne : (x1 != 0) = true := by rw [bne, beq_false_of_ne hbad]; rfl
    go_enter Try.func43, Try.ntmps43
    go_wp2_with fail
    refine cI.mono ?_
    rintro e w1 ⟨hb1, v, us, rfl, ho⟩
    have hgv : GivesA w (x1, []) (.returned (.tuple #[.slice none 0 0, .int .i64 x1])) w1 := GivesA.none hb1
    have HGV := Lib.hid hgv
    clear cI hb1 ho hgv
    go_wp2_with fail
    go_ret2
    exact HGV.out
def wA : Tx := ⟨#[97]⟩
def wB : Tx := ⟨#[98]⟩
def wX : Tx := ⟨#[120]⟩
def wY : Tx := ⟨#[121]⟩
theorem lit1w (w : World) (x : Tx) (T : TypeId) : TxP (w.alloc (.cells #[.string x] T)) (some ⟨w.heap.size, 0, none⟩) 1 [x] := ⟨fun i hi => by
  have : i = 0 := by simp at hi; omega
  subst this
  exact ⟨w.heap.size, 0, rfl, by simp, by simp⟩, (fun e => by cases e), Nat.le_refl _⟩
theorem lit2w (w : World) (x y : Tx) (T : TypeId) : TxP (w.alloc (.cells #[.string x, .string y] T)) (some ⟨w.heap.size, 0, none⟩) 2 [x, y] := ⟨fun i hi => by
  have : i = 0 ∨ i = 1 := by simp at hi; omega
  rcases this with rfl | rfl <;> exact ⟨w.heap.size, 0, rfl, by simp, by simp⟩, (fun e => by cases e), Nat.le_refl _⟩
theorem hu_lit1w {W : World} {p1 p2 : Option Addr} {c1 c2 : Nat} (h : Hu) (T : TypeId) (r1 : TxP W p1 c1 h.old) (r2 : TxP W p2 c2 h.new) : HuRow (W.alloc (.cells #[.int .i64 h.pos, .slice p1 h.old.length c1, .slice p2 h.new.length c2] T)) (some ⟨W.heap.size, 0, none⟩) [h] := fun i hi => by
  have : i = 0 := by simp at hi; omega
  subst this
  have hb : Below W.heap.size W (W.alloc (.cells #[.int .i64 h.pos, .slice p1 h.old.length c1, .slice p2 h.new.length c2] T)) := (Below.refl _ _).alloc (Nat.le_refl _) _
  exact ⟨W.heap.size, 0, rfl, by simp, by simp, ⟨p1, c1, by simp, r1.later hb⟩, p2, c2, by simp, r2.later hb⟩
theorem awake_app : apX [wA, wB] [⟨1, [wB], [wX, wY]⟩] = (0, [wA, wX, wY]) := by kernel_rfl
theorem awake_row (W : World) : TxP ((((W.alloc (.cells #[.string ⟨#[97]⟩, .string ⟨#[98]⟩] 9)).alloc (.cells #[.string ⟨#[98]⟩] 9)).alloc (.cells #[.string ⟨#[120]⟩, .string ⟨#[121]⟩] 9)).alloc (.cells #[.int .i64 1, .slice (some ⟨W.heap.size + 1, 0, none⟩) 1 1, .slice (some ⟨W.heap.size + 1 + 1, 0, none⟩) 2 2] 47)) (some ⟨W.heap.size, 0, none⟩) 2 [wA, wB] ∧
    HuRow ((((W.alloc (.cells #[.string ⟨#[97]⟩, .string ⟨#[98]⟩] 9)).alloc (.cells #[.string ⟨#[98]⟩] 9)).alloc (.cells #[.string ⟨#[120]⟩, .string ⟨#[121]⟩] 9)).alloc (.cells #[.int .i64 1, .slice (some ⟨W.heap.size + 1, 0, none⟩) 1 1, .slice (some ⟨W.heap.size + 1 + 1, 0, none⟩) 2 2] 47)) (some ⟨W.heap.size + 1 + 1 + 1, 0, none⟩) [⟨1, [wB], [wX, wY]⟩] := by
  have r0 := lit2w W wA wB 9
  have r1 := lit1w (W.alloc (.cells #[.string wA, .string wB] 9)) wB 9
  have r2 := lit2w ((W.alloc (.cells #[.string wA, .string wB] 9)).alloc (.cells #[.string wB] 9)) wX wY 9
  have h := hu_lit1w ⟨1, [wB], [wX, wY]⟩ 47 (r1.later ((Below.refl _ _).alloc (Nat.le_refl _) (.cells #[.string wX, .string wY] 9))) r2
  have r3 := ((r0.later ((Below.refl _ _).alloc (Nat.le_refl _) (.cells #[.string wB] 9))).later ((Below.refl _ _).alloc (Nat.le_refl _) (.cells #[.string wX, .string wY] 9))).later ((Below.refl _ _).alloc (Nat.le_refl _) (.cells #[.int .i64 1, .slice (some ⟨W.heap.size + 1, 0, none⟩) 1 1, .slice (some ⟨W.heap.size + 1 + 1, 0, none⟩) 2 2] 47))
  rw [show (((W.alloc (.cells #[.string wA, .string wB] 9)).alloc (.cells #[.string wB] 9)).alloc (.cells #[.string wX, .string wY] 9)).heap.size = W.heap.size + 1 + 1 + 1 by simp, show ((W.alloc (.cells #[.string wA, .string wB] 9)).alloc (.cells #[.string wB] 9)).heap.size = W.heap.size + 1 + 1 by simp, show (W.alloc (.cells #[.string wA, .string wB] 9)).heap.size = W.heap.size + 1 by simp] at h
  exact ⟨r3, h⟩
theorem awake_b : HuB [⟨1, [wB], [wX, wY]⟩] := fun x hx => by
  rw [List.mem_singleton] at hx
  subst hx
  have k : ∀ t ∈ [wB, wX, wY], t.size ≤ 140737488355328 := fun t ht => by
    simp only [List.mem_cons, List.not_mem_nil, or_false] at ht
    rcases ht with rfl | rfl | rfl <;> decide
  refine ⟨by simp, by simp, fun t ht => k t ?_, fun t ht => k t ?_⟩
  · have : t = wB := by simpa using ht
    subst this; simp
  · have : t = wX ∨ t = wY := by simpa using ht
    rcases this with rfl | rfl <;> simp
set_option maxRecDepth 100000 in
theorem awake_any (w : World) : Calls Try.prog 54 #[] w fun e w' => e = .returned (.bool true) ∧ Below w.heap.size w w' := by
  obtain ⟨r0, rh⟩ := awake_row w
  have cA := apply_any _ _ 2 2 [wA, wB] _ 1 1 [⟨1, [wB], [wX, wY]⟩] rfl (by omega) rh awake_b rfl (by omega) r0 (by decide)
  rw [awake_app] at cA
  have hb4 : Below w.heap.size w ((((w.alloc (.cells #[.string ⟨#[97]⟩, .string ⟨#[98]⟩] 9)).alloc (.cells #[.string ⟨#[98]⟩] 9)).alloc (.cells #[.string ⟨#[120]⟩, .string ⟨#[121]⟩] 9)).alloc (.cells #[.int .i64 1, .slice (some ⟨w.heap.size + 1, 0, none⟩) 1 1, .slice (some ⟨w.heap.size + 1 + 1, 0, none⟩) 2 2] 47)) := ((((Below.refl _ _).alloc (Nat.le_refl _) _).alloc (by simp) _).alloc (by simp; omega) _).alloc (by simp; omega) _
  have hs4 := hb4.size
  have HB4 := Lib.hid hb4
  clear r0 rh hb4
  go_enter Try.func54, Try.ntmps54
  go_wp2_with fail
  refine cA.mono ?_
  rintro e w5 ⟨hb5, v, rfl, ho⟩
  obtain ⟨g, cap, rfl, _, _, _⟩ := own_ptr' (n := 3) ho (by decide)
  have h0 : w5.cell? ⟨g, 0, none⟩ = some (.string ⟨#[97]⟩) := ho.cellAt 0 (by decide)
  have h1 : w5.cell? ⟨g, 1, none⟩ = some (.string ⟨#[120]⟩) := ho.cellAt 1 (by decide)
  have h2 : w5.cell? ⟨g, 2, none⟩ = some (.string ⟨#[121]⟩) := ho.cellAt 2 (by decide)
  have HB5 := Lib.hid (HB4.out.trans (hb5.mono hs4))
  clear cA hb5 ho
  go_wp2_with fail
  go_ret
  exact ⟨rfl, HB5.out⟩
end Go.Proofs.Ytjmnbnlhahbcjaa
