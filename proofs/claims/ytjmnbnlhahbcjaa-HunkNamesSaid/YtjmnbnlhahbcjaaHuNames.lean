/- HunkNames: a walk over contracts. -/
import Derived.Test.YtjmnbnlhahbcjaaHuApply
import Derived.Test.YtjmnbnlhahbcjaaHuInvW
import Derived.Test.YtjmnbnlhahbcjaaHuTouch
import Derived.Laws.BytesString
namespace Go.Proofs.Ytjmnbnlhahbcjaa
open Go Go.RowKit

theorem lit1s (w : World) (x : Tx) (T : TypeId) : StrRow (w.alloc (.cells #[.string x] T)) (some ⟨w.heap.size, 0, none⟩) [x] := fun i hi => by
  have : i = 0 := by simp at hi; omega
  subst this
  exact ⟨w.heap.size, 0, rfl, by simp, by simp⟩
theorem lit1t (w : World) (x : Tx) (T : TypeId) : TxP (w.alloc (.cells #[.string x] T)) (some ⟨w.heap.size, 0, none⟩) 1 [x] := ⟨lit1s w x T, (fun e => by cases e), Nat.le_refl _⟩
theorem tx_none (w : World) : TxP w none 0 [] := ⟨fun _ hi => absurd hi (Nat.not_lt_zero _), fun _ => ⟨rfl, rfl⟩, Nat.le_refl _⟩
theorem hu_none (w : World) : HuRow w none [] := fun _ hi => absurd hi (Nat.not_lt_zero _)
/-- A list of one hunk. -/
theorem hu_lit1 {W : World} {p1 p2 : Option Addr} {c1 c2 : Nat} (h : Hu) (T : TypeId) (r1 : TxP W p1 c1 h.old) (r2 : TxP W p2 c2 h.new) : HuRow (W.alloc (.cells #[.int .i64 h.pos, .slice p1 h.old.length c1, .slice p2 h.new.length c2] T)) (some ⟨W.heap.size, 0, none⟩) [h] := fun i hi => by
  have : i = 0 := by simp at hi; omega
  subst this
  have hb : Below W.heap.size W (W.alloc (.cells #[.int .i64 h.pos, .slice p1 h.old.length c1, .slice p2 h.new.length c2] T)) := (Below.refl _ _).alloc (Nat.le_refl _) _
  exact ⟨W.heap.size, 0, rfl, by simp, by simp, ⟨p1, c1, by simp, r1.later hb⟩, p2, c2, by simp, r2.later hb⟩
theorem hu_lit2 {W : World} {p1 p2 p3 p4 : Option Addr} {c1 c2 c3 c4 : Nat} (h k : Hu) (T : TypeId) (r1 : TxP W p1 c1 h.old) (r2 : TxP W p2 c2 h.new) (r3 : TxP W p3 c3 k.old) (r4 : TxP W p4 c4 k.new) :
    HuRow (W.alloc (.cells #[.int .i64 h.pos, .slice p1 h.old.length c1, .slice p2 h.new.length c2, .int .i64 k.pos, .slice p3 k.old.length c3, .slice p4 k.new.length c4] T)) (some ⟨W.heap.size, 0, none⟩) [h, k] := fun i hi => by
  have : i = 0 ∨ i = 1 := by simp at hi; omega
  have hb : Below W.heap.size W (W.alloc (.cells #[.int .i64 h.pos, .slice p1 h.old.length c1, .slice p2 h.new.length c2, .int .i64 k.pos, .slice p3 k.old.length c3, .slice p4 k.new.length c4] T)) := (Below.refl _ _).alloc (Nat.le_refl _) _
  rcases this with rfl | rfl
  · exact ⟨W.heap.size, 0, rfl, by simp, by simp, ⟨p1, c1, by simp, r1.later hb⟩, p2, c2, by simp, r2.later hb⟩
  · exact ⟨W.heap.size, 0, rfl, by simp, by simp, ⟨p3, c3, by simp, r3.later hb⟩, p4, c4, by simp, r4.later hb⟩
def tA : Tx := ⟨#[97]⟩
def tA10 : Tx := ⟨#[97, 10]⟩
def nought (n : Nat) : Tx := ⟨(List.replicate n 0).toArray⟩
theorem nought_size (n : Nat) : (nought n).size = n := by rw [← len_size]; simp [nought]
theorem fine_long : fineT (nought 257) = false := text_long _ (by rw [nought_size]; omega)
theorem fine_most : fineT (nought 256) = true := by
  unfold fineT nought
  kernel_rfl
theorem infoByte : (Try.prog.info? 5).map (fun i => (i.zero, i.size, i.bytes)) = some (some (.int .u8 0), 1, 1) := by kernel_rfl
theorem made_get (v : Value) (n j : Nat) (h : j < n) : (madeCells #[v] n)[j]? = some v := by simp [madeCells, h, Nat.mod_one]
theorem nought_made (n : Nat) (N : Int) (hN : (n : Int) = N) (hn : n ≤ 1000) (W : World) : ∃ C, (Instr.makeSlice 70 (.int .i64 N) (.int .i64 N)).run Try.prog W = .ok (.slice (some ⟨W.heap.size, 0, none⟩) n n) (W.alloc (.cells C 5)) ∧
    (convert 70 9 (.slice (some ⟨W.heap.size, 0, none⟩) n n)).run Try.prog (W.alloc (.cells C 5)) = .ok (.string (nought n)) (W.alloc (.cells C 5)) := by
  subst hN
  obtain ⟨i0, hi, hz0, hz1, hz2⟩ := info_parts infoByte
  refine ⟨madeCells (Value.int .u8 0).cells (n * i0.size), ?_, ?_⟩
  · have := run_make (P := Try.prog) (w := W) 70 5 i0 (.int .u8 0) Try.underlying70 hi hz0 .i64 .i64 (n : Int) (n : Int) (by omega) (Int.le_refl _) (by rw [hz2]; omega) (by omega)
    rw [Int.toNat_natCast] at this
    exact this
  · have := run_convert_bytes_back (P := Try.prog) (W.alloc (.cells (madeCells (Value.int .u8 0).cells (n * i0.size)) 5)) 70 9 5 ⟨W.heap.size, 0, none⟩ n (List.replicate n 0) Try.underlying70 Try.underlying5 Try.underlying9 (fun j hj => by
      rw [List.length_replicate] at hj
      rw [show (⟨W.heap.size, 0, none⟩ : Addr).add j = ⟨W.heap.size, j, none⟩ from by simp [Addr.add]; omega, World.cell?_alloc_mark, hz1, List.getElem_replicate]
      exact made_get (.int .u8 0) _ j (by omega))
    rw [List.length_replicate] at this
    exact this
theorem hub_new (p : Int) (t : Tx) (ht : t.size ≤ 1000) {hs : List Hu} (h : HuB hs) : HuB (⟨p, [], [t]⟩ :: hs) := fun x hx => by
  rcases List.mem_cons.1 hx with rfl | hx
  · refine ⟨by simp, by simp, fun y hy => by simp at hy, fun y hy => ?_⟩
    have : y = t := by simpa using hy
    subst this; omega
  · exact h x hx
theorem hub_old (p : Int) (t : Tx) (ht : t.size ≤ 1000) {hs : List Hu} (h : HuB hs) : HuB (⟨p, [t], []⟩ :: hs) := fun x hx => by
  rcases List.mem_cons.1 hx with rfl | hx
  · refine ⟨by simp, by simp, fun y hy => ?_, fun y hy => by simp at hy⟩
    have : y = t := by simpa using hy
    subst this; omega
  · exact h x hx
theorem stp_new (l ps : Int) (t : Tx) : stp l ⟨ps, [], [t]⟩ = (decide (l ≤ ps) && decide (ps ≤ 2147483647) && fineT t) := by simp [stp]
theorem stp_old (l ps : Int) (t : Tx) : stp l ⟨ps, [t], []⟩ = (decide (l ≤ ps) && decide (ps ≤ 2147483647) && fineT t) := by simp [stp]
theorem fine_a : fineT tA = true := by kernel_rfl
theorem fine_a10 : fineT tA10 = false := by kernel_rfl
theorem chk_two : chkX [⟨2147483647, [], [tA]⟩, ⟨2147483648, [], [tA]⟩] = (1, 80) := by
  have h1 : may 0 [⟨2147483647, [], [tA]⟩, ⟨2147483648, [], [tA]⟩] = 1 := by
    unfold may
    rw [stp_new, fine_a, if_pos (by decide)]
    unfold may
    rw [stp_new, fine_a, if_neg (by decide)]
  unfold chkX
  rw [h1]; rfl
theorem inv_two : invX [⟨0, [], [tA]⟩, ⟨2147483647, [], [tA]⟩] = (80, []) := by
  have h1 : may 0 [⟨0, [], [tA]⟩, ⟨2147483647, [], [tA]⟩] = 2 := by
    unfold may
    rw [stp_new, fine_a, if_pos (by decide)]
    unfold may lst
    rw [stp_new, fine_a, if_pos (by decide)]
    rfl
  have e2 : inv 0 [⟨0, [], [tA]⟩, ⟨2147483647, [], [tA]⟩] = [⟨0, [tA], []⟩, ⟨2147483648, [tA], []⟩] := by
    simp only [inv, List.length_cons, List.length_nil]
    rw [show wrap64 (0 + 0) = 0 by unfold wrap64; omega, show wrap64 (2147483647 + wrap64 (0 + ((0 + 1 : Nat) - (0 : Nat) : Int))) = 2147483648 by simp only [wrap64]; omega]
  have h2 : may 0 [⟨0, [tA], []⟩, ⟨2147483648, [tA], []⟩] = 1 := by
    unfold may
    rw [stp_old, fine_a, if_pos (by decide)]
    unfold may lst
    rw [stp_old, fine_a, if_neg (by decide)]
  unfold invX
  rw [h1, e2, h2]; rfl
theorem chk_a10 : chkX [⟨0, [], [tA10]⟩] = (0, 80) := by
  have h1 : may 0 [⟨0, [], [tA10]⟩] = 0 := by
    unfold may
    rw [stp_new, fine_a10, if_neg (by decide)]
  unfold chkX
  rw [h1]; rfl
theorem chk_256 : chkX [⟨0, [], [nought 256]⟩] = (0, 0) := by
  have h1 : may 0 [⟨0, [], [nought 256]⟩] = 1 := by
    unfold may
    rw [stp_new, fine_most, if_pos (by decide)]
    rfl
  unfold chkX
  rw [h1]; rfl
theorem chk_257 : chkX [⟨0, [nought 257], []⟩] = (0, 80) := by
  have h1 : may 0 [⟨0, [nought 257], []⟩] = 0 := by
    unfold may
    rw [stp_old, fine_long, if_neg (by decide)]
  unfold chkX
  rw [h1]; rfl
theorem tch_nil (n : Nat) (h : n ≤ 1048576) : tchX [] (n : Int) = (0, List.replicate n false) := by
  unfold tchX
  rw [if_neg (by simp [may]; omega), Int.toNat_natCast]
  rfl
theorem tch_more : tchX [] 1048577 = (80, []) := by
  unfold tchX
  rw [if_pos (.inr (.inr (by decide)))]
theorem app_nil : apX [] [] = (0, []) := rfl
theorem no_hub : HuB [] := fun x hx => by cases hx
theorem touch_most (W : World) : Calls Try.prog 53 #[.slice none 0 0, .int .i64 1048576] W fun e w' => Below W.heap.size W w' ∧ ∃ q c, e = .returned (.tuple #[.slice q 1048576 c, .int .i64 0]) := by
  have key : ∀ (nn : Nat) (N : Int), (nn : Int) = N → nn ≤ 1048576 → Calls Try.prog 53 #[.slice none 0 0, .int .i64 N] W fun e w' => Below W.heap.size W w' ∧ ∃ q c, e = .returned (.tuple #[.slice q nn c, .int .i64 0]) := fun nn N hN h => by
    subst hN
    have := touched_any W none 0 0 [] (nn : Int) rfl (by omega) (hu_none W) no_hub
    rw [tch_nil nn h] at this
    refine this.mono ?_
    rintro e w' ⟨hb, v, rfl, ho⟩
    obtain ⟨q, c, rfl⟩ := row_form ho
    rw [List.length_replicate]
    exact ⟨hb, q, c, rfl⟩
  exact key 1048576 1048576 (by omega) (by omega)
theorem touch_more (W : World) : Calls Try.prog 53 #[.slice none 0 0, .int .i64 1048577] W fun e w' => Below W.heap.size W w' ∧ ∃ q c, e = .returned (.tuple #[.slice q 0 c, .int .i64 80]) := by
  have := touched_any W none 0 0 [] 1048577 rfl (by omega) (hu_none W) no_hub
  rw [tch_more] at this
  refine this.mono ?_
  rintro e w' ⟨hb, v, rfl, ho⟩
  obtain ⟨q, c, rfl⟩ := row_form ho
  exact ⟨hb, q, c, rfl⟩
theorem two_row (W : World) (p1 p2 : Int) : HuRow (((W.alloc (.cells #[.string ⟨#[97]⟩] 9)).alloc (.cells #[.string ⟨#[97]⟩] 9)).alloc (.cells #[.int .i64 p1, .slice none 0 0, .slice (some ⟨W.heap.size, 0, none⟩) 1 1, .int .i64 p2, .slice none 0 0, .slice (some ⟨W.heap.size + 1, 0, none⟩) 1 1] 47)) (some ⟨W.heap.size + 1 + 1, 0, none⟩) [⟨p1, [], [tA]⟩, ⟨p2, [], [tA]⟩] := by
  have h := hu_lit2 (W := (W.alloc (.cells #[.string tA] 9)).alloc (.cells #[.string tA] 9)) ⟨p1, [], [tA]⟩ ⟨p2, [], [tA]⟩ 47 (tx_none _) ((lit1t W tA 9).later ((Below.refl _ _).alloc (Nat.le_refl _) _)) (tx_none _) (lit1t (W.alloc (.cells #[.string tA] 9)) tA 9)
  rw [show ((W.alloc (.cells #[.string tA] 9)).alloc (.cells #[.string tA] 9)).heap.size = W.heap.size + 1 + 1 by simp, show (W.alloc (.cells #[.string tA] 9)).heap.size = W.heap.size + 1 by simp] at h
  exact h
theorem one_row (W : World) (t : Tx) : HuRow ((W.alloc (.cells #[.string t] 9)).alloc (.cells #[.int .i64 0, .slice none 0 0, .slice (some ⟨W.heap.size, 0, none⟩) 1 1] 47)) (some ⟨W.heap.size + 1, 0, none⟩) [⟨0, [], [t]⟩] := by
  have h := hu_lit1 (W := W.alloc (.cells #[.string t] 9)) ⟨0, [], [t]⟩ 47 (tx_none _) (lit1t W t 9)
  rw [show (W.alloc (.cells #[.string t] 9)).heap.size = W.heap.size + 1 by simp] at h
  exact h
theorem old_row (W : World) (t : Tx) : HuRow ((W.alloc (.cells #[.string t] 9)).alloc (.cells #[.int .i64 0, .slice (some ⟨W.heap.size, 0, none⟩) 1 1, .slice none 0 0] 47)) (some ⟨W.heap.size + 1, 0, none⟩) [⟨0, [t], []⟩] := by
  have h := hu_lit1 (W := W.alloc (.cells #[.string t] 9)) ⟨0, [t], []⟩ 47 (lit1t W t 9) (tx_none _)
  rw [show (W.alloc (.cells #[.string t] 9)).heap.size = W.heap.size + 1 by simp] at h
  exact h
set_option maxRecDepth 100000 in
set_option maxHeartbeats 1000000 in
theorem hunkNames_any (w : World) : Calls Try.prog 9 #[] w fun e w' => e = .returned (.bool true) ∧ Below w.heap.size w w' := by
  have nob : HuB [] := fun x hx => by cases hx
  have cA := apply_any w none 0 0 [] none 0 0 [] rfl (by omega) (hu_none w) nob rfl (by omega) (tx_none w) (by decide)
  rw [app_nil] at cA
  have sA : tA.size ≤ 1000 := by decide
  have bA : ∀ (p1 p2 : Int), HuB [⟨p1, [], [tA]⟩, ⟨p2, [], [tA]⟩] := fun p1 p2 => hub_new p1 tA sA (hub_new p2 tA sA nob)
  have bB : ∀ t : Tx, t.size ≤ 1000 → HuB [⟨0, [], [t]⟩] := fun t ht => hub_new 0 t ht nob
  have bC : ∀ t : Tx, t.size ≤ 1000 → HuB [⟨0, [t], []⟩] := fun t ht => hub_old 0 t ht nob
  have cC := fun W => check_any _ _ 2 2 [⟨2147483647, [], [tA]⟩, ⟨2147483648, [], [tA]⟩] rfl (by omega) (two_row W 2147483647 2147483648) (bA _ _)
  have cI := fun W => invert_any _ _ 2 2 [⟨0, [], [tA]⟩, ⟨2147483647, [], [tA]⟩] rfl (by omega) (two_row W 0 2147483647) (bA _ _)
  have cD := fun W => check_any _ _ 1 1 [⟨0, [], [tA10]⟩] rfl (by omega) (one_row W ⟨#[97, 10]⟩) (bB tA10 (by decide))
  have cE := fun W => check_any _ _ 1 1 [⟨0, [], [nought 256]⟩] rfl (by omega) (one_row W (nought 256)) (bB _ (by rw [nought_size]; omega))
  have cF := fun W => check_any _ _ 1 1 [⟨0, [nought 257], []⟩] rfl (by omega) (old_row W (nought 257)) (bC _ (by rw [nought_size]; omega))
  rw [chk_two] at cC
  rw [inv_two] at cI
  rw [chk_a10] at cD
  rw [chk_256] at cE
  rw [chk_257] at cF
  clear bA bB bC nob sA
  go_enter Try.func9, Try.ntmps9
  go_wp2_with fail
  refine cA.mono ?_
  rintro e w1 ⟨hb1, va, rfl, oa⟩
  obtain ⟨qa, ca, rfl⟩ := row_form oa
  have hs1 := hb1.size
  have HB1 := Lib.hid hb1
  have cC1 := cC w1
  clear cA hb1 oa cC
  go_wp2_with fail
  refine cC1.mono ?_
  rintro e w2 ⟨rfl, hb2⟩
  have hbw2 : Below w.heap.size w w2 := (((HB1.out.alloc hs1 _).alloc (by simp; omega) _).alloc (by simp; omega) _).trans (hb2.mono (by simp; omega))
  have hs2 := hbw2.size
  have HB2 := Lib.hid hbw2
  have cI2 := cI w2
  clear hb2 hbw2 cC1 cI
  go_wp2_with fail
  refine cI2.mono ?_
  rintro e w3 ⟨hb3, vb, ub, rfl, ob⟩
  obtain ⟨qb, cb, rfl⟩ := row_form ob.row
  have hbw3 : Below w.heap.size w w3 := (((HB2.out.alloc hs2 _).alloc (by simp; omega) _).alloc (by simp; omega) _).trans (hb3.mono (by simp; omega))
  have hs3 := hbw3.size
  have HB3 := Lib.hid hbw3
  have cD3 := cD w3
  clear hb3 hbw3 cI2 cD ob
  go_wp2_with fail
  refine cD3.mono ?_
  rintro e w4 ⟨rfl, hb4⟩
  have hbw4 : Below w.heap.size w w4 := ((HB3.out.alloc hs3 _).alloc (by simp; omega) _).trans (hb4.mono (by simp; omega))
  have hs4 := hbw4.size
  have HB4 := Lib.hid hbw4
  obtain ⟨C4, m4, v4⟩ := nought_made 256 256 (by omega) (by omega) w4
  have cE4 := cE (w4.alloc (.cells C4 5))
  rw [show (w4.alloc (.cells C4 5)).heap.size = w4.heap.size + 1 by simp] at cE4
  clear hb4 hbw4 cD3 cE
  go_wp2_with fail
  refine cE4.mono ?_
  rintro e w5 ⟨rfl, hb5⟩
  have hbw5 : Below w.heap.size w w5 := (((HB4.out.alloc hs4 _).alloc (by simp; omega) _).alloc (by simp; omega) _).trans (hb5.mono (by simp; omega))
  have hs5 := hbw5.size
  have HB5 := Lib.hid hbw5
  obtain ⟨C5, m5, v5⟩ := nought_made 257 257 (by omega) (by omega) w5
  have cF5 := cF (w5.alloc (.cells C5 5))
  rw [show (w5.alloc (.cells C5 5)).heap.size = w5.heap.size + 1 by simp] at cF5
  clear hb5 hbw5 cE4 cF m4 v4
  go_wp2_with fail
  refine cF5.mono ?_
  rintro e w6 ⟨rfl, hb6⟩
  have hbw6 : Below w.heap.size w w6 := (((HB5.out.alloc hs5 _).alloc (by simp; omega) _).alloc (by simp; omega) _).trans (hb6.mono (by simp; omega))
  have hs6 := hbw6.size
  have HB6 := Lib.hid hbw6
  have cT6 := touch_most w6
  clear hb6 hbw6 cF5 m5 v5
  go_wp2_with fail
  refine cT6.mono ?_
  rintro e w7 ⟨hb7, qt, ct, rfl⟩
  have hbw7 := HB6.out.trans (hb7.mono hs6)
  have hs7 := hbw7.size
  have HB7 := Lib.hid hbw7
  have cU7 := touch_more w7
  clear hb7 hbw7 cT6
  go_wp2_with fail
  refine cU7.mono ?_
  rintro e w8 ⟨hb8, qu, cu, rfl⟩
  have HB8 := Lib.hid (HB7.out.trans (hb8.mono hs7))
  clear hb8 cU7
  go_wp2_with fail
  go_ret
  exact ⟨rfl, HB8.out⟩
end Go.Proofs.Ytjmnbnlhahbcjaa
