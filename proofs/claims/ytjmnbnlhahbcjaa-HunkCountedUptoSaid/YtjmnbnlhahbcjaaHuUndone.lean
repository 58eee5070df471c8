/- HunkUndone: the law's walk. -/
import Derived.Test.YtjmnbnlhahbcjaaHuUnd
namespace Go.Proofs.Ytjmnbnlhahbcjaa
open Go Go.RowKit

theorem GivesA.takes {w w' : World} {x : Int × List Tx} {e : Ending} (h : GivesA w x e w') : Below w.heap.size w w' ∧ ∃ q c, e = .returned (.tuple #[.slice q x.2.length c, .int .i64 x.1]) ∧ TxP w' q c x.2 := by
  obtain ⟨hb, v, e, ho⟩ := h
  obtain ⟨q, c, rfl⟩ := row_form ho
  exact ⟨hb, q, c, e, row_at rfl ho, own_facts ho⟩
set_option maxRecDepth 100000 in
set_option maxHeartbeats 4000000 in
theorem hunkUndone_any (w : World) (p : Option Addr) (n c : Nat) (hs : List Hu) (q : Option Addr) (m d : Nat) (a : List Tx) (hn : hs.length = n) (hnb : n ≤ 2513169434900) (hr : HuRow w p hs) (hB : HuB hs) (hm : a.length = m) (hq : TxP w q d a) (hsum : m + comesN hs ≤ 1048576) :
    Calls Try.prog 10 #[.slice p n c, .slice q m d] w fun e w' => e = .returned (.bool true) ∧ Below w.heap.size w w' := by
  have cW := awake_any w
  have nob : HuB [] := fun x hx => by cases hx
  have cN := fun W (hb : Below w.heap.size w W) => (apply_any W q m d a none 0 0 [] rfl (by omega) (fun _ hi => absurd hi (Nat.not_lt_zero _)) nob hm (by omega) (hq.later hb) (by simp [comesN]; omega)).mono fun e w' h => GivesA.takes h
  have cT := fun W px cx (hb : Below w.heap.size w W) (hx : TxP W px cx a) => refTexts_any W px q m m cx d a a hx.1 (hq.later hb).1 hm hm (by omega) (by omega)
  have cA := fun W (hb : Below w.heap.size w W) => (apply_any W q m d a p n c hs hn hnb (hr.later hb) hB hm (by omega) (hq.later hb) (by omega)).mono fun e w' h => GivesA.takes h
  have cI := fun W (hb : Below w.heap.size w W) => invert_any W p n c hs hn hnb (hr.later hb) hB
  have hil : (inv 0 hs).length = n := by rw [inv_len]; exact hn
  have cF := fun W ph ch px cx (t : List Tx) (N : Nat) (hx : HuRow W ph (inv 0 hs)) (hy : TxP W px cx t) (hN : t.length = N) (hNb : N ≤ 8796093021952) => fits_any W ph n ch (inv 0 hs) px N cx t hil (by omega) hx (inv_b 0 hs hB) hN hNb hy
  have cU := fun W px cx (t : List Tx) (N : Nat) (hb : Below w.heap.size w W) (hy : TxP W px cx t) (hN : t.length = N) (hNb : N ≤ 8796093021952) (hs' : N + goesN hs ≤ 8796093021952) => (undo_any W px N cx t p n c hs hn hnb (hr.later hb) hB hN hNb hy hs').mono fun e w' h => GivesA.takes h
  have cJ := fun W ph ch (hx : HuRow W ph (inv 0 hs)) => invert_any W ph n ch (inv 0 hs) hil hnb hx (inv_b 0 hs hB)
  have cS := fun W ph ch (hb : Below w.heap.size w W) (hx : HuRow W ph hs) => refSameT_any W ph p n n ch c hs hx (hr.later hb) hn hn (by omega) (fun h hh => ⟨by have := (hB h hh).1; omega, by have := (hB h hh).2.1; omega⟩)
  simp only [apX_nil, decide_true, hm] at cN cT
  clear hr hq nob
  go_enter Try.func10, Try.ntmps10
  go_wp2_with fail
  refine cW.mono ?_
  rintro e w1 ⟨rfl, hb1⟩
  have cN1 := cN w1 hb1
  have HB1 := Lib.hid hb1
  have hs1 := hb1.size
  clear cW cN hb1
  go_wp2_with fail
  refine cN1.mono ?_
  rintro e w2 ⟨hb2, px, cx, rfl, hx⟩
  have hbw2 := HB1.out.trans (hb2.mono hs1)
  have cT2 := cT w2 px cx hbw2 hx
  have HB2 := Lib.hid hbw2
  have hs2 := hbw2.size
  clear cN1 hb2 hbw2 hx
  go_wp2_with fail
  refine cT2.mono ?_
  rintro e w3 ⟨rfl, hb3⟩
  have hbw3 := HB2.out.trans (hb3.mono hs2)
  have cA3 := cA w3 hbw3
  have HB3 := Lib.hid hbw3
  have hs3 := hbw3.size
  clear cT2 hb3 hbw3 cA
  by_cases hbad : (fitX a hs).2 = 0
  · obtain ⟨u1, u2, u3, u4⟩ := undone (by rw [hm]; exact hsum) hB hbad
    have hlen := ap_len 0 hs (fitX_zero hbad).2.2.2 (Nat.zero_le _)
    have hap : apX a hs = (0, ap a 0 hs) := by unfold apX; rw [if_pos hbad]
    have hund : undX (ap a 0 hs) hs = (0, a) := by
      unfold undX
      rw [u1]
      unfold apX
      rw [if_pos rfl, if_pos (by rw [u2]), u3]
    rw [hap] at cA3
    simp only [u1] at cI
    rw [hm] at hlen
    obtain ⟨N, hN⟩ : ∃ N, (ap a 0 hs).length = N := ⟨_, rfl⟩
    have cF' := fun W ph ch px cx hx hy => cF W ph ch px cx (ap a 0 hs) N hx hy hN (by omega)
    have cU' := fun W px cx hb hy => cU W px cx (ap a 0 hs) N hb hy hN (by omega) (by omega)
    simp only [u2] at cF'
    simp only [hund] at cU'
    simp only [u4] at cJ
    simp only [hN] at cA3
    simp only [hm] at cU'
    rw [hN] at hlen
    clear hap hund u1 u2 u3 u4 hbad cF cU
    go_wp2_with fail
    refine cA3.mono ?_
    rintro e w4 ⟨hb4, py, cy, rfl, hy⟩
    have hbw4 := HB3.out.trans (hb4.mono hs3)
    have cI4 := cI w4 hbw4
    have HB4 := Lib.hid hbw4
    have HY4 := Lib.hid hy
    have hs4 := hbw4.size
    clear cA3 hb4 hbw4 hy cI
    go_wp2_with fail
    refine cI4.mono ?_
    rintro e w5 ⟨hb5, v, us, rfl, ho⟩
    obtain ⟨ph, ch, rfl, hrh⟩ := ho.reads
    dsimp only at hrh
    dsimp only
    rw [hil]
    have hbw5 := HB4.out.trans (hb5.mono hs4)
    have hy5 := HY4.out.later hb5
    have cF5 := cF' w5 ph ch py cy hrh hy5
    have HB5 := Lib.hid hbw5
    have HY5 := Lib.hid hy5
    have HRH5 := Lib.hid hrh
    have hs5 := hbw5.size
    clear cI4 hb5 hbw5 ho hrh cF' hy5 HY4
    go_wp2_with fail
    refine cF5.mono ?_
    rintro e w6 ⟨rfl, hb6⟩
    have hbw6 := HB5.out.trans (hb6.mono hs5)
    have cU6 := cU' w6 py cy hbw6 (HY5.out.later hb6)
    have HB6 := Lib.hid hbw6
    have HRH6 := Lib.hid (HRH5.out.later hb6)
    have hs6 := hbw6.size
    clear cF5 hb6 hbw6 cU' HY5 HRH5
    go_wp2_with fail
    refine cU6.mono ?_
    rintro e w7 ⟨hb7, pz, cz, rfl, hz⟩
    have hbw7 := HB6.out.trans (hb7.mono hs6)
    have cJ7 := cJ w7 ph ch (HRH6.out.later hb7)
    have HB7 := Lib.hid hbw7
    have HZ7 := Lib.hid hz
    have hs7 := hbw7.size
    clear cU6 hb7 hbw7 cJ HRH6 hz
    go_wp2_with fail
    refine cJ7.mono ?_
    rintro e w8 ⟨hb8, v8, us8, rfl, ho8⟩
    obtain ⟨pk, ck, rfl, hrk⟩ := ho8.reads
    dsimp only at hrk
    dsimp only
    rw [hn]
    have hbw8 := HB7.out.trans (hb8.mono hs7)
    have cT8 := cT w8 pz cz hbw8 (HZ7.out.later hb8)
    have HB8 := Lib.hid hbw8
    have HRK := Lib.hid hrk
    have hs8 := hbw8.size
    clear cJ7 hb8 hbw8 HZ7 hrk ho8 cT
    go_wp2_with fail
    refine cT8.mono ?_
    rintro e w9 ⟨rfl, hb9⟩
    have hbw9 := HB8.out.trans (hb9.mono hs8)
    have cS9 := cS w9 pk ck hbw9 (HRK.out.later hb9)
    have HB9 := Lib.hid hbw9
    have hs9 := hbw9.size
    clear cT8 hb9 hbw9 HRK cS
    go_wp2_with fail
    refine cS9.mono ?_
    rintro e w10 ⟨rfl, hb10⟩
    have HB10 := Lib.hid (HB9.out.trans (hb10.mono hs9))
    clear cS9 hb10
    go_wp2_with fail
    go_ret
    exact ⟨rfl, HB10.out⟩
  · have hap : apX a hs = ((fitX a hs).2, []) := by unfold apX; rw [if_neg hbad]
    rw [hap] at cA3
    generalize (fitX a hs).2 = fe at *
    have hne : (fe != 0) = true := by rw [bne, beq_false_of_ne hbad]; rfl
    clear hap cI cF cU cJ cS cT
    go_wp2_with fail
    refine cA3.mono ?_
    rintro e w4 ⟨hb4, py, cy, rfl, hy⟩
    have HB4 := Lib.hid (HB3.out.trans (hb4.mono hs3))
    clear cA3 hb4 hy
    go_wp2_with fail
    go_ret
    exact ⟨rfl, HB4.out⟩
end Go.Proofs.Ytjmnbnlhahbcjaa
