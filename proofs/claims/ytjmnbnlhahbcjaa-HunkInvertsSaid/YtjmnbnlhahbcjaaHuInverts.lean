/- HunkInverts: the law's walk. -/
import Derived.Test.YtjmnbnlhahbcjaaHuSpoil
import Derived.Test.YtjmnbnlhahbcjaaHuInvW
import Derived.Test.YtjmnbnlhahbcjaaHuRefIv
import Derived.Test.YtjmnbnlhahbcjaaHuSame
namespace Go.Proofs.Ytjmnbnlhahbcjaa
open Go Go.RowKit

theorem row_but {S : Nat → Prop} {w W : World} {B z : Nat} {e : TypeId} {v : Value} {n : Nat} {cs : List Value} (h : w.ownsRow B e z v n cs) (hk : KeptBut S w W) (hS : ∀ g, v.ownBlock = some g → ¬ S g) : W.ownsRow B e z v n cs := by
  refine ⟨h.1, ?_⟩
  rcases h.2 with h' | ⟨g, cap, cur, hv, hB, hg, rest⟩
  · exact .inl h'
  · have hlt : g < w.heap.size := (Array.getElem?_eq_some_iff.1 hg).1
    exact .inr ⟨g, cap, cur, hv, hB, by rw [hk.block g hlt (hS g (by rw [hv]; rfl))]; exact hg, rest⟩
theorem HuOwn.but {S : Nat → Prop} {B : Nat} {w W : World} {v : Value} {hs : List Hu} {us : List (Value × Value)} (h : HuOwn B w v hs us) (hk : KeptBut S w W) (hS : ∀ x ∈ v :: flatV us, ∀ g, x.ownBlock = some g → ¬ S g) : HuOwn B W v hs us :=
  ⟨h.len, row_but h.row hk (hS _ (.head _)), fun i hi hi' => ⟨row_but (h.subs i hi hi').1 hk (hS _ (.tail _ (flatV_mem.2 ⟨_, List.getElem_mem hi', .inl rfl⟩))), row_but (h.subs i hi hi').2 hk (hS _ (.tail _ (flatV_mem.2 ⟨_, List.getElem_mem hi', .inr rfl⟩)))⟩, h.dis, h.top⟩
theorem HuOwn.range {B : Nat} {W : World} {v : Value} {hs : List Hu} {us : List (Value × Value)} (h : HuOwn B W v hs us) : ∀ x ∈ v :: flatV us, ∀ g, x.ownBlock = some g → B ≤ g ∧ g < W.heap.size := fun x hx g hg => by
  rcases List.mem_cons.1 hx with rfl | hx
  · exact h.row.lt g hg
  · exact h.lt x hx g hg
theorem invX_b {hs : List Hu} (h : HuB hs) : HuB (invX hs).2 := by
  have h0 : HuB [] := fun x hx => by cases hx
  unfold invX
  split
  · exact h0
  · split
    · exact h0
    · exact inv_b 0 hs h
theorem invX_len (hs : List Hu) : (invX hs).2.length ≤ hs.length := by
  unfold invX
  split
  · exact Nat.zero_le _
  · split
    · exact Nat.zero_le _
    · rw [inv_len]; exact Nat.le_refl _
set_option maxRecDepth 100000 in
set_option maxHeartbeats 8000000 in
theorem hunkInverts_any (w : World) (p : Option Addr) (n c : Nat) (hs : List Hu) (hn : hs.length = n) (hnb : n ≤ 2513169434860) (hr : HuRow w p hs) (hB : HuB hs) :
    Calls Try.prog 7 #[.slice p n c] w fun e w' => e = .returned (.bool true) ∧ Below w.heap.size w w' := by
  have cT := twin_any w p n c hs hn (by omega) hr hB
  have cR := fun W (hb : Below w.heap.size w W) => refInvert_any W p n c hs hn (by omega) (hr.later hb) hB
  have cI := fun W ph ch (hx : HuRow W ph hs) => invert_any W ph n ch hs hn (by omega) hx hB
  have cS := fun W ph ch (hb : Below w.heap.size w W) (hx : HuRow W ph hs) => refSameT_any W ph p n n ch c hs hx (hr.later hb) hn hn (by omega) (fun h hh => ⟨by have := (hB h hh).1; omega, by have := (hB h hh).2.1; omega⟩)
  have hxb := invX_b hB
  have hxl := invX_len hs
  rw [hn] at hxl
  have hN := Lib.hid hn
  clear hr hB hn
  generalize invX hs = X at *
  obtain ⟨xe, xl⟩ := X
  dsimp only at *
  obtain ⟨N, hXN⟩ : ∃ N, xl.length = N := ⟨_, rfl⟩
  rw [hXN] at hxl
  have cX := fun W px cx py cy (hx : HuRow W px xl) (hy : HuRow W py xl) => refSameT_any W px py N N cx cy xl hx hy hXN hXN (by omega) (fun h hh => ⟨by have := (hxb h hh).1; omega, by have := (hxb h hh).2.1; omega⟩)
  have cP := fun W S lo q d us ho hlo hS => spoil_any W S lo q N d xl us ho hXN (by omega) hxb hlo hS
  have HXN := Lib.hid hXN
  have hw1 : IntKind.i64.wrap ((N : Int) + 20) = (N : Int) + 20 := by rw [Go.IntWalk.i64_left]; unfold wrap64; omega
  simp only [Int.natCast_add] at cP
  clear hxb hXN
  go_enter Try.func7, Try.ntmps7
  go_wp2_with fail
  refine cT.mono ?_
  rintro e w1 ⟨hb1, ph, ch, us, rfl, hrh, -⟩
  rw [hN.out]
  have hs1 := hb1.size
  have HB1 := Lib.hid hb1
  have HRH1 := Lib.hid hrh
  have cR1 := cR w1 hb1
  clear cT hb1 hrh cR
  go_wp2_with fail
  refine cR1.mono ?_
  rintro e w2 ⟨hb2, vW, uW, rfl, oW⟩
  obtain ⟨pW, kW, rfl, hrW⟩ := oW.reads
  dsimp only at hrW
  dsimp only
  rw [HXN.out]
  have HRW2 := Lib.hid hrW
  have H12 := Lib.hid hb2
  have t12 := hb2.size
  have cI2 := cI w2 ph ch (HRH1.out.later hb2)
  clear cR1 hb2 oW hrW
  go_wp2_with fail
  refine cI2.mono ?_
  rintro e w3 ⟨hb3, vA, uA, rfl, oA⟩
  obtain ⟨pA, kA, rfl, hrA⟩ := oA.reads
  dsimp only at hrA
  dsimp only
  rw [HXN.out]
  have OA3 := Lib.hid oA
  have HRA3 := Lib.hid hrA
  have H23 := Lib.hid hb3
  have t23 := hb3.size
  have H13 := Lib.hid (H12.out.trans (hb3.mono t12))
  have cI3 := cI w3 ph ch (HRH1.out.later H13.out)
  clear cI2 hb3 oA hrA cI
  go_wp2_with fail
  refine cI3.mono ?_
  rintro e w4 ⟨hb4, vB, uB, rfl, oB⟩
  obtain ⟨pB, kB, rfl, hrB⟩ := oB.reads
  dsimp only at hrB
  dsimp only
  rw [HXN.out]
  have OB4 := Lib.hid oB
  have H34 := Lib.hid hb4
  have t34 := hb4.size
  have H24 := Lib.hid (H23.out.trans (hb4.mono t23))
  have cX4 := cX w4 pA kA pW kW (HRA3.out.later hb4) (HRW2.out.later H24.out)
  clear cI3 hb4 oB hrB
  go_wp2_with fail
  refine cX4.mono ?_
  rintro e w5 ⟨rfl, hb5⟩
  have H45 := Lib.hid hb5
  have t45 := hb5.size
  have H25 := Lib.hid (H24.out.trans (hb5.mono H24.out.size))
  have H35 := Lib.hid (H34.out.trans (hb5.mono t34))
  have oA5 := OA3.out.later H35.out
  try dsimp only at oA5
  rw [HXN.out] at oA5
  have cP5 := cP w5 (fun k => w2.heap.size ≤ k ∧ k < w3.heap.size) w2.heap.size pA kA uA oA5 (by omega) (by
    have hrg := OA3.out.range
    try dsimp only at hrg
    rw [HXN.out] at hrg
    exact hrg)
  clear cX4 hb5 oA5 cP
  go_wp2_with fail
  refine cP5.mono ?_
  rintro e w6 ⟨rfl, hk6⟩
  have h26 : Below w2.heap.size w2 w6 := hk6.below H25.out (by omega) (fun k hk => hk.1)
  have ob6 : HuOwn w3.heap.size w6 (.slice pB xl.length kB) xl uB := (OB4.out.later H45.out).but hk6 (fun x hx g hg e => by have := (OB4.out.range x hx g hg).1; omega)
  obtain ⟨pB', kB', eB, hrB6⟩ := ob6.reads
  injection eB with eB1 eB2 eB3
  subst eB1 eB3
  have H26 := Lib.hid h26
  have h16 : Below w1.heap.size w1 w6 := H12.out.trans (h26.mono t12)
  have H16 := Lib.hid h16
  have cX6 := cX w6 pB kB pW kW hrB6 (HRW2.out.later h26)
  clear cP5 hk6 h26 h16 ob6 hrB6 cX
  go_wp2_with fail
  refine cX6.mono ?_
  rintro e w7 ⟨rfl, hb7⟩
  have h17 := H16.out.trans (hb7.mono H16.out.size)
  have hw7 := HB1.out.trans (h17.mono hs1)
  have cS7 := cS w7 ph ch hw7 (HRH1.out.later h17)
  have HW7 := Lib.hid hw7
  clear cX6 hb7 h17 hw7 cS
  go_wp2_with fail
  refine cS7.mono ?_
  rintro e w8 ⟨rfl, hb8⟩
  have HW8 := Lib.hid (HW7.out.trans (hb8.mono HW7.out.size))
  clear cS7 hb8
  go_wp2_with fail
  go_ret
  exact ⟨rfl, HW8.out⟩
end Go.Proofs.Ytjmnbnlhahbcjaa
