/- Texts of the proof, merged: LbTz, LbCount, LbMyList, NumCopy, LbSays, LbText, LbOne, LbParse, PoRead, StepOwn, PoPrint, PoParse. -/
import Derived.Test.YtenbbefahpkhpaaGreatDoorEr1
import Derived.Test.YtenbbefahpkhpaaGreatDoorEr2
import Derived.Test.YtenbbefahpkhpaaGreatDoorEr3
import Derived.Test.YtenbbefahpkhpaaGreatDoorEr4
import Derived.Lib.LaidTab
import Derived.Laws.Bits64b
import Derived.Laws.Bits128
import Derived.Laws.MakeOwn
import Derived.Laws.AppendOwnNone
import Derived.Laws.OwnMore
import Derived.Deep.RegionHeld3
import Derived.Deep.RegionLaw
import Derived.Laws.AppendOwn
import Derived.OwnWalk
import Derived.RowKit
/- The library's count of trailing zeros, by contract, over its table. -/
namespace Go.Proofs.YtenbbefahpkhpaaGreatDoor
open Go.RowKit

/-- The library's table, as the world holds it. -/
def BTab (w : World) : Prop := Lib.TabIs Tryz.prog w "math/bits.deBruijn64tab" .u8 (Lib.deBruijn64tab.map fun n : Nat => (n : Int))
theorem gBt : Tryz.prog.globalNamed "math/bits.deBruijn64tab" = some 0 := by kernel_rfl
theorem BTab.below {w w' : World} (h : BTab w) (hb : Below w.heap.size w w') : BTab w' := by
  unfold BTab Lib.TabIs World.var? at h ⊢
  rw [gBt] at h ⊢
  simp only [Option.bind_some] at h ⊢
  have hg : 0 < w.heap.size := by
    cases hh : w.heap[0]? with
    | none => rw [hh] at h; cases h
    | some o => exact (Array.getElem?_eq_some_iff.1 hh).1
  rw [hb.block _ hg]; exact h
theorem BTab.at {w : World} (h : BTab w) (j : Nat) (hj : j < 64) : w.cell? ⟨0, j, none⟩ = some (.int .u8 (Lib.deBruijn64tab.getD j 0 : Nat)) := by
  have h1 := Lib.TabIs.cell h gBt j (by rw [List.length_map]; exact hj)
  rw [h1]
  have hl : Lib.deBruijn64tab.length = 64 := rfl
  rw [List.getD_eq_getElem?_getD, List.getD_eq_getElem?_getD, List.getElem?_map, List.getElem?_eq_getElem (by omega)]
  rfl

theorem tz_key (x a : Nat) (hx : x < 18446744073709551616) (hx0 : x ≠ 0) (hlow : x &&& (18446744073709551616 - x) = a) :
    IntKind.u64.wrap (bits BinOp.and IntKind.u64 (x : Int) (IntKind.u64.wrap (-(x : Int))) * 285870213051353865) / 288230376151711744 = ((a * 285870213051353865 % 18446744073709551616 / 288230376151711744 : Nat) : Int) := by
  have e1 : IntKind.u64.wrap (-(x : Int)) = ((18446744073709551616 - x : Nat) : Int) := by rw [IntKind.wrap_u64]; omega
  rw [e1, bits_and_u64_nat x _ hx (by omega), hlow, IntKind.wrap_u64]
  omega
set_option maxHeartbeats 1000000 in
theorem tz_core (x k idx : Nat) (w : World) (hx0 : ((x : Int) == 0) = false)
    (key : IntKind.u64.wrap (bits BinOp.and IntKind.u64 (x : Int) (IntKind.u64.wrap (-(x : Int))) * 285870213051353865) / 288230376151711744 = (idx : Int))
    (hi : idx < 64) (hk : k < 64) (hcell : w.cell? ⟨0, idx, none⟩ = some (.int .u8 k)) :
    Calls Tryz.prog 86 #[.int .u64 x] w fun e w' => e = .returned (.int .i64 k) ∧ w = w' := by
  go_enter Tryz.func86, Tryz.ntmps86
  go_wp2_with (simp only [key])
  go_ret
  exact ⟨rfl, rfl⟩
theorem tz_any (x : Nat) (w : World) (hx : x < 18446744073709551616) (h0 : x ≠ 0) (hT : BTab w) :
    Calls Tryz.prog 86 #[.int .u64 x] w fun e w' => e = .returned (.int .i64 (Lib.ctz 64 x : Nat)) ∧ w = w' := by
  obtain ⟨hlow, hk⟩ := Lib.lowest_bit 64 x h0 hx
  obtain ⟨hi, htab⟩ := Lib.deBruijn64_at _ hk
  have hcell := hT.at _ hi
  rw [htab] at hcell
  exact tz_core x _ _ w (by simp; omega) (tz_key x _ hx h0 hlow) hi hk hcell
end Go.Proofs.YtenbbefahpkhpaaGreatDoor
/- How many compartments: the library's count of ones, and label's. -/
namespace Go.Proofs.YtenbbefahpkhpaaGreatDoor
open Go.RowKit

theorem and_num (x : Int) (a m : Nat) (h : x = (a : Int)) (ha : a < 18446744073709551616) (hm : m < 18446744073709551616) : bits .and .u64 x (m : Int) = ((a &&& m : Nat) : Int) := by
  rw [h]; exact u64_and_nat a m ha hm
theorem ones_cast (t c : Nat) (h : (t + t / 256 + (t + t / 256) / 65536 + (t + t / 256 + (t + t / 256) / 65536) / 4294967296) % 128 = c) :
    ((t : Int) + (t : Int) / 256 + ((t : Int) + (t : Int) / 256) / 65536 + ((t : Int) + (t : Int) / 256 + ((t : Int) + (t : Int) / 256) / 65536) / 4294967296) % 128 = (c : Int) := by
  have hx : (t : Int) + (t : Int) / 256 = ((t + t / 256 : Nat) : Int) := by omega
  rw [hx]
  generalize t + t / 256 = x at *
  have hy : (x : Int) + (x : Int) / 65536 = ((x + x / 65536 : Nat) : Int) := by omega
  rw [hy]
  generalize x + x / 65536 = y at *
  omega
set_option maxRecDepth 100000 in
set_option maxHeartbeats 1000000 in
theorem onesCount_any (a : Nat) (w : World) (ha : a < 18446744073709551616) :
    Calls Tryz.prog 109 #[.int .u64 a] w fun e w' => e = .returned (.int .i64 (cnt a : Nat)) ∧ w = w' := by
  have l1 := ones1_lt a
  have l2 := ones2_lt (ones1 a)
  have l3 := ones3_lt (ones2 (ones1 a))
  obtain ⟨lx, ly, lz, hz⟩ := ones_end a ha _ _ _ rfl rfl rfl
  obtain ⟨p, hp⟩ : ∃ p, p = (a / 2 &&& 6148914691236517205) := ⟨_, rfl⟩
  obtain ⟨q, hq⟩ : ∃ q, q = (a &&& 6148914691236517205) := ⟨_, rfl⟩
  have e1 : bits .and .u64 ((a : Int) / 2) 6148914691236517205 = (p : Int) := by rw [hp]; exact and_num _ _ 6148914691236517205 (by omega) (by omega) (by decide)
  have e2 : bits .and .u64 (a : Int) 6148914691236517205 = (q : Int) := by rw [hq]; exact and_num _ _ 6148914691236517205 (by omega) (by omega) (by decide)
  have o1 : ones1 a = p + q := by rw [hp, hq]; rfl
  have lp : p ≤ 6148914691236517205 := by rw [hp]; exact Nat.and_le_right
  have lq : q ≤ 6148914691236517205 := by rw [hq]; exact Nat.and_le_right
  rw [o1] at l2 l3 lx ly lz hz
  clear l1 o1 hp hq
  obtain ⟨r, hr⟩ : ∃ r, r = ((p + q) / 4 &&& 3689348814741910323) := ⟨_, rfl⟩
  obtain ⟨s, hs⟩ : ∃ s, s = (p + q &&& 3689348814741910323) := ⟨_, rfl⟩
  have e3 : bits .and .u64 (((p : Int) + (q : Int)) / 4) 3689348814741910323 = (r : Int) := by rw [hr]; exact and_num _ _ 3689348814741910323 (by omega) (by omega) (by decide)
  have e4 : bits .and .u64 ((p : Int) + (q : Int)) 3689348814741910323 = (s : Int) := by rw [hs]; exact and_num _ _ 3689348814741910323 (by omega) (by omega) (by decide)
  have o2 : ones2 (p + q) = r + s := by rw [hr, hs]; rfl
  have lr : r ≤ 3689348814741910323 := by rw [hr]; exact Nat.and_le_right
  have ls : s ≤ 3689348814741910323 := by rw [hs]; exact Nat.and_le_right
  rw [o2] at l3 lx ly lz hz
  clear l2 o2 hr hs
  obtain ⟨t, ht⟩ : ∃ t, t = ((r + s) / 16 + (r + s) &&& 1085102592571150095) := ⟨_, rfl⟩
  have e5 : bits .and .u64 (((r : Int) + (s : Int)) / 16 + ((r : Int) + (s : Int))) 1085102592571150095 = (t : Int) := by rw [ht]; exact and_num _ _ 1085102592571150095 (by omega) (by omega) (by decide)
  have o3 : ones3 (r + s) = t := by rw [ht]; rfl
  rw [o3] at l3 lx ly lz hz
  clear o3 ht
  have H := Lib.hid hz
  clear hz
  go_enter Tryz.func109, Tryz.ntmps109
  go_wp2
  go_ret
  refine ⟨ret_int ?_, rfl⟩
  rw [i64_and127]
  exact ones_cast t (cnt a) H.out
theorem count_any (a : Nat) (w : World) (ha : a < 18446744073709551616) :
    Calls Tryz.prog 85 #[.int .u64 a] w fun e w' => e = .returned (.int .i64 (cnt a : Nat)) ∧ w = w' := by
  have c := onesCount_any a w ha
  go_enter Tryz.func85, Tryz.ntmps85
  go_wp2_with (go_at_call 109; refine c.mono ?_; rintro e w' ⟨rfl, rfl⟩)
  go_ret
  exact ⟨rfl, rfl⟩
end Go.Proofs.YtenbbefahpkhpaaGreatDoor
/- label's own List, by its contract. -/
namespace Go.Proofs.YtenbbefahpkhpaaGreatDoor
open Go.RowKit

set_option maxRecDepth 100000 in
set_option maxHeartbeats 4000000 in
theorem list_any (a : Nat) (w : World) (ha : a < 18446744073709551616) (hT : BTab w) :
    Calls Tryz.prog 55 #[.int .u64 a] w (IntRow w (listTo a 64)) := by
  have cC := count_any a w ha
  obtain ⟨i0, hi, hz0, hz1, hz2⟩ := info_parts intInfo
  have hcl := cnt_le a
  obtain ⟨w1, hrun, hown, hgr⟩ := run_make_own (P := Tryz.prog) w w.heap.size 85 3 i0 (.int .i64 0) 1 Tryz.underlying85 hi hz0 hz1 .i64 .i64 (cnt a) (by rw [hz2]; omega) (by unfold maxLen; omega) (Nat.le_refl _)
  have hb1 : Below w.heap.size w w1 := (Below.refl _ _).grown hgr (Nat.le_refl _) (by simp)
  have hfin : Hid (∀ v w', Below w.heap.size w w' → w'.ownsRow w.heap.size 3 1 v (listTo a 64).length (ints (listTo a 64)) → IntRow w (listTo a 64) (.returned v) w') := by
    intro v w' hb ho
    obtain ⟨p, c, rfl⟩ := int_owned ho
    exact ⟨p, c, rfl, hb, ho⟩
  have HO := Lib.hid hown
  clear hown hgr
  go_enter Tryz.func55, Tryz.ntmps55
  go_wp2_with (go_at_call 85; refine cC.mono ?_; rintro e w' ⟨rfl, rfl⟩)
  have HR := Lib.hid hrun
  clear hrun cC
  go_loopg [0, 3] (cnt a) (fun g x v wr => ∃ (y : Nat) (l : List Nat), x = .int .u64 y ∧ y < 18446744073709551616 ∧ g = (listTo y 64).length ∧ Hid (listTo a 64 = l ++ listTo y 64) ∧ l.length ≤ 64 ∧ Below w.heap.size w wr ∧ Hid (wr.ownsRow w.heap.size 3 1 v l.length (ints l)))
  case atStart => exact ⟨a, [], rfl, ha, rfl, rfl, by simp, hb1, HO.out⟩
  case round =>
    obtain ⟨y, l, rfl, hy, hg, hl, hll, hbr, ho⟩ := hrel
    by_cases h0 : y = 0
    · subst h0
      have hF := hfin.out
      rw [hl.out, list_zero, List.append_nil] at hF
      have HF := Lib.hid (hF _ _ hbr ho.out)
      clear hF hfin ho hg
      go_wp2_with fail
      go_ret
      have e := hl.out
      rw [list_zero, List.append_nil] at e
      rw [e]
      exact HF.out
    · obtain ⟨hlow, hlt, hk⟩ := list_low y h0 hy
      have he : bits .and .u64 (y : Int) ((y : Int) - 1) = ((y &&& (y - 1) : Nat) : Int) := by
        have := u64_and_nat y (y - 1) hy (by omega)
        rw [← this]
        congr 1
        omega
      have cT := tz_any y wr hy h0 (hT.below hbr)
      generalize y &&& (y - 1) = y' at *
      generalize Lib.ctz 64 y = c at *
      have hne : ((y : Int) != 0) = true := by rw [bne, beq_false_of_ne (by omega)]; rfl
      have hy1 : (1 : Int) ≤ (y : Int) := by omega
      have hc0 : (0 : Int) ≤ (c : Int) := Int.natCast_nonneg _
      have HL : Hid (listTo a 64 = (l ++ [c]) ++ listTo y' 64) := by
        have := hl.out
        rw [hlow] at this
        show _ = _
        rw [this]; simp
      have hlen : (l ++ [c]).length ≤ 64 := by
        have h1 := listTo_len a 64
        rw [HL.out, List.length_append] at h1
        omega
      have hg' : gk = (listTo y' 64).length + 1 := by rw [hg, hlow]; rfl
      have HG := Lib.hid hg'
      have HLEN := Lib.hid hlen
      have ho' := ho.out
      have hbsz := hbr.size
      clear hg' hg hlow hl hlen ho hfin
      go_wp2_with (first
        | (go_at_call 86; refine cT.mono ?_; rintro e w' ⟨rfl, rfl⟩)
        | (at_builtin; refine wpList_append_own _ rfl _ _ 85 rfl w.heap.size 3 i0 (.int .i64 0) 1 8 Tryz.underlying85 hi hz0 hz1 hz2 rfl (by decide) _ _ _ rfl (ho'.alloc _) ⟨wr.heap.size, 0, none⟩ 1 1 [.int .i64 c] rfl rfl ?c1 ?c2 ?c3 ?c4 ?c5 ?_))
      case c1 =>
        intro j u hj
        match j, hj with
        | 0, hj => simp at hj; subst hj; simp [Addr.add]
      case c2 => intro u hu; simp at hu; subst hu; rfl
      case c3 => unfold maxLen; omega
      case c4 => omega
      case c5 => simp; omega
      intro v' w3 hown' hgrow _
      have hb2 : Below w.heap.size w w3 := (hbr.alloc (by omega) _).grown hgrow (by simp; omega) (fun g hg => (ho'.lt g hg).1)
      have HO2 : Hid (w3.ownsRow w.heap.size 3 1 v' (l ++ [c]).length (ints (l ++ [c]))) := by
        rw [List.length_append, List.length_singleton]
        unfold ints
        rw [List.map_append]
        exact hown'
      clear ho' hown' hgrow cT
      go_wp2_with fail
      go_roundg (listTo y' 64).length
      case rel => exact ⟨y', l ++ [c], rfl, hlt, rfl, HL, HLEN.out, hb2, HO2⟩
      case measure => have := HG.out; omega
end Go.Proofs.YtenbbefahpkhpaaGreatDoor
/- Rows of numbers that the call owns; a row of numbers copied behind one of the call's own. -/
namespace Go.Proofs.YtenbbefahpkhpaaGreatDoor
open Go.RowKit

def nums (k : IntKind) (xs : List Int) : List Value := xs.map (Value.int k)
theorem nums_len (k : IntKind) (xs : List Int) : (nums k xs).length = xs.length := by simp [nums]
/-- What is owned can be read. -/
theorem nums_row {k : IntKind} {W : World} {B : Nat} {e : TypeId} {p : Option Addr} {n c : Nat} {xs : List Int} {rest : List Value} (h : W.ownsRow B e 1 (.slice p n c) n (nums k xs ++ rest)) : NumRow k W p xs := by
  intro i hi
  have hn := h.1
  rw [List.length_append, nums_len] at hn
  rcases h.2 with ⟨hv, h0⟩ | ⟨g, cap, cur, hv, _⟩
  · omega
  · injection hv with e1 e2 e3
    subst e1
    have hc := h.cellAt i (by omega)
    rw [List.getElem?_append_left (by rw [nums_len]; exact hi)] at hc
    unfold nums at hc
    rw [List.getElem?_map, List.getElem?_eq_getElem hi] at hc
    have hlt := World.block_lt_of_cell? W _ (show W.cell? ⟨g, i, none⟩ = some (.int k xs[i]) from hc)
    exact ⟨g, 0, rfl, hlt, by rw [Nat.zero_add]; exact hc⟩
theorem nums_row' {k : IntKind} {W : World} {B : Nat} {e : TypeId} {p : Option Addr} {n c : Nat} {xs : List Int} (h : W.ownsRow B e 1 (.slice p n c) n (nums k xs)) : NumRow k W p xs := nums_row (rest := []) (by rw [List.append_nil]; exact h)
theorem own_slice {W : World} {B : Nat} {e : TypeId} {v : Value} {n : Nat} {cs : List Value} (h : W.ownsRow B e 1 v n cs) : ∃ p c, v = .slice p n c := by
  rcases h.2 with ⟨hv, h0⟩ | ⟨g, cap, cur, hv, _⟩
  · exact ⟨none, 0, by rw [hv, h0]⟩
  · exact ⟨some ⟨g, 0, none⟩, cap, hv⟩
theorem own_later {w W : World} {B z : Nat} {e : TypeId} {v : Value} {n : Nat} {cs : List Value} (h : w.ownsRow B e z v n cs) (hb : Below w.heap.size w W) : W.ownsRow B e z v n cs := by
  refine ⟨h.1, ?_⟩
  rcases h.2 with h' | ⟨g, cap, cur, hv, hB, hg, rest⟩
  · exact .inl h'
  · have hlt : g < w.heap.size := (Array.getElem?_eq_some_iff.1 hg).1
    exact .inr ⟨g, cap, cur, hv, hB, by rw [hb.block g hlt]; exact hg, rest⟩
theorem own_some {W : World} {B : Nat} {e : TypeId} {v : Value} {k : Nat} {cs : List Value} (h : W.ownsRow B e 1 v (k + 1) cs) : ∃ g cap, v = .slice (some ⟨g, 0, none⟩) (k + 1) cap ∧ k + 1 ≤ cap ∧ B ≤ g ∧ g < W.heap.size := by
  rcases h.2 with ⟨_, h0⟩ | ⟨g, cap, cur, hv, hB, hg, hc, _⟩
  · omega
  · exact ⟨g, cap, hv, hc, hB, (Array.getElem?_eq_some_iff.1 hg).1⟩
theorem addr_plus (b off i : Nat) : (⟨b, off, none⟩ : Addr).add i = ⟨b, off + i, none⟩ := by
  unfold Addr.add
  by_cases h : i = 0
  · subst h; rfl
  · simp [h]

theorem copy_nums {P : Program} {w : World} {ops : Array Oper} {rest : List Oper} {o : Oper} {a : Act} {Q : Exit → Act → World → Prop} (hgd : o.guard = none) (s x : Operand) (t : TypeId)
    (ho : o.op = .call { callee := .builtin .append, args := #[s, x], argTypes := #[t, t] })
    (base : Nat) (e : TypeId) (i : TypeInfo) (z : Value) (ht : P.underlying t = some (.slice e)) (hi : P.info? e = some i) (hz : i.zero = some z) (hsize : i.size = 1) (hby : i.bytes = 8) (hzs : z.cells.size = 1)
    (v : Value) (hs : a.eval s = v) (hown : w.ownsRow base e 1 v 0 []) (k : IntKind) (p : Option Addr) (m c : Nat) (xs : List Int) (hx : a.eval x = .slice p m c) (hl : xs.length = m) (hrow : NumRow k w p xs) (hnil : p = none → m = 0 ∧ c = 0)
    (hm : m ≤ 17592186044416) (hbase : base ≤ w.heap.size)
    (h : ∀ v' w', w'.ownsRow base e 1 v' m (nums k xs) → Below base w w' → wpList P ops Q rest (a.put o.dst v') w') : wpList P ops Q (o :: rest) a w := by
  cases p with
  | none =>
    obtain ⟨rfl, rfl⟩ := hnil rfl
    have e0 : xs = [] := List.eq_nil_of_length_eq_zero hl
    subst e0
    exact wpList_append_own_none hgd s x t ho base e i 1 ht hi v 0 [] hs hown hx (h v w hown (Below.refl _ _))
  | some ad =>
    refine wpList_append_own w hgd s x t ho base e i z 1 8 ht hi hz hsize hby hzs (by decide) v 0 [] hs hown ad m c (nums k xs) hx (by rw [nums_len, hl, Nat.mul_one]) ?_ ?_ (by unfold maxLen; omega) (by omega) hbase ?_
    · intro j u hj
      have hjl : j < xs.length := by
        rcases Nat.lt_or_ge j xs.length with h' | h'
        · exact h'
        · rw [List.getElem?_eq_none (by rw [nums_len]; exact h')] at hj; cases hj
      obtain ⟨b, off, e1, hlt, hc⟩ := hrow j hjl
      injection e1 with e1
      subst e1
      unfold nums at hj
      rw [List.getElem?_map, List.getElem?_eq_getElem hjl] at hj
      injection hj with hj
      rw [addr_plus, hc, ← hj]
    · intro u hu
      unfold nums at hu
      rw [List.mem_map] at hu
      obtain ⟨y, _, rfl⟩ := hu
      rfl
    · intro v' w' ho' hgr _
      have hb : Below base w w' := (Below.refl _ _).grown hgr hbase (fun k hk => (hown.lt k hk).1)
      rw [Nat.zero_add, List.nil_append] at ho'
      exact h v' w' ho' hb
end Go.Proofs.YtenbbefahpkhpaaGreatDoor
/- Contracts at every world that has grown out of the first one. -/
namespace Go.Proofs.YtenbbefahpkhpaaGreatDoor
open Go.RowKit

/-- A row of compartments that was made, as a slice that holds them, later on. -/
theorem ints_row {W : World} {B : Nat} {p : Option Addr} {c : Nat} {l : List Nat} (h : W.ownsRow B 3 1 (.slice p l.length c) l.length (ints l)) : NumRow .i64 W p (l.map fun i : Nat => (i : Int)) := by
  intro i hi
  rw [List.length_map] at hi
  rcases h.2 with ⟨hv, h0⟩ | ⟨g, cap, cur, hv, _⟩
  · omega
  · injection hv with e1 e2 e3
    subst e1
    have hc := h.cellAt i (by omega)
    unfold ints at hc
    rw [List.getElem?_map, List.getElem?_eq_getElem hi] at hc
    have hlt := World.block_lt_of_cell? W _ (show W.cell? ⟨g, i, none⟩ = some (.int .i64 (l[i] : Nat)) from hc)
    exact ⟨g, 0, rfl, hlt, by rw [Nat.zero_add, List.getElem_map]; exact hc⟩

/-- A world that has grown out of w. -/
def St (w W : World) : Prop := BTab W ∧ Below w.heap.size w W
theorem St.start {w : World} (h : BTab w) : St w w := ⟨h, Below.refl _ _⟩
theorem St.next {w W W' : World} (h : St w W) (hb : Below W.heap.size W W') : St w W' := ⟨h.1.below hb, h.2.trans (hb.mono h.2.size)⟩
/-- A contract at every world that has grown out of w. -/
def Says (w : World) (f : Nat) (args : Array Value) (v : Value) : Prop := ∀ W, St w W → Calls Tryz.prog f args W fun e w' => e = .returned v ∧ St w w'
theorem says_of {w : World} {f : Nat} {args : Array Value} {v : Value} (h : ∀ W, BTab W → Calls Tryz.prog f args W fun e w' => e = .returned v ∧ Below W.heap.size W w') : Says w f args v :=
  fun W hW => (h W hW.1).mono fun _ _ ⟨h1, h2⟩ => ⟨h1, hW.next h2⟩
theorem says_same {w : World} {f : Nat} {args : Array Value} {v : Value} (h : ∀ W, Calls Tryz.prog f args W fun e w' => e = .returned v ∧ W = w') : Says w f args v :=
  fun W hW => (h W).mono fun _ _ ⟨h1, h2⟩ => ⟨h1, by rw [← h2]; exact hW⟩
/-- A call that gives a row of compartments. -/
def Lists (w : World) (f : Nat) (args : Array Value) (l : List Nat) : Prop := ∀ W, St w W → Calls Tryz.prog f args W fun e w' => ∃ p c, e = .returned (.slice p l.length c) ∧ NumRow .i64 w' p (l.map fun i : Nat => (i : Int)) ∧ St w w' ∧ Below W.heap.size W w'
theorem lists_of {w : World} {f : Nat} {args : Array Value} {l : List Nat} (h : ∀ W, BTab W → Calls Tryz.prog f args W (IntRow W l)) : Lists w f args l :=
  fun W hW => (h W hW.1).mono fun _ _ ⟨p, c, h1, h2, h3⟩ => ⟨p, c, h1, ints_row h3, hW.next h2, h2⟩

end Go.Proofs.YtenbbefahpkhpaaGreatDoor
/- label's own Text, by its contract. -/
namespace Go.Proofs.YtenbbefahpkhpaaGreatDoor
open Go.RowKit

def strs (l : List Nat) : List Value := l.map fun i => .string (digsB i)
theorem strs_len (l : List Nat) : (strs l).length = l.length := by simp [strs]

set_option maxRecDepth 100000 in
set_option maxHeartbeats 4000000 in
theorem text_any_lb (a : Nat) (w : World) (ha : a < 18446744073709551616) (hT : BTab w) :
    Calls Tryz.prog 33 #[.int .u64 a] w fun e w' => e = .returned (.string ⟨(textN a).toArray⟩) ∧ Below w.heap.size w w' := by
  by_cases h0 : a = 0
  · subst h0
    go_enter Tryz.func33, Tryz.ntmps33
    go_wp2
    go_ret
    exact ⟨rfl, Below.refl _ _⟩
  · have cL := list_any a w ha hT
    obtain ⟨n, hn⟩ := list_nonzero a h0 ha
    have hll := listTo_len a 64
    have hmem := Lib.hid (list_below a)
    have HT : Hid (textN a = Lib.join ((listTo a 64).map Lib.decDigits) [43]) := by show textN a = _; unfold textN; rw [if_neg h0]
    have hne : ((a : Int) == 0) = false := beq_false_of_ne (by omega)
    obtain ⟨i0, hi, hz0, hz1, hz2⟩ := info_parts strInfo
    generalize textN a = tx at *
    generalize listTo a 64 = l at *
    have HN := Lib.hid hn
    clear hn
    go_enter Tryz.func33, Tryz.ntmps33
    go_wp2_with fail
    refine cL.mono ?_
    rintro e w1 ⟨p, c, rfl, hb1, ho1⟩
    have hrow := ints_row ho1
    have hB1 := hb1.size
    clear cL ho1
    go_wp2_with fail
    go_loopg [3, 11] l.length (fun g v i wr => ∃ k : Nat, k + g = l.length ∧ i = .int .i64 k ∧ Below w1.heap.size w1 wr ∧ Hid (wr.ownsRow w1.heap.size 9 1 v k (strs (l.take k))))
    case atStart => exact ⟨0, by omega, rfl, Below.refl _ _, by rw [List.take_zero]; exact World.ownsRow_nil _ _ _ _⟩
    case round =>
      obtain ⟨k, hk, rfl, hbr, ho⟩ := hrel
      by_cases hlt : k < l.length
      · obtain ⟨b1, o1, rfl, _, h1c⟩ := hrow.at k (by rw [List.length_map]; exact hlt)
        have g1 := h1c wr hbr
        rw [List.getElem_map] at g1
        have hsn : Hid (strs (l.take (k + 1)) = strs (l.take k) ++ [.string (digsB l[k])]) := by
          show strs (l.take (k + 1)) = _
          rw [List.take_succ_eq_append_getElem hlt]
          unfold strs
          rw [List.map_append]; rfl
        have hi100 := hmem.out l[k] (List.getElem_mem hlt)
        generalize l[k] = x at *
        have cI : Calls Tryz.prog 56 #[.int .i64 x] wr fun e w' => e = .returned (.string (digsB x)) ∧ wr = w' := (Tryz.strconv_Itoa_small x hi100 wr).mono fun _ _ ⟨h1, h2⟩ => ⟨h1, h2.symm⟩
        generalize digsB x = dx at *
        have hx0 : (0 : Int) ≤ (x : Int) := Int.natCast_nonneg _
        have hkk : (0 : Int) ≤ (k : Int) := Int.natCast_nonneg _
        have hki : (k : Int) < (l.length : Int) := by omega
        have ho' := ho.out
        have hbsz := hbr.size
        clear h1c ho HT
        go_wp2_with (first
          | (go_at_call 56; refine cI.mono ?_; rintro e w' ⟨rfl, rfl⟩)
          | (at_builtin; refine wpList_append_own _ rfl _ _ 33 rfl w1.heap.size 9 i0 (.string ⟨#[]⟩) 1 16 Tryz.underlying33 hi hz0 hz1 hz2 rfl (by decide) _ _ _ rfl (ho'.alloc _) ⟨wr.heap.size, 0, none⟩ 1 1 [.string dx] rfl rfl ?c1 ?c2 ?c3 ?c4 ?c5 ?_))
        case c1 =>
          intro j u hj
          match j, hj with
          | 0, hj => simp at hj; subst hj; simp [Addr.add]
        case c2 => intro u hu; simp at hu; subst hu; rfl
        case c3 => unfold maxLen; omega
        case c4 => omega
        case c5 => simp; omega
        intro v' w3 hown' hgrow _
        have hb2 : Below w1.heap.size w1 w3 := (hbr.alloc (by omega) _).grown hgrow (by simp; omega) (fun g hg => (ho'.lt g hg).1)
        have HO : Hid (w3.ownsRow w1.heap.size 9 1 v' (k + 1) (strs (l.take (k + 1)))) := by rw [hsn.out]; exact hown'
        clear ho' hown' hgrow cI hsn
        go_wp2_with fail
        go_roundg (gk - 1)
        case rel => exact ⟨k + 1, by omega, by go_num, hb2, HO⟩
        case measure => omega
      · obtain rfl : k = l.length := by omega
        have ho' := ho.out
        rw [List.take_length, HN.out] at ho'
        obtain ⟨g, cap, rfl, hcap, hg1, hg2⟩ := own_some ho'
        have hcell : ∀ (j : Nat) x, (l.map digsB)[j]? = some x → wr.cell? ⟨g, 0 + j, none⟩ = some (.string x) := by
          intro j x hx
          have hj : j < l.length := by
            rcases Nat.lt_or_ge j l.length with h' | h'
            · exact h'
            · rw [List.getElem?_eq_none (by rw [List.length_map]; exact h')] at hx; cases hx
          have h1 := ho'.cellAt j (by have := HN.out; omega)
          rw [Nat.zero_add, h1]
          unfold strs
          rw [List.getElem?_map, List.getElem?_eq_getElem hj] at hx ⊢
          injection hx with hx
          rw [← hx]; rfl
        have hjl := join_le l hmem.out
        have cJ := Tryz.strings_Join g 0 cap (l.map digsB) ⟨#[43]⟩ wr hcell hg2 (by rw [List.length_map]; omega) (by rw [List.length_map, HN.out]; exact hcap) (by rw [digs_map]; exact Nat.le_trans hjl (by omega))
        rw [List.length_map, HN.out, digs_map, show (⟨#[43]⟩ : ByteArray).data.toList = [43] from rfl, ← HT.out] at cJ
        have hend := fun W (h : Below wr.heap.size wr W) => hb1.trans ((hbr.trans (h.mono hbr.size)).mono hB1)
        clear hcell ho ho' hjl HT hmem
        go_wp2_with fail
        refine cJ.mono ?_
        rintro e w5 ⟨rfl, hb5⟩
        have hend' := hend w5 hb5
        clear cJ hend hb5
        go_wp2_with fail
        go_ret
        exact ⟨rfl, hend'⟩
end Go.Proofs.YtenbbefahpkhpaaGreatDoor
/- Of at one number, plainly. -/
namespace Go.Proofs.YtenbbefahpkhpaaGreatDoor
open Go.RowKit
theorem of_one (c : Nat) (h : c < 64) : ofW [(c : Int)] = 2 ^ c ∧ ofE [(c : Int)] = 0 := by
  obtain ⟨h1, h2⟩ := of_good [(c : Int)] fun k hk => by
    match k, hk with
    | 0, _ => exact ⟨by show (0 : Int) ≤ (c : Int); omega, by show (c : Int) ≤ 63; omega⟩
  refine ⟨?_, h2⟩
  rw [h1]
  refine word_ext (wordOf_lt _) (Nat.pow_lt_pow_right (by decide) h) fun i hi => ?_
  rw [wordOf_bit _ i hi, Nat.testBit_two_pow]
  unfold ofF
  rw [Bool.eq_iff_iff]; simp; omega
end Go.Proofs.YtenbbefahpkhpaaGreatDoor
/- label's Parse, by its contract. -/
namespace Go.Proofs.YtenbbefahpkhpaaGreatDoor
open Go.RowKit Go.Shelf

attribute [local go_sem] Oper.semAt_some

theorem boxed_later {W W' : World} {B : Nat} {t : TypeId} {v : Value} (h : Boxed W B t v) (hb : Below W.heap.size W W') : Boxed W' B t v := (hb.block B h.lt).trans h
/-- Between two rounds: the results' boxes, what has been gathered. -/
def PInv {M : Nat} (R : Nat) (w : World) (pre : List (Pc M)) (W : World) : Prop :=
  (Boxed W R 25 (.int .u64 0) ∧ Boxed W (R + 1) 26 (.int .i64 0) ∧ Boxed W (R + 2) 25 (.int .u64 (accP (lsOf pre) : Nat))) ∧ Below R w W ∧ R + 6 ≤ W.heap.size
def POut {M : Nat} (R : Nat) (w : World) (c : Code) (pre : List (Pc M)) (W : World) : Prop :=
  (Boxed W R 25 (.int .u64 0) ∧ Boxed W (R + 1) 26 (.int .i64 4)) ∧ (c = .ret ∧ ∃ p ∈ lsOf pre, pieceV p = none) ∧ Below R w W
theorem keeps_below {W W' : World} (h : Below W.heap.size W W') : KeepsOthers W W' := ⟨h.size, fun k _ hk _ => (h.block k (Array.getElem?_eq_some_iff.1 hk).1).trans hk⟩
theorem keep3_below {B : Nat} {W W' : World} (hB : B + 2 < W.heap.size) (h : Below W.heap.size W W') : Keep3 B W W' := fun k _ h2 => h.block k (by omega)
theorem keep3_set {B C : Nat} {W : World} (h : C < B) (u : Value) : Keep3 B W (W.setCell ⟨C, 0, none⟩ u) := fun _ h1 _ => other_block u (by omega)
/-- A round that leaves. -/
theorem pout_leave {M R : Nat} {w W1 : World} {pre : List (Pc M)} (o : Obj) (g0 : Boxed W1 R 25 (.int .u64 0)) (g1 : Boxed W1 (R + 1) 26 (.int .i64 0)) (hB : Below R w W1) (hR : R ≤ w.heap.size) (hbad : ∃ p ∈ lsOf pre, pieceV p = none) :
    POut R w .ret pre (((W1.alloc o).setCell ⟨R, 0, none⟩ (.int .u64 0)).setCell ⟨R + 1, 0, none⟩ (.int .i64 4)) :=
  ⟨⟨((g0.alloc o).set _).other (by omega) _, ((g1.alloc o).other (by omega) _).set _⟩, ⟨rfl, hbad⟩,
    ((hB.alloc (Nat.le_trans hR hB.size) o).setCell (p := ⟨R, 0, none⟩) (Nat.le_refl _) _).setCell (p := ⟨R + 1, 0, none⟩) (by show R ≤ R + 1; omega) _⟩
/-- A round that goes on. -/
theorem pinv_next {M R : Nat} {w W1 : World} {pre : List (Pc M)} (x : Pc M) (c : Nat) (o : Obj) (hc : pieceV x.val.data.toList = some c) (hc64 : c < 64) (g0 : Boxed W1 R 25 (.int .u64 0)) (g1 : Boxed W1 (R + 1) 26 (.int .i64 0)) (g2 : Boxed W1 (R + 2) 25 (.int .u64 (accP (lsOf pre) : Nat))) (hB : Below R w W1) (hR : R ≤ w.heap.size) (hs : R + 6 ≤ W1.heap.size) (z : Int) (hz : z = ((accP (lsOf pre) ||| 2 ^ c : Nat) : Int)) :
    PInv R w (pre ++ [x]) ((W1.alloc o).setCell ⟨R + 2, 0, none⟩ (.int .u64 z)) := by
  subst hz
  unfold PInv
  rw [ls_snoc, acc_snoc _ _ c hc hc64]
  exact ⟨⟨(g0.alloc o).other (by omega) _, (g1.alloc o).other (by omega) _, (g2.alloc o).set _⟩, (hB.alloc (Nat.le_trans hR hB.size) o).setCell (p := ⟨R + 2, 0, none⟩) (by show R ≤ R + 2; omega) _, by rw [World.size_setCell, World.size_alloc]; omega⟩
theorem pinv_own {M : Nat} (R B : Nat) (w : World) (hR : R ≤ w.heap.size) (h : R ≤ B) : OwnFrom B (PInv (M := M) R w) :=
  OwnFrom.and (Own.from (fun s A B row hs hg hr => ⟨boxed_own _ _ (fun _ => _) s A B row hs.1 hg hr, boxed_own _ _ (fun _ => _) s A B row hs.2.1 hg hr, boxed_own _ _ (fun _ => _) s A B row hs.2.2 hg hr⟩) _) (OwnFrom.and (ownFrom_below hR h) (fun _ _ _ _ hs hg _ => Nat.le_trans hs hg.size))
theorem pout_own {M : Nat} (R B : Nat) (w : World) (c : Code) (hR : R ≤ w.heap.size) (h : R ≤ B) : OwnFrom B (POut (M := M) R w c) :=
  OwnFrom.and (Own.from (fun s A B row hs hg hr => ⟨boxed_own _ _ (fun _ => _) s A B row hs.1 hg hr, boxed_own _ _ (fun _ => _) s A B row hs.2 hg hr⟩) _) (OwnFrom.and (ownFrom_pure _ _) (ownFrom_below hR h))
theorem pinv_store {M : Nat} (R B : Nat) (w : World) (hB : R + 2 < B) : Stores B (PInv (M := M) R w) := fun _ _ u ⟨⟨a, b, c⟩, d, f⟩ =>
  ⟨⟨a.other (by omega) u, b.other (by omega) u, c.other (by omega) u⟩, d.setCell (p := ⟨B, 0, none⟩) (by show R ≤ B; omega) u, by rw [World.size_setCell]; exact f⟩

set_option maxRecDepth 100000 in
set_option maxHeartbeats 8000000 in
theorem parse_any (s : ByteArray) (w : World) (hs : s.size ≤ 281474976710656) (hT : BTab w) (hE : EvW w) :
    Calls Tryz.prog 67 #[.string s] w fun e w' => ∃ (a : Nat) (er : Int), e = .returned (.tuple #[.int .u64 a, .int .i64 er]) ∧ ReadAs s.data.toList a er ∧ Below w.heap.size w w' := by
  have hB0 : Below w.heap.size w ((w.alloc (.cells #[.int .u64 0] 25)).alloc (.cells #[.int .i64 0] 26)) := ((Below.refl _ _).alloc (Nat.le_refl _) _).alloc (by simp) _
  have c0 := (Boxed.new w 25 (.int .u64 0)).alloc (.cells #[.int .i64 0] 26)
  have c1 := Boxed.new (w.alloc (.cells #[.int .u64 0] 25)) 26 (.int .i64 0)
  simp only [World.size_alloc] at c1
  refine (callsIn_wide (n := 3)).1 ?_
  refine callsIn_of_wp_marks Tryz.func67 rfl trivial ?_ rfl
  simp only [Tryz.ntmps67, List.size_toArray, List.length_cons, List.length_nil, Nat.reduceAdd, Nat.reduceSub, Array.replicate_succ, Array.replicate_zero, List.push_toArray, List.append_toArray, List.nil_append, List.cons_append]
  have H0 := Lib.hid c0; have H1 := Lib.hid c1; have HB0 := Lib.hid hB0
  by_cases hd : s = ⟨#[45]⟩
  · subst hd
    have k0 := c0.cell; have k1 := c1.cell
    clear c0 c1 hB0
    gi_wp2
    refine ⟨.tuple #[.int .u64 0, .int .i64 0], ?_, 0, 0, rfl, read_dash, HB0.out⟩
    simp [results, Tryz.f67, go_sem, k0, k1]
  · have hs45 : s.data.toList ≠ [45] := by
      intro e; apply hd
      cases s with
      | mk d => congr 1; apply Array.toList_inj.1; exact e
    have hne : (s.toList == [45]) = false := by rw [ByteArray.toList_eq]; exact beq_false_of_ne hs45
    have HS := Lib.hid hs45
    have b0 := (c0.alloc (.cells #[.int .u64 0] 25))
    have b1 := (c1.alloc (.cells #[.int .u64 0] 25))
    have b2 := Boxed.new ((w.alloc (.cells #[.int .u64 0] 25)).alloc (.cells #[.int .i64 0] 26)) 25 (.int .u64 0)
    simp only [World.size_alloc] at b2
    have hbA := HB0.out.alloc HB0.out.size (.cells #[.int .u64 0] 25)
    have hsz : (((w.alloc (.cells #[.int .u64 0] 25)).alloc (.cells #[.int .i64 0] 26)).alloc (.cells #[.int .u64 0] 25)).heap.size = w.heap.size + 3 := by simp
    have G0 := Lib.hid b0; have G1 := Lib.hid b1; have G2 := Lib.hid b2; have HBA := Lib.hid hbA
    clear c0 c1 hB0 hd hs45 b0 b1 b2 hbA H0 H1 HB0
    gi_wp2
    generalize (((w.alloc (.cells #[.int .u64 0] 25)).alloc (.cells #[.int .i64 0] 26)).alloc (.cells #[.int .u64 0] 25)) = wA at *
    refine ⟨trivial, (callsIn_wide.2 (splitSeq_any s wA)).mono ?_⟩
    rintro e wB ⟨rfl, rfl⟩
    rw [hsz]
    clear hne
    gi_wp2
    have d0 := Boxed.new wA 9 (.string s)
    have d1 := Boxed.new (wA.alloc (.cells #[.string s] 9)) 9 (.string ⟨#[43]⟩)
    have d2 := Boxed.new ((wA.alloc (.cells #[.string s] 9)).alloc (.cells #[.string ⟨#[43]⟩] 9)) 3 (.int .i64 0)
    simp only [World.size_alloc, hsz] at d0 d1 d2
    have e0 := ((G0.out.alloc (.cells #[.string s] 9)).alloc (.cells #[.string ⟨#[43]⟩] 9)).alloc (.cells #[.int .i64 0] 3)
    have e1 := ((G1.out.alloc (.cells #[.string s] 9)).alloc (.cells #[.string ⟨#[43]⟩] 9)).alloc (.cells #[.int .i64 0] 3)
    have e2 := ((G2.out.alloc (.cells #[.string s] 9)).alloc (.cells #[.string ⟨#[43]⟩] 9)).alloc (.cells #[.int .i64 0] 3)
    have hbB : Below w.heap.size w (((wA.alloc (.cells #[.string s] 9)).alloc (.cells #[.string ⟨#[43]⟩] 9)).alloc (.cells #[.int .i64 0] 3)) := ((HBA.out.alloc HBA.out.size _).alloc (by have := HBA.out.size; simp; omega) _).alloc (by have := HBA.out.size; simp; omega) _
    have d0' := (d0.alloc (.cells #[.string ⟨#[43]⟩] 9)).alloc (.cells #[.int .i64 0] 3)
    have d1' := d1.alloc (.cells #[.int .i64 0] 3)
    have hszB : (((wA.alloc (.cells #[.string s] 9)).alloc (.cells #[.string ⟨#[43]⟩] 9)).alloc (.cells #[.int .i64 0] 3)).heap.size = w.heap.size + 6 := by simp; omega
    generalize (((wA.alloc (.cells #[.string s] 9)).alloc (.cells #[.string ⟨#[43]⟩] 9)).alloc (.cells #[.int .i64 0] 3)) = wB at *
    have e2' : Boxed wB (w.heap.size + 2) 25 (.int .u64 ((accP (lsOf ([] : List (Pc s.size))) : Nat) : Int)) := by
      rw [show lsOf ([] : List (Pc s.size)) = [] from rfl, acc_nil]; exact e2
    have hsq := split_seq 2 (by decide) (w.heap.size + 3) s (by omega) wB d0' d1' d2
    refine range_store (α := Pc s.size) (encs := fun x : Pc s.size => #[.string x.val]) (Kp := Keep3 (w.heap.size + 3)) (S := fun ys => lsOf ys = spl s.data.toList) (Sp := fun pre => lsOf pre <+: spl s.data.toList) (N := (spl s.data.toList).length) (B := w.heap.size + 3) rfl (by decide) (gf := 140) (lb := #[.pointer (some ⟨w.heap.size + 3 + 1, 0, none⟩), .pointer (some ⟨w.heap.size + 3, 0, none⟩), .pointer (some ⟨w.heap.size + 3 + 2, 0, none⟩)]) rfl trivial (enters_of Tryz.func140 (by kernel_rfl) rfl)
      hsq (by omega) keep3_t (keep3_b (by omega)) (Below.refl _ _) (fun _ => rfl)
      (PInv (M := s.size) w.heap.size w) (POut (M := s.size) w.heap.size w) (pinv_own (M := s.size) w.heap.size _ w (Nat.le_refl _) (by omega)) (fun c => pout_own (M := s.size) w.heap.size _ w c (Nat.le_refl _) (by omega)) (pinv_store (M := s.size) w.heap.size (w.heap.size + 3) w (by omega)) ⟨⟨e0, e1, e2'⟩, hbB, by omega⟩ ?a1 ?assign ?body ?done ?stop
    case assign =>
      intro l x W K hK
      gi_wp2
      exact hK
    case body =>
      rintro l pre x W ⟨⟨b0, b1, b2⟩, hB, hsz6⟩ hlt
      have hE' := hE.below hB
      have cA := atoi_any x.val W (Nat.le_trans x.le hs) hE'
      clear d0 d1 d2 d0' d1' hsq e0 e1 e2 e2' hbB G0 G1 G2 HBA hlt
      gi_wp2
      refine ⟨trivial, (CallsIn.inRound l (callsIn_wide.2 cA)).mono ?_⟩
      rintro e W1 ⟨v, er, rfl, hae, hb1⟩
      have g0 := boxed_later b0 hb1
      have g1 := boxed_later b1 hb1
      have g2 := boxed_later b2 hb1
      have hB1 := hB.trans (hb1.mono hB.size)
      have cO := of_any (W1.alloc (.cells #[.int .i64 v] 3)) (some ⟨W1.heap.size, 0, none⟩) 1 1 [v] (fun i hi => by
        match i, hi with
        | 0, _ => exact ⟨W1.heap.size, 0, rfl, by simp, by rw [World.cell?_alloc_mark]; rfl⟩) rfl (by decide)
      have hs1 := hb1.size
      have hko := keeps_below hb1
      have hk3 : Keep3 (w.heap.size + 3) W W1 := keep3_below (by omega) hb1
      have hmem : x.val.data.toList ∈ lsOf (pre ++ [x]) := by rw [ls_snoc]; simp
      have q0 := (g0.alloc (.cells #[.int .i64 v] 3)); have q1 := (g1.alloc (.cells #[.int .i64 v] 3)); have q2 := (g2.alloc (.cells #[.int .i64 v] 3))
      have k0 := q0.cell; have k1 := q1.cell; have k2 := q2.cell
      have f0 := q0.frozen; have f1 := q1.frozen; have f2 := q2.frozen
      have kk1 := (q1.other (B' := w.heap.size) (by omega) (.int .u64 0)).cell
      have ff1 := (q1.other (B' := w.heap.size) (by omega) (.int .u64 0)).frozen
      have HG0 := Lib.hid g0; have HG1 := Lib.hid g1; have HG2 := Lib.hid g2
      clear b0 b1 b2 hB hE' cA q0 q1 q2 g0 g1 g2
      have LV : ∀ (a3 : Act) (_ : pieceV x.val.data.toList = none), Hid (ownPostK (Keep3 (w.heap.size + 3)) (PInv (M := s.size) w.heap.size w) (POut (M := s.size) w.heap.size w) (pre ++ [x]) W .ret a3 (((W1.alloc (.cells #[.int .i64 v] 3)).setCell ⟨w.heap.size, 0, none⟩ (.int .u64 0)).setCell ⟨w.heap.size + 1, 0, none⟩ (.int .i64 4))) := fun _ h =>
        ⟨((hko.trans (KeepsOthers.alloc _ _)).trans (KeepsOthers.setCell _ _ _)).trans (KeepsOthers.setCell _ _ _), pout_leave _ HG0.out HG1.out hB1 (Nat.le_refl _) ⟨_, hmem, h⟩⟩
      rcases hae with ⟨rfl, hok⟩ | ⟨⟨t, p, rfl⟩, hno⟩
      · by_cases hr : 0 ≤ v ∧ v ≤ 63
        · obtain ⟨c, rfl⟩ : ∃ c : Nat, v = c := ⟨v.toNat, by omega⟩
          have hc64 : c < 64 := by omega
          have hpc : pieceV x.val.data.toList = some c := by rw [piece_ok hok hr.1 hr.2]; rfl
          obtain ⟨r1, r2⟩ := of_one c hc64
          rw [r1, r2] at cO
          have hp2 : 2 ^ c < 18446744073709551616 := (Nat.pow_lt_pow_right (by decide : 1 < 2) hc64 : 2 ^ c < 2 ^ 64)
          have hor := u64_or_nat (accP (lsOf pre)) (2 ^ c) (acc_lt _) hp2
          have GO := Lib.hid fun z hz => pinv_next x c (.cells #[.int .i64 (c : Int)] 3) hpc hc64 HG0.out HG1.out HG2.out hB1 (Nat.le_refl _) (by omega) z hz
          have HOR := Lib.hid hor
          have KO : Hid (∀ z, KeepsOthers W ((W1.alloc (.cells #[.int .i64 (c : Int)] 3)).setCell ⟨w.heap.size + 2, 0, none⟩ z)) := fun z => (hko.trans (KeepsOthers.alloc _ _)).trans (KeepsOthers.setCell _ _ _)
          have K3 : Hid (∀ z, Keep3 (w.heap.size + 3) W ((W1.alloc (.cells #[.int .i64 (c : Int)] 3)).setCell ⟨w.heap.size + 2, 0, none⟩ z)) := fun z => keep3_t (keep3_t hk3 (keep3_below (by omega) ((Below.refl _ _).alloc (Nat.le_refl _) _))) (keep3_set (by omega) _)
          clear LV hok hr hpc r1 r2 hor HG0 HG1 HG2 hmem hko hk3 hp2
          gi_wp2
          refine ⟨trivial, (CallsIn.inRound l (callsIn_wide.2 cO)).mono ?_⟩
          rintro e w' ⟨rfl, rfl⟩
          clear cO
          gi_wp2
          exact ⟨KO.out _, K3.out _, GO.out _ HOR.out⟩
        · have hlv := fun a3 => LV a3 (piece_out hok (by omega))
          obtain ⟨r1, r2⟩ := of_bad [v] 0 (by simp) (by show v < 0 ∨ 63 < v; omega)
          rw [r1, r2] at cO
          clear LV hok hr r1 r2
          gi_wp2
          refine ⟨trivial, (CallsIn.inRound l (callsIn_wide.2 cO)).mono ?_⟩
          rintro e w' ⟨rfl, rfl⟩
          clear cO
          gi_wp2
          exact (hlv _).out
      · have hlv := fun a3 => LV a3 (piece_no hno)
        clear LV hno
        gi_wp2
        refine ⟨trivial, (CallsIn.inRound l (callsIn_wide.2 cO)).mono ?_⟩
        rintro e w' ⟨rfl, rfl⟩
        clear cO
        gi_wp2
        exact (hlv _).out
    case done =>
      rintro D ys W hD hS ⟨⟨b0, b1, b2⟩, hB, h6⟩ hK
      rw [hS] at b2
      have hT' := hT.below hB
      have cX := text_any_lb (accP (spl s.data.toList)) W (acc_lt _) hT'
      have hrd := Lib.hid (read_good_lb HS.out)
      have k2 := b2.cell
      clear d0 d1 d2 d0' d1' hsq e0 e1 e2 e2' hbB G0 G1 G2 HBA hS
      generalize accP (spl s.data.toList) = acc at *
      have HAC := Lib.hid b2
      have H0 := Lib.hid b0; have H1 := Lib.hid b1
      clear b0 b1 b2
      rcases hrd.out with ⟨hra, htx⟩ | ⟨hra, htx⟩
      · have e : (⟨(textN acc).toArray⟩ : ByteArray) = s := by rw [htx]
        rw [e] at cX
        have HR := Lib.hid hra
        clear hrd hra htx e
        gi_wp2
        refine ⟨trivial, (callsIn_wide.2 cX).mono ?_⟩
        rintro e W3 ⟨rfl, hb3⟩
        have g0 := boxed_later H0.out hb3; have g1 := boxed_later H1.out hb3; have g2 := boxed_later HAC.out hb3
        have hB3 := hB.trans (hb3.mono hB.size)
        have hK3 := (hb3.block D (Array.getElem?_eq_some_iff.1 hK).1).trans hK
        clear k2
        have k2 := g2.cell; have k0 := g0.cell; have k1 := g1.cell; have f0 := g0.frozen; have f1 := g1.frozen
        clear cX hb3 g2
        gi_wp2
        have q0 := (g0.set (.int .u64 (acc : Nat))).other (B' := w.heap.size + 1) (by omega) (.int .i64 0)
        have q1 := (g1.other (B' := w.heap.size) (by omega) (.int .u64 (acc : Nat))).set (.int .i64 0)
        have hk4 := ((KeepsOthers.setCell W3 ⟨w.heap.size, 0, none⟩ (.int .u64 (acc : Nat))).trans (KeepsOthers.setCell _ ⟨w.heap.size + 1, 0, none⟩ (.int .i64 0))).same D _ hK3 rfl
        have kc0 := cell_kept q0.cell (grownBy_putObj' _ D (.deferred none)) (fun r e => by cases e; exact ⟨_, hk4, rfl⟩)
        have kc1 := cell_kept q1.cell (grownBy_putObj' _ D (.deferred none)) (fun r e => by cases e; exact ⟨_, hk4, rfl⟩)
        have hbe := ((hB3.setCell (p := ⟨w.heap.size, 0, none⟩) (Nat.le_refl _) (.int .u64 (acc : Nat))).setCell (p := ⟨w.heap.size + 1, 0, none⟩) (by simp) (.int .i64 0)).trans (belowK_b (w := w) (Nat.le_refl _) _ D _ (.deferred none) (by omega) hk4 rfl rfl)
        refine ⟨by simp, .inl ⟨_, _, rfl, run_takeDeferred hk4, ?_⟩⟩
        refine ⟨.tuple #[.int .u64 (acc : Nat), .int .i64 0], ?_, acc, 0, rfl, HR.out, hbe⟩
        simp [results, Tryz.f67, go_sem, kc0, kc1]
      · have hne : (⟨(textN acc).toArray⟩ : ByteArray) ≠ s := by
          intro e; apply htx; rw [← e]
        generalize (⟨(textN acc).toArray⟩ : ByteArray) = tx at *
        have hne2 : ¬ tx.toList = s.toList := by
          rw [ByteArray.toList_eq, ByteArray.toList_eq]
          intro e; apply hne
          cases tx with
          | mk d => cases s with
            | mk d' => congr 1; apply Array.toList_inj.1; exact e
        have hne3 : (tx.toList == s.toList) = false := beq_false_of_ne hne2
        have hne4 : (tx.toList != s.toList) = true := by rw [bne, hne3]; rfl
        clear hne hne2
        have HR := Lib.hid hra
        clear hrd hra htx
        gi_wp2
        refine ⟨trivial, (callsIn_wide.2 cX).mono ?_⟩
        rintro e W3 ⟨rfl, hb3⟩
        have g0 := boxed_later H0.out hb3; have g1 := boxed_later H1.out hb3
        have hB3 := hB.trans (hb3.mono hB.size)
        have hK3 := (hb3.block D (Array.getElem?_eq_some_iff.1 hK).1).trans hK
        clear k2
        have k0 := g0.cell; have k1 := g1.cell; have f0 := g0.frozen; have f1 := g1.frozen
        clear cX hb3
        gi_wp2
        have q0 := (g0.set (.int .u64 0)).other (B' := w.heap.size + 1) (by omega) (.int .i64 4)
        have q1 := (g1.other (B' := w.heap.size) (by omega) (.int .u64 0)).set (.int .i64 4)
        have hk4 := ((KeepsOthers.setCell W3 ⟨w.heap.size, 0, none⟩ (.int .u64 0)).trans (KeepsOthers.setCell _ ⟨w.heap.size + 1, 0, none⟩ (.int .i64 4))).same D _ hK3 rfl
        have kc0 := cell_kept q0.cell (grownBy_putObj' _ D (.deferred none)) (fun r e => by cases e; exact ⟨_, hk4, rfl⟩)
        have kc1 := cell_kept q1.cell (grownBy_putObj' _ D (.deferred none)) (fun r e => by cases e; exact ⟨_, hk4, rfl⟩)
        have hbe := ((hB3.setCell (p := ⟨w.heap.size, 0, none⟩) (Nat.le_refl _) (.int .u64 0)).setCell (p := ⟨w.heap.size + 1, 0, none⟩) (by simp) (.int .i64 4)).trans (belowK_b (w := w) (Nat.le_refl _) _ D _ (.deferred none) (by omega) hk4 rfl rfl)
        refine ⟨by simp, .inl ⟨_, _, rfl, run_takeDeferred hk4, ?_⟩⟩
        refine ⟨.tuple #[.int .u64 0, .int .i64 4], ?_, 0, 4, rfl, HR.out, hbe⟩
        simp [results, Tryz.f67, go_sem, kc0, kc1]
    case stop =>
      rintro D c pre W hD hp ⟨⟨b0, b1⟩, ⟨rfl, p, hpm, hpv⟩, hB⟩ hK
      have hrd := read_bad HS.out hp hpm hpv
      have kc0 := cell_kept b0.cell (grownBy_putObj' _ D (.deferred none)) (fun r e => by cases e; exact ⟨_, hK, rfl⟩)
      have kc1 := cell_kept b1.cell (grownBy_putObj' _ D (.deferred none)) (fun r e => by cases e; exact ⟨_, hK, rfl⟩)
      have hbe := hB.trans (belowK_b (w := w) (Nat.le_refl _) W D _ (.deferred none) (by omega) hK rfl rfl)
      clear d0 d1 d2 d0' d1' hsq e0 e1 e2 e2' hbB G0 G1 G2 HBA hp hpm hpv b0 b1
      gi_wp2
      refine ⟨by simp, .inl ⟨_, _, rfl, run_takeDeferred hK, ?_⟩⟩
      refine ⟨.tuple #[.int .u64 0, .int .i64 4], ?_, 0, 4, rfl, hrd, hbe⟩
      simp [results, Tryz.f67, go_sem, kc0, kc1]
end Go.Proofs.YtenbbefahpkhpaaGreatDoor
/- policy.read, by its contract. -/
namespace Go.Proofs.YtenbbefahpkhpaaGreatDoor
open Go Go.RowKit Go.Maps

theorem strCut_any (t : ByteArray) (W : World) (hs : t.size < 4294967281) (hM : MaxS W) : Calls Tryz.prog 66 #[.string t, .string ⟨#[32]⟩] W fun e w' => ∃ b, e = .returned (.tuple #[.string (bs (nameOf t.data.toList)), .string (bs (wordAt t.data.toList)), .bool b]) ∧ Below W.heap.size W w' := by
  obtain ⟨m, hm⟩ := hM
  refine (Tryz.strings_Cut t ⟨#[32]⟩ m W hs hm).mono ?_
  rintro e w' ⟨he, n, rfl⟩
  obtain ⟨h1, h2⟩ := cut_blank t.data.toList
  rw [show (⟨#[32]⟩ : ByteArray).data.toList = [32] from rfl, h1, h2] at he
  exact ⟨_, he, below_drewN' (Below.refl _ _) _⟩
theorem strCount_any (s : ByteArray) (W : World) : Calls Tryz.prog 64 #[.string s, .string ⟨#[10]⟩] W fun e w' => e = .returned (.int .i64 (s.data.toList.count 10 : Nat)) ∧ W = w' :=
  (Tryz.strings_Count_one s 10 W).mono fun _ _ ⟨h1, h2⟩ => ⟨h1, h2.symm⟩
/-- What read answers. -/
def ReadSays (s : List UInt8) (W : World) (e : Ending) (w' : World) : Prop := Below W.heap.size W w' ∧
  ((∃ (p : Option Addr) (c : Nat) (l : List Vw), e = .returned (.tuple #[.slice p l.length c, .int .i64 0]) ∧ VwRow w' p l ∧ Fit64 l ∧ l.length ≤ maxLen ∧ Reads (cutL s) l) ∨ ((¬ ∃ l, Spells s l) ∧ e = .returned (.tuple #[.slice none 0 0, .int .i64 4])))

set_option maxRecDepth 100000 in
set_option maxHeartbeats 4000000 in
theorem read_pol (s : ByteArray) (w : World) (hs : s.size < 4294967281) (hM : MaxS w) (hT : BTab w) (hE : EvW w) : Calls Tryz.prog 36 #[.string s] w (ReadSays s.data.toList w) := by
  have cC := strCount_any s
  have cL := cut_row s w hs hM
  unfold CutRow at cL
  have hmany := Lib.hid (none_of_many (s := s.data.toList))
  have hcut := Lib.hid (none_of_cut (s := s.data.toList))
  have hpiece := Lib.hid (fun k hk h => none_of_piece (s := s.data.toList) (k := k) hk h)
  obtain ⟨hlen, htl⟩ := cut_len s.data.toList
  rw [len_size] at hlen
  have HTL := Lib.hid htl
  obtain ⟨m, hm⟩ : ∃ m, s.data.toList.count 10 = m := ⟨_, rfl⟩
  rw [hm] at cC hmany
  have hE4 : cutE s.data.toList = 0 ∨ cutE s.data.toList = 4 := by unfold cutE; split <;> simp
  obtain ⟨ec, hec⟩ : ∃ ec, cutE s.data.toList = ec := ⟨_, rfl⟩
  rw [hec] at cL hcut hE4
  generalize hts : cutL s.data.toList = ts at *
  have HTS := Lib.hid hts
  obtain ⟨n, hn⟩ : ∃ n, ts.length = n := ⟨_, rfl⟩
  have HN := Lib.hid hn
  rw [hn] at hlen cL
  have HM := Lib.hid hM; have HT := Lib.hid hT; have HE := Lib.hid hE
  clear hM hT hE htl hm hec hn hts
  by_cases hmm : 64 < m
  · have hno := hmany.out hmm
    go_enter Tryz.func36, Tryz.ntmps36
    go_wp2_with (go_at_call 64; refine (cC _).mono ?_; rintro e w' ⟨rfl, rfl⟩)
    go_ret2
    exact ⟨Below.refl _ _, .inr ⟨hno, rfl⟩⟩
  · rcases hE4 with rfl | rfl
    · clear hcut hmany
      obtain ⟨i0, hi, hz0, hz1, hz2⟩ := info_parts vwInfo
      have hsn : n < 4294967281 := by omega
      go_enter Tryz.func36, Tryz.ntmps36
      go_wp2_with (first
        | (go_at_call 64; refine (cC _).mono ?_; rintro e w' ⟨rfl, rfl⟩)
        | (go_at_call 65; refine cL.mono ?_; rintro e w1 ⟨p1, c1, rfl, hb1, ho1⟩))
      have hrow : StrRow w1 p1 (asTexts ts) := by
        have hl : (asTexts ts).length = n := by unfold asTexts; rw [List.length_map]; exact HN.out
        obtain ⟨p', c', e', hr'⟩ := row_owned (ks := asTexts ts) (by rw [hl]; exact ho1)
        rw [hl] at e'
        injection e' with e1 _ _
        rw [e1]; exact hr'
      have hs1 := hb1.size
      clear cC cL ho1
      go_loopg [6, 27] n (fun g u vi wr => ∃ (k : Nat) (l : List Vw), k + g = n ∧ vi = .int .i64 k ∧ Below w1.heap.size w1 wr ∧ l.length = k ∧ Hid (Reads (ts.take k) l) ∧ Hid (Fit64 l) ∧ Hid (wr.ownsRow w1.heap.size 40 2 u k (flat l)))
      case atStart => exact ⟨0, [], by omega, rfl, Below.refl _ _, rfl, by rw [List.take_zero]; exact Reads.nil, fit64_nil, World.ownsRow_nil _ _ _ _⟩
      case round =>
        obtain ⟨k, l, hk, rfl, hbr, hlk, HR, HF, HO⟩ := hrel
        have hbrw : Below w.heap.size w wr := hb1.trans (hbr.mono hs1)
        have hsr := hbr.size
        by_cases hlt : k < n
        · have hlt' : k < ts.length := by rw [HN.out]; exact hlt
          have hmem := List.getElem_mem hlt'
          obtain ⟨b1, o1, rfl, h1c⟩ := hrow.at k (by unfold asTexts; rw [List.length_map]; exact hlt')
          have g1 := h1c wr hbr
          have hat : (asTexts ts)[k]'(by unfold asTexts; rw [List.length_map]; exact hlt') = bs ts[k] := by simp [asTexts, bs]
          rw [hat] at g1
          have htk := HTL.out ts[k] hmem
          rw [len_size] at htk
          have hnl := nameOf_le ts[k]
          have hwl := wordAt_le ts[k]
          have HP := Lib.hid (hpiece.out k hlt')
          have hst := Lib.hid (fun (a : Nat) (ha : a < 18446744073709551616) (e : textN a = wordAt ts[k]) => (show Reads (ts.take (k + 1)) (l ++ [⟨nameOf ts[k], a⟩]) by rw [List.take_succ_eq_append_getElem hlt']; exact HR.out.snoc ha e))
          generalize ts[k] = t at *
          have cX := strCut_any (bs t) wr (by rw [bs_size]; omega) (HM.out.below hbrw)
          rw [bs_list] at cX
          have HB := Lib.hid hbr
          have HBW := Lib.hid hbrw
          clear h1c hat hmem hbr hbrw hpiece
          go_wp2_with (first | (go_at_call 66; refine cX.mono ?_; rintro e w2 ⟨bb, rfl, hb2⟩))
          have hbw2 := HBW.out.trans (hb2.mono HBW.out.size)
          have cP := parse_any (bs (wordAt t)) w2 (by rw [bs_size]; omega) (HT.out.below hbw2) (HE.out.below hbw2)
          rw [bs_list] at cP
          refine cP.mono ?_
          rintro e w3 ⟨a, er, rfl, hra, hb3⟩
          have hbw3 := hbw2.trans (hb3.mono hbw2.size)
          have hsz2 := hb2.size
          have hsz3 := hb3.size
          have HBW3 := Lib.hid hbw3
          have HB3 := Lib.hid ((HB.out.trans (hb2.mono hsr)).trans (hb3.mono (by omega)))
          have HO3 := Lib.hid (ownsAny_later (ownsAny_later HO.out hb2) hb3)
          clear cX cP hb2 hb3 hbw2 hbw3 HO
          rcases hra with ⟨rfl, ha, hta⟩ | ⟨rfl, rfl, hno⟩
          · have HR2 : Hid (Reads (ts.take (k + 1)) (l ++ [⟨nameOf t, a⟩])) := hst.out a ha hta
            have HF2 : Hid (Fit64 (l ++ [⟨nameOf t, a⟩])) := fun x hx => by
              rw [List.mem_append, List.mem_singleton] at hx
              rcases hx with hx | rfl
              · exact HF.out x hx
              · exact ⟨ha, by unfold maxLen; show (nameOf t).length ≤ _; omega⟩
            have ho3 := HO3.out
            clear HR HF hst HP HO3 hta
            go_wp2_with (first
              | (at_builtin; refine wpList_append_own _ rfl _ _ 29 rfl w1.heap.size 40 i0 (.agg #[.string ⟨#[]⟩, .int .u64 0]) 2 24 Tryz.underlying29 hi hz0 hz1 hz2 rfl (by decide) _ _ _ rfl (ho3.alloc _) ⟨w3.heap.size, 0, none⟩ 1 1 [.string (bs (nameOf t)), .int .u64 a] rfl rfl ?c1 ?c2 ?c3 ?c4 ?c5 ?_))
            case c1 =>
              intro j u hj
              match j, hj with
              | 0, hj => simp at hj; subst hj; simp [Addr.add]
              | 1, hj => simp at hj; subst hj; simp [Addr.add]
            case c2 => intro u hu; simp at hu; rcases hu with rfl | rfl <;> rfl
            case c3 => unfold maxLen; omega
            case c4 => omega
            case c5 => simp; omega
            intro u' w4 hown' hgrow _
            have hb4 : Below w1.heap.size w1 w4 := (HB3.out.alloc (by omega) _).grown hgrow (by simp; omega) (fun g hg => (ho3.lt g hg).1)
            have HO4 : Hid (w4.ownsRow w1.heap.size 40 2 u' (k + 1) (flat (l ++ [⟨nameOf t, a⟩]))) := by
              show w4.ownsRow _ _ _ _ _ _
              rw [flat_snoc]; exact hown'
            clear ho3 hown' hgrow
            go_wp2_with fail
            go_roundg (gk - 1)
            case rel => exact ⟨k + 1, _, by omega, by go_num, hb4, by simp [hlk], HR2, HF2, HO4⟩
            case measure => omega
          · have hnone := HP.out hno
            clear HR HF hst HP HO3 hno
            go_wp2_with fail
            go_ret2
            exact ⟨HBW3.out, .inr ⟨hnone, rfl⟩⟩
        · obtain rfl : k = n := by omega
          have hall : ts.take k = ts := by rw [← HN.out]; exact List.take_length
          rw [hall] at HR
          have HBW := Lib.hid hbrw
          obtain ⟨p2, c2, hu, hr2⟩ := vw_owned hlk HO.out
          subst hu
          have HL := Lib.hid hlk
          have HR2 := Lib.hid hr2
          clear hbr hbrw hall HO hlk hr2
          go_wp2_with fail
          go_ret2
          exact ⟨HBW.out, .inl ⟨p2, c2, l, by rw [HL.out]; rfl, HR2.out, HF.out, by rw [HL.out]; unfold maxLen; omega, by rw [HTS.out]; exact HR.out⟩⟩
    · have hno := hcut.out (by decide)
      go_enter Tryz.func36, Tryz.ntmps36
      go_wp2_with (first
        | (go_at_call 64; refine (cC _).mono ?_; rintro e w' ⟨rfl, rfl⟩)
        | (go_at_call 65; refine cL.mono ?_; rintro e w1 ⟨p1, c1, rfl, hb1, ho1⟩))
      go_ret2
      exact ⟨hb1, .inr ⟨hno, rfl⟩⟩
end Go.Proofs.YtenbbefahpkhpaaGreatDoor
/- append to a row of the call's own, as one step of a region that draws its order. No program. -/
namespace Go.Proofs.YtenbbefahpkhpaaGreatDoor
open Go Go.RowKit

theorem step_append_own {P : Program} {ops : Array Oper} {o : Oper} {a : Act} {w : World} {K : Act → World → Prop} {Q : Exit → Act → World → Prop} {E : Prop} (hgd : o.guard = none) (s x : Operand) (t : TypeId)
    (ho : o.op = .call { callee := .builtin .append, args := #[s, x], argTypes := #[t, t] })
    (base : Nat) (e : TypeId) (i : TypeInfo) (z : Value) (size bytes : Nat) (ht : P.underlying t = some (.slice e)) (hi : P.info? e = some i) (hz : i.zero = some z)
    (hsize : i.size = size) (hby : i.bytes = bytes) (hzs : z.cells.size = size) (hsz : 0 < size)
    (v : Value) (n : Nat) (xs : List Value) (hs : a.eval s = v) (hown : w.ownsRow base e size v n xs)
    (ad : Addr) (m c : Nat) (news : List Value) (hx : a.eval x = .slice (some ad) m c) (hl : news.length = m * size) (hnews : ∀ j u, news[j]? = some u → w.cell? (ad.add j) = some u) (h1 : ∀ u ∈ news, u.oneCell' = true)
    (h63 : n + m ≤ maxLen) (hbytes : (n + m) * bytes ≤ 140737488355328) (hbase : base ≤ w.heap.size)
    (h : ∀ v' w', w'.ownsRow base e size v' (n + m) (xs ++ news) → w.grownBy w' v.ownBlock → K (a.put o.dst v') w') : if Region.wanted o (yielded ops a.tmps) = true then Oper.wp P o a w K Q else E := by
  have hw : Region.wanted o (yielded ops a.tmps) = true := by simp [Region.wanted, hgd]
  rw [if_pos hw]
  obtain ⟨v', w', hr, h2, h3, _⟩ := run_append_own (P := P) w base t o.type e i z size bytes ht hi hz hsize hby hzs hsz v n xs hown ad m c news hl hnews h1 h63 hbytes hbase
  unfold Oper.wp execOp
  simp only [ho, resolve, invoke, builtin, Sem.run_bind, Sem.run_pure, Result.andThen_ok, List.map_toArray, List.map_cons, List.map_nil, hs, hx, hr]
  exact h v' w' h2 h3
end Go.Proofs.YtenbbefahpkhpaaGreatDoor
/- policy.Print, by its contract. -/
namespace Go.Proofs.YtenbbefahpkhpaaGreatDoor
open Go Go.RowKit Go.Maps

theorem name_le {s : List UInt8} (h : nameL s = true) : s.length ≤ 32 := by
  unfold nameL at h; simp only [Bool.and_eq_true, decide_eq_true_eq] at h; exact h.1.2
theorem line_le {x : Vw} (h : nameL x.s = true) : (lineOf x).length ≤ 225 := by
  have h1 := name_le h
  have h2 := text_le x.c
  unfold lineOf
  rw [List.length_append, List.length_cons]; omega
/-- A policy's lines as Go's strings. -/
def lineStrs (l : List Vw) : List ByteArray := l.map fun x => bs (lineOf x)
theorem lists_lines (l : List Vw) : listsOf (lineStrs l) = l.map lineOf := by
  unfold listsOf lineStrs
  rw [List.map_map]
  apply List.map_congr_left
  intro x _
  exact bs_list _
theorem lines_size : ∀ l : List Vw, (∀ x ∈ l, nameL x.s = true) → sizeOf' (lineStrs l) ≤ 226 * l.length
  | [], _ => by simp [sizeOf', lineStrs, listsOf]
  | x :: l, h => by
    have ih := lines_size l fun y hy => h y (List.mem_cons_of_mem _ hy)
    have hx := line_le (h x (List.mem_cons_self ..))
    unfold sizeOf' at ih ⊢
    rw [lists_lines] at ih ⊢
    simp only [List.map_cons, List.sum_cons, List.length_cons] at ih ⊢
    omega
theorem print_le {l : List Vw} (h : okL l) : (printL l).length ≤ 14464 := by
  have h1 := lines_size l h.2.2
  have h2 := h.1
  unfold printL
  rw [join_len, ← lists_lines]
  unfold sizeOf' at h1
  omega

/-- The two cells of a viewer at block b. -/
def VCell (b : Nat) (x : Vw) (W : World) : Prop := W.cell? ⟨b, 0, none⟩ = some (.string (bs x.s)) ∧ W.cell? ⟨b, 1, none⟩ = some (.int .u64 x.c)
theorem VCell.keep {b : Nat} {x : Vw} {W W' : World} (h : VCell b x W) (hb : Below W.heap.size W W') : VCell b x W' := by
  have hlt := World.block_lt_of_cell? W _ h.1
  exact ⟨(hb.cell (p := ⟨b, 0, none⟩) hlt).trans h.1, (hb.cell (p := ⟨b, 1, none⟩) hlt).trans h.2⟩
theorem VCell.grown {b : Nat} {x : Vw} {W W' : World} {row : Option Nat} (h : VCell b x W) (hg : W.grownBy W' row) (hne : row ≠ some b) : VCell b x W' :=
  ⟨hg.cell h.1 (fun e => hne e.symm), hg.cell h.2 (fun e => hne e.symm)⟩
theorem vcell_new (w : World) (x : Vw) (T : TypeId) : VCell w.heap.size x (w.alloc (.cells #[.string (bs x.s), .int .u64 x.c] T)) := by
  refine ⟨?_, ?_⟩ <;> (rw [World.cell?_alloc_mark]; rfl)
theorem cells_one (w : World) (y : Value) (T : TypeId) : ∀ j u, [y][j]? = some u → (w.alloc (.cells #[y] T)).cell? ((⟨w.heap.size, 0, none⟩ : Addr).add j) = some u := by
  intro j u hj
  match j, hj with
  | 0, hj => simp at hj; subst hj; simp [Addr.add]
theorem concat_bs (x : Vw) : bs x.s ++ ⟨#[32]⟩ ++ bs (textN x.c) = bs (lineOf x) := by
  apply ByteArray.ext
  simp [bs, lineOf, ByteArray.data_append]

set_option maxRecDepth 100000 in
set_option maxHeartbeats 4000000 in
theorem print_any (v : Value) (l : List Vw) (w : World) (hp : PolAt w v l) (hT : BTab w) : Calls Tryz.prog 14 #[v] w fun e w' => e = .returned (.string (bs (printL l))) ∧ Below w.heap.size w w' := by
  have cV := viewers_any v l w hp
  obtain ⟨i0, hi, hz0, hz1, hz2⟩ := info_parts strInfo
  obtain ⟨h64, _, hnames⟩ := hp.ok
  have hlo := hp.lo
  have HNM : Aside _ := hnames
  have HLO : Aside _ := hlo
  have hsz := lines_size l hnames
  obtain ⟨pp, b, rfl, _⟩ := hp.at'
  obtain ⟨n, hn⟩ : ∃ n, l.length = n := ⟨_, rfl⟩
  unfold GivesVw at cV
  rw [hn] at cV h64 hsz
  have HN := Lib.hid hn
  have HSZ := Lib.hid hsz
  have HT := Lib.hid hT
  clear hp hnames hlo hn hsz hT
  go_enter Tryz.func14, Tryz.ntmps14
  go_wp2_with (go_at_call 10; refine cV.mono ?_; rintro e w1 ⟨hb1, p1, c1, rfl, hr, ho⟩)
  have hs1 := hb1.size
  clear cV ho
  go_loopg [3, 9] n (fun g u vi wr => ∃ k : Nat, k + g = n ∧ vi = .int .i64 k ∧ Below w1.heap.size w1 wr ∧ Hid (wr.ownsRow w1.heap.size 9 1 u k ((lineStrs (l.take k)).map Value.string)))
  case atStart => exact ⟨0, by omega, rfl, Below.refl _ _, by rw [List.take_zero]; exact World.ownsRow_nil _ _ _ _⟩
  case round =>
    obtain ⟨k, hk, rfl, hbr, HO⟩ := hrel
    have hbrw : Below w.heap.size w wr := hb1.trans (hbr.mono hs1)
    have hsr := hbr.size
    by_cases hlt : k < n
    · have hlt' : k < l.length := by rw [HN.out]; exact hlt
      have hmem := List.getElem_mem hlt'
      obtain ⟨b1, o1, rfl, hbl1, h1c⟩ := hr.at k hlt'
      obtain ⟨g1, g2⟩ := h1c wr hbr
      have hx64 := HLO.out l[k] hmem
      have HNX := Lib.hid (HNM.out l[k] hmem)
      have cT := fun W h => text_any_lb l[k].c W hx64 h
      have hsn : Hid ((lineStrs (l.take (k + 1))).map Value.string = (lineStrs (l.take k)).map Value.string ++ [.string (bs (lineOf l[k]))]) := by
        show (lineStrs (l.take (k + 1))).map Value.string = _
        rw [List.take_succ_eq_append_getElem hlt']
        unfold lineStrs
        rw [List.map_append, List.map_append]; rfl
      generalize l[k] = x at *
      have hcat := concat_bs x
      have hS0 := vcell_new wr x 40
      have ho00 := HO.out
      have ho0 := HO.out.alloc (.cells #[.string (bs x.s), .int .u64 x.c] 40)
      have hb0 : Below w1.heap.size w1 (wr.alloc (.cells #[.string (bs x.s), .int .u64 x.c] 40)) := hbr.alloc hsr _
      have hbt : BTab (wr.alloc (.cells #[.string (bs x.s), .int .u64 x.c] 40)) := HT.out.below (hbrw.alloc (by omega) _)
      clear h1c hbr hbrw HO hmem
      have hnx := name_le (HNX.out)
      have htx := text_le x.c
      have ha1 : (bs x.s).size + 1 ≤ 9223372036854775807 := by rw [bs_size]; omega
      have ha2 : (bs x.s).size + 1 + (bs (textN x.c)).size ≤ 9223372036854775807 := by rw [bs_size, bs_size]; omega
      have hb1' : (9223372036854775807 < (bs x.s).size + 1) = False := by rw [eq_iff_iff, iff_false]; omega
      have hb2' : (9223372036854775807 ≤ (bs x.s).size) = False := by rw [eq_iff_iff, iff_false]; omega
      have hb3' : (9223372036854775807 < (bs x.s).size + 1 + (bs (textN x.c)).size) = False := by rw [eq_iff_iff, iff_false]; omega
      have hne : u3.ownBlock ≠ some wr.heap.size := fun e => by have := (ho00.lt _ e).2; omega
      change ∀ W, BTab W → Calls _ _ _ _ fun e w' => e = .returned (.string (bs (textN x.c))) ∧ _ at cT
      generalize hW0 : wr.alloc (.cells #[.string (bs x.s), .int .u64 x.c] 40) = W0 at *
      have hw0 : W0.heap.size = wr.heap.size + 1 := by rw [← hW0]; simp
      go_wp2_with fail
      clear hW0
      go_region_held3 (fun W => W.cell? ⟨wr.heap.size, 0, none⟩ = some (.string (bs x.s)) ∧ W.cell? ⟨wr.heap.size, 1, none⟩ = some (.int .u64 x.c))
        (first | exact (hS0 : VCell wr.heap.size x W0.drew) | exact hS2 | exact hS3 | exact hS4 | go_keep)
        (first
          | (go_at_call 33; refine (cT _ (hbt.below (Below.drew (Below.refl _ _)))).mono ?_; rintro e w2 ⟨rfl, hb2⟩; have hS2 : VCell wr.heap.size x w2 := VCell.keep (W := W0.drew) hS0 hb2; have hS3 : VCell wr.heap.size x (w2.alloc (.cells #[.string (bs (lineOf x))] 9)) := VCell.keep hS2 ((Below.refl _ _).alloc (Nat.le_refl _) _); have ho1 := ownsAny_later (w := W0.drew) ho0 hb2; have ho2 := ho1.alloc (.cells #[.string (bs (lineOf x))] 9); have hsz2 : W0.heap.size ≤ w2.heap.size := hb2.size)
          | (refine step_append_own rfl _ _ 33 rfl w1.heap.size 9 i0 (.string ⟨#[]⟩) 1 16 Tryz.underlying33 hi hz0 hz1 hz2 rfl (by decide) _ k _ rfl ho2 ⟨w2.heap.size, 0, none⟩ 1 1 [.string (bs (lineOf x))] rfl rfl (cells_one _ _ _) (by simp [Value.oneCell']) (by unfold maxLen; omega) (by omega) (by simp; omega) ?_; intro u' w3 hown' hgr'; have hS4 : VCell wr.heap.size x w3 := VCell.grown hS3 hgr' hne))
      have hb3 : Below w1.heap.size w1 w3 := (((Below.drew hb0).trans (hb2.mono (by show w1.heap.size ≤ W0.heap.size; omega))).alloc (by omega) _).grown hgr' (by simp; omega) (fun g hg => (ho2.lt g hg).1)
      have HO2 : Hid (w3.ownsRow w1.heap.size 9 1 u' (k + 1) ((lineStrs (l.take (k + 1))).map Value.string)) := by rw [hsn.out]; exact hown'
      clear hown' hgr' ho2 ho1 hb2 hS2 hS3 hS4 hS0 ho0 ho00 hb0 hcat hb1' hb2' hb3' ha1 ha2 cT hbt hsn
      go_wp2_with fail
      go_roundg (gk - 1)
      case rel => exact ⟨k + 1, by omega, by go_num, hb3, HO2⟩
      case measure => omega
    · obtain rfl : k = n := by omega
      have hall : l.take k = l := by rw [← HN.out]; exact List.take_length
      have HO2 := Lib.hid HO.out
      rw [hall] at HO2
      have hll : (lineStrs l).length = k := by unfold lineStrs; rw [List.length_map]; exact HN.out
      have HBW := Lib.hid hbrw
      obtain ⟨p2, c2, hu, hrow⟩ := row_owned (ks := lineStrs l) (by rw [hll]; exact HO2.out)
      rw [hll] at hu
      subst hu
      have cJ := joined_any wr p2 c2 (lineStrs l) hrow (by have := HSZ.out; omega)
      rw [hll, lists_lines] at cJ
      clear HO hbr hbrw hall HO2 hrow
      go_wp2_with (go_at_call 34; refine cJ.mono ?_; rintro e w5 ⟨rfl, hb5⟩)
      go_ret
      exact ⟨rfl, HBW.out.trans (hb5.mono HBW.out.size)⟩
end Go.Proofs.YtenbbefahpkhpaaGreatDoor
/- policy.Parse, by its contract. -/
namespace Go.Proofs.YtenbbefahpkhpaaGreatDoor
open Go Go.RowKit Go.Maps

/-- What Parse answers. -/
def ParseSays (s : List UInt8) (W : World) (e : Ending) (w' : World) : Prop := Below W.heap.size W w' ∧
  ((∃ (a : Addr) (l : List Vw), e = .returned (.tuple #[.pointer (some a), .int .i64 0]) ∧ PolAt w' (.pointer (some a)) l ∧ Spells s l) ∨ ((¬ ∃ l, Spells s l) ∧ e = .returned (.tuple #[.pointer none, .int .i64 4])))

set_option maxRecDepth 100000 in
set_option maxHeartbeats 2000000 in
theorem parse_pol (s : ByteArray) (w : World) (hs : s.size < 4294967281) (hM : MaxS w) (hT : BTab w) (hE : EvW w) : Calls Tryz.prog 17 #[.string s] w (ParseSays s.data.toList w) := by
  have cR := read_pol s w hs hM hT hE
  have HT := Lib.hid hT
  clear hT hM hE
  go_enter Tryz.func17, Tryz.ntmps17
  go_wp2_with fail
  refine cR.mono ?_
  rintro e w1 ⟨hb1, ⟨p, c, l, rfl, hrow, hfit, hlen, hrd⟩ | ⟨hno, rfl⟩⟩
  · have cN := new_any w1 p l.length c l rfl hlen hrow hfit
    obtain ⟨hyes, hno1, hno2⟩ := spells_of hrd
    have HY := Lib.hid hyes
    have HN1 := Lib.hid hno1
    have HN2 := Lib.hid hno2
    obtain ⟨n, hn⟩ : ∃ n, l.length = n := ⟨_, rfl⟩
    rw [hn] at cN ⊢
    clear cR hrow hfit hlen hrd hyes hno1 hno2 hn
    go_wp2_with fail
    refine cN.mono ?_
    rintro e w2 ⟨hb2, ⟨hok, v, rfl, hp, a, rfl⟩ | ⟨hnok, rfl⟩⟩
    · have hb := hb1.trans (hb2.mono hb1.size)
      have cP := print_any _ _ w2 hp (HT.out.below hb)
      have HP : Aside _ := hp
      by_cases hq : printL (sortV l) = s.data.toList
      · have hyes := HY.out ⟨hok, hq⟩
        have hbq : ((bs (printL (sortV l))).toList == s.toList) = true := by
          rw [ByteArray.toList_eq, ByteArray.toList_eq, bs_list, hq]; simp
        have HQ := Lib.hid hyes
        clear cN hp hq hyes HY HN1 HN2
        go_wp2_with (first | (go_at_call 14; refine cP.mono ?_; rintro e w3 ⟨rfl, hb3⟩))
        go_ret2
        exact ⟨hb.trans (hb3.mono hb.size), .inl ⟨a, _, rfl, PolAt.later HP.out hb3, HQ.out⟩⟩
      · have hno := HN2.out hq
        have hbq : ((bs (printL (sortV l))).toList == s.toList) = false := by
          rw [ByteArray.toList_eq, ByteArray.toList_eq, bs_list]; exact beq_false_of_ne hq
        clear cN hp hq HY HN1 HN2
        go_wp2_with (first | (go_at_call 14; refine cP.mono ?_; rintro e w3 ⟨rfl, hb3⟩))
        go_ret2
        exact ⟨hb.trans (hb3.mono hb.size), .inr ⟨hno, rfl⟩⟩
    · have hno := HN1.out hnok
      clear cN HY HN1 HN2
      go_wp2_with fail
      go_ret2
      exact ⟨hb1.trans (hb2.mono hb1.size), .inr ⟨hno, rfl⟩⟩
  · clear cR
    go_wp2_with fail
    go_ret2
    exact ⟨hb1, .inr ⟨hno, rfl⟩⟩
end Go.Proofs.YtenbbefahpkhpaaGreatDoor
