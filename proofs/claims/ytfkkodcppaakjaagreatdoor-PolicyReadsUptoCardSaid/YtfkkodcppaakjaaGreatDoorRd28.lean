/- Texts of the proof, merged: PoPrint, PoParse. -/
import Derived.Test.YtfkkodcppaakjaaGreatDoorRd13
import Derived.Test.YtfkkodcppaakjaaGreatDoorRd15
import Derived.Test.YtfkkodcppaakjaaGreatDoorRd20
import Derived.Test.YtfkkodcppaakjaaGreatDoorRd24
import Derived.Test.YtfkkodcppaakjaaGreatDoorRd27
/- policy.Print, by its contract. -/
namespace Go.Proofs.YtfkkodcppaakjaaGreatDoor
open Go Go.RowKit Go.Maps

theorem name_le {s : List UInt8} (h : nameL s = true) : s.length ≤ 32 := by
  unfold nameL at h; simp only [Bool.and_eq_true, decide_eq_true_eq] at h; exact h.1.2
theorem line_le {x : Vw} (h : nameL x.s = true) : (lineOf x).length ≤ 225 := by
  have h1 := name_le h
  have h2 := text_le x.c
  unfold lineOf
  rw [List.length_append, List.length_cons]; omega
/-- A policy's lines as Go's strings. -/
def lineStrs (l : List Vw) : List ByteArray := l.map fun x => bs (lineOf x)
theorem lists_lines (l : List Vw) : listsOf (lineStrs l) = l.map lineOf := by
  unfold listsOf lineStrs
  rw [List.map_map]
  apply List.map_congr_left
  intro x _
  exact bs_list _
theorem lines_size : ∀ l : List Vw, (∀ x ∈ l, nameL x.s = true) → sizeOf' (lineStrs l) ≤ 226 * l.length
  | [], _ => by simp [sizeOf', lineStrs, listsOf]
  | x :: l, h => by
    have ih := lines_size l fun y hy => h y (List.mem_cons_of_mem _ hy)
    have hx := line_le (h x (List.mem_cons_self ..))
    unfold sizeOf' at ih ⊢
    rw [lists_lines] at ih ⊢
    simp only [List.map_cons, List.sum_cons, List.length_cons] at ih ⊢
    omega
theorem print_le {l : List Vw} (h : okL l) : (printL l).length ≤ 14464 := by
  have h1 := lines_size l h.2.2
  have h2 := h.1
  unfold printL
  rw [join_len, ← lists_lines]
  unfold sizeOf' at h1
  omega

/-- The two cells of a viewer at block b. -/
def VCell (b : Nat) (x : Vw) (W : World) : Prop := W.cell? ⟨b, 0, none⟩ = some (.string (bs x.s)) ∧ W.cell? ⟨b, 1, none⟩ = some (.int .u64 x.c)
theorem VCell.keep {b : Nat} {x : Vw} {W W' : World} (h : VCell b x W) (hb : Below W.heap.size W W') : VCell b x W' := by
  have hlt := World.block_lt_of_cell? W _ h.1
  exact ⟨(hb.cell (p := ⟨b, 0, none⟩) hlt).trans h.1, (hb.cell (p := ⟨b, 1, none⟩) hlt).trans h.2⟩
theorem VCell.grown {b : Nat} {x : Vw} {W W' : World} {row : Option Nat} (h : VCell b x W) (hg : W.grownBy W' row) (hne : row ≠ some b) : VCell b x W' :=
  ⟨hg.cell h.1 (fun e => hne e.symm), hg.cell h.2 (fun e => hne e.symm)⟩
theorem vcell_new (w : World) (x : Vw) (T : TypeId) : VCell w.heap.size x (w.alloc (.cells #[.string (bs x.s), .int .u64 x.c] T)) := by
  refine ⟨?_, ?_⟩ <;> (rw [World.cell?_alloc_mark]; rfl)
theorem cells_one (w : World) (y : Value) (T : TypeId) : ∀ j u, [y][j]? = some u → (w.alloc (.cells #[y] T)).cell? ((⟨w.heap.size, 0, none⟩ : Addr).add j) = some u := by
  intro j u hj
  match j, hj with
  | 0, hj => simp at hj; subst hj; simp [Addr.add]
theorem concat_bs (x : Vw) : bs x.s ++ ⟨#[32]⟩ ++ bs (textN x.c) = bs (lineOf x) := by
  apply ByteArray.ext
  simp [bs, lineOf, ByteArray.data_append]

set_option maxRecDepth 100000 in
set_option maxHeartbeats 4000000 in
theorem print_any (v : Value) (l : List Vw) (w : World) (hp : PolAt w v l) (hT : BTab w) : Calls Tryz.prog 36 #[v] w fun e w' => e = .returned (.string (bs (printL l))) ∧ Below w.heap.size w w' := by
  have cV := viewers_any v l w hp
  obtain ⟨i0, hi, hz0, hz1, hz2⟩ := info_parts strInfo
  obtain ⟨h64, _, hnames⟩ := hp.ok
  have hlo := hp.lo
  have HNM : Aside _ := hnames
  have HLO : Aside _ := hlo
  have hsz := lines_size l hnames
  obtain ⟨pp, b, rfl, _⟩ := hp.at'
  obtain ⟨n, hn⟩ : ∃ n, l.length = n := ⟨_, rfl⟩
  unfold GivesVw at cV
  rw [hn] at cV h64 hsz
  have HN := Lib.hid hn
  have HSZ := Lib.hid hsz
  have HT := Lib.hid hT
  clear hp hnames hlo hn hsz hT
  go_enter Tryz.func36, Tryz.ntmps36
  go_wp2_with (go_at_call 43; refine cV.mono ?_; rintro e w1 ⟨hb1, p1, c1, rfl, hr, ho⟩)
  have hs1 := hb1.size
  clear cV ho
  go_loopg [3, 9] n (fun g u vi wr => ∃ k : Nat, k + g = n ∧ vi = .int .i64 k ∧ Below w1.heap.size w1 wr ∧ Hid (wr.ownsRow w1.heap.size 9 1 u k ((lineStrs (l.take k)).map Value.string)))
  case atStart => exact ⟨0, by omega, rfl, Below.refl _ _, by rw [List.take_zero]; exact World.ownsRow_nil _ _ _ _⟩
  case round =>
    obtain ⟨k, hk, rfl, hbr, HO⟩ := hrel
    have hbrw : Below w.heap.size w wr := hb1.trans (hbr.mono hs1)
    have hsr := hbr.size
    by_cases hlt : k < n
    · have hlt' : k < l.length := by rw [HN.out]; exact hlt
      have hmem := List.getElem_mem hlt'
      obtain ⟨b1, o1, rfl, hbl1, h1c⟩ := hr.at k hlt'
      obtain ⟨g1, g2⟩ := h1c wr hbr
      have hx64 := HLO.out l[k] hmem
      have HNX := Lib.hid (HNM.out l[k] hmem)
      have cT := fun W h => text_any_lb l[k].c W hx64 h
      have hsn : Hid ((lineStrs (l.take (k + 1))).map Value.string = (lineStrs (l.take k)).map Value.string ++ [.string (bs (lineOf l[k]))]) := by
        show (lineStrs (l.take (k + 1))).map Value.string = _
        rw [List.take_succ_eq_append_getElem hlt']
        unfold lineStrs
        rw [List.map_append, List.map_append]; rfl
      generalize l[k] = x at *
      have hcat := concat_bs x
      have hS0 := vcell_new wr x 81
      have ho00 := HO.out
      have ho0 := HO.out.alloc (.cells #[.string (bs x.s), .int .u64 x.c] 81)
      have hb0 : Below w1.heap.size w1 (wr.alloc (.cells #[.string (bs x.s), .int .u64 x.c] 81)) := hbr.alloc hsr _
      have hbt : BTab (wr.alloc (.cells #[.string (bs x.s), .int .u64 x.c] 81)) := HT.out.below (hbrw.alloc (by omega) _)
      clear h1c hbr hbrw HO hmem
      have hnx := name_le (HNX.out)
      have htx := text_le x.c
      have ha1 : (bs x.s).size + 1 ≤ 9223372036854775807 := by rw [bs_size]; omega
      have ha2 : (bs x.s).size + 1 + (bs (textN x.c)).size ≤ 9223372036854775807 := by rw [bs_size, bs_size]; omega
      have hb1' : (9223372036854775807 < (bs x.s).size + 1) = False := by rw [eq_iff_iff, iff_false]; omega
      have hb2' : (9223372036854775807 ≤ (bs x.s).size) = False := by rw [eq_iff_iff, iff_false]; omega
      have hb3' : (9223372036854775807 < (bs x.s).size + 1 + (bs (textN x.c)).size) = False := by rw [eq_iff_iff, iff_false]; omega
      have hne : u3.ownBlock ≠ some wr.heap.size := fun e => by have := (ho00.lt _ e).2; omega
      change ∀ W, BTab W → Calls _ _ _ _ fun e w' => e = .returned (.string (bs (textN x.c))) ∧ _ at cT
      generalize hW0 : wr.alloc (.cells #[.string (bs x.s), .int .u64 x.c] 81) = W0 at *
      have hw0 : W0.heap.size = wr.heap.size + 1 := by rw [← hW0]; simp
      go_wp2_with fail
      clear hW0
      go_region_held3 (fun W => W.cell? ⟨wr.heap.size, 0, none⟩ = some (.string (bs x.s)) ∧ W.cell? ⟨wr.heap.size, 1, none⟩ = some (.int .u64 x.c))
        (first | exact (hS0 : VCell wr.heap.size x W0.drew) | exact hS2 | exact hS3 | exact hS4 | go_keep)
        (first
          | (go_at_call 86; refine (cT _ (hbt.below (Below.drew (Below.refl _ _)))).mono ?_; rintro e w2 ⟨rfl, hb2⟩; have hS2 : VCell wr.heap.size x w2 := VCell.keep (W := W0.drew) hS0 hb2; have hS3 : VCell wr.heap.size x (w2.alloc (.cells #[.string (bs (lineOf x))] 9)) := VCell.keep hS2 ((Below.refl _ _).alloc (Nat.le_refl _) _); have ho1 := ownsAny_later (w := W0.drew) ho0 hb2; have ho2 := ho1.alloc (.cells #[.string (bs (lineOf x))] 9); have hsz2 : W0.heap.size ≤ w2.heap.size := hb2.size)
          | (refine step_append_own rfl _ _ 75 rfl w1.heap.size 9 i0 (.string ⟨#[]⟩) 1 16 Tryz.underlying75 hi hz0 hz1 hz2 rfl (by decide) _ k _ rfl ho2 ⟨w2.heap.size, 0, none⟩ 1 1 [.string (bs (lineOf x))] rfl rfl (cells_one _ _ _) (by simp [Value.oneCell']) (by unfold maxLen; omega) (by omega) (by simp; omega) ?_; intro u' w3 hown' hgr'; have hS4 : VCell wr.heap.size x w3 := VCell.grown hS3 hgr' hne))
      have hb3 : Below w1.heap.size w1 w3 := (((Below.drew hb0).trans (hb2.mono (by show w1.heap.size ≤ W0.heap.size; omega))).alloc (by omega) _).grown hgr' (by simp; omega) (fun g hg => (ho2.lt g hg).1)
      have HO2 : Hid (w3.ownsRow w1.heap.size 9 1 u' (k + 1) ((lineStrs (l.take (k + 1))).map Value.string)) := by rw [hsn.out]; exact hown'
      clear hown' hgr' ho2 ho1 hb2 hS2 hS3 hS4 hS0 ho0 ho00 hb0 hcat hb1' hb2' hb3' ha1 ha2 cT hbt hsn
      go_wp2_with fail
      go_roundg (gk - 1)
      case rel => exact ⟨k + 1, by omega, by go_num, hb3, HO2⟩
      case measure => omega
    · obtain rfl : k = n := by omega
      have hall : l.take k = l := by rw [← HN.out]; exact List.take_length
      have HO2 := Lib.hid HO.out
      rw [hall] at HO2
      have hll : (lineStrs l).length = k := by unfold lineStrs; rw [List.length_map]; exact HN.out
      have HBW := Lib.hid hbrw
      obtain ⟨p2, c2, hu, hrow⟩ := row_owned (ks := lineStrs l) (by rw [hll]; exact HO2.out)
      rw [hll] at hu
      subst hu
      have cJ := joined_any wr p2 c2 (lineStrs l) hrow (by have := HSZ.out; omega)
      rw [hll, lists_lines] at cJ
      clear HO hbr hbrw hall HO2 hrow
      go_wp2_with (go_at_call 66; refine cJ.mono ?_; rintro e w5 ⟨rfl, hb5⟩)
      go_ret
      exact ⟨rfl, HBW.out.trans (hb5.mono HBW.out.size)⟩
end Go.Proofs.YtfkkodcppaakjaaGreatDoor
/- policy.Parse, by its contract. -/
namespace Go.Proofs.YtfkkodcppaakjaaGreatDoor
open Go Go.RowKit Go.Maps

/-- What Parse answers. -/
def ParseSays (s : List UInt8) (W : World) (e : Ending) (w' : World) : Prop := Below W.heap.size W w' ∧
  ((∃ (a : Addr) (l : List Vw), e = .returned (.tuple #[.pointer (some a), .int .i64 0]) ∧ PolAt w' (.pointer (some a)) l ∧ Spells s l) ∨ ((¬ ∃ l, Spells s l) ∧ e = .returned (.tuple #[.pointer none, .int .i64 4])))

set_option maxRecDepth 100000 in
set_option maxHeartbeats 2000000 in
theorem parse_pol (s : ByteArray) (w : World) (hs : s.size < 4294967281) (hM : MaxS w) (hT : BTab w) (hE : EvW w) : Calls Tryz.prog 9 #[.string s] w (ParseSays s.data.toList w) := by
  have cR := read_pol s w hs hM hT hE
  have HT := Lib.hid hT
  clear hT hM hE
  go_enter Tryz.func9, Tryz.ntmps9
  go_wp2_with fail
  refine cR.mono ?_
  rintro e w1 ⟨hb1, ⟨p, c, l, rfl, hrow, hfit, hlen, hrd⟩ | ⟨hno, rfl⟩⟩
  · have cN := new_any w1 p l.length c l rfl hlen hrow hfit
    obtain ⟨hyes, hno1, hno2⟩ := spells_of hrd
    have HY := Lib.hid hyes
    have HN1 := Lib.hid hno1
    have HN2 := Lib.hid hno2
    obtain ⟨n, hn⟩ : ∃ n, l.length = n := ⟨_, rfl⟩
    rw [hn] at cN ⊢
    clear cR hrow hfit hlen hrd hyes hno1 hno2 hn
    go_wp2_with fail
    refine cN.mono ?_
    rintro e w2 ⟨hb2, ⟨hok, v, rfl, hp, a, rfl⟩ | ⟨hnok, rfl⟩⟩
    · have hb := hb1.trans (hb2.mono hb1.size)
      have cP := print_any _ _ w2 hp (HT.out.below hb)
      have HP : Aside _ := hp
      by_cases hq : printL (sortV l) = s.data.toList
      · have hyes := HY.out ⟨hok, hq⟩
        have hbq : ((bs (printL (sortV l))).toList == s.toList) = true := by
          rw [ByteArray.toList_eq, ByteArray.toList_eq, bs_list, hq]; simp
        have HQ := Lib.hid hyes
        clear cN hp hq hyes HY HN1 HN2
        go_wp2_with (first | (go_at_call 36; refine cP.mono ?_; rintro e w3 ⟨rfl, hb3⟩))
        go_ret2
        exact ⟨hb.trans (hb3.mono hb.size), .inl ⟨a, _, rfl, PolAt.later HP.out hb3, HQ.out⟩⟩
      · have hno := HN2.out hq
        have hbq : ((bs (printL (sortV l))).toList == s.toList) = false := by
          rw [ByteArray.toList_eq, ByteArray.toList_eq, bs_list]; exact beq_false_of_ne hq
        clear cN hp hq HY HN1 HN2
        go_wp2_with (first | (go_at_call 36; refine cP.mono ?_; rintro e w3 ⟨rfl, hb3⟩))
        go_ret2
        exact ⟨hb.trans (hb3.mono hb.size), .inr ⟨hno, rfl⟩⟩
    · have hno := HN1.out hnok
      clear cN HY HN1 HN2
      go_wp2_with fail
      go_ret2
      exact ⟨hb1.trans (hb2.mono hb1.size), .inr ⟨hno, rfl⟩⟩
  · clear cR
    go_wp2_with fail
    go_ret2
    exact ⟨hb1, .inr ⟨hno, rfl⟩⟩
end Go.Proofs.YtfkkodcppaakjaaGreatDoor
