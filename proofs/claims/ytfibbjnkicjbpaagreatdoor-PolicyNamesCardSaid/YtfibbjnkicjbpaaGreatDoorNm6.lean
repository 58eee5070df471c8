/- Texts of the proof, merged: PoRead, StepOwn, PoPrint, PoParse, PoWorks, PoNil, SrLess, LabRow, PoClrP, SrIns, SrRev, SrSift, SrHeap. -/
import Derived.Test.YtfibbjnkicjbpaaGreatDoorNm1
import Derived.Test.YtfibbjnkicjbpaaGreatDoorNm3
import Derived.Test.YtfibbjnkicjbpaaGreatDoorNm4
import Derived.Test.YtfibbjnkicjbpaaGreatDoorNm5
import Derived.Deep.RegionHeld3
import Derived.Deep.RegionLaw
import Derived.Laws.AppendOwn
import Derived.OwnWalk
import Derived.RowKit
import Derived.Sort.WalkA
import Derived.Below
import Derived.Sort.AssemblyPlain
import Derived.Lib.SlicesCompact
import Derived.Sort.WalkB12
import Derived.Sort.WalkB2
import Derived.Sort.WalkB3
/- policy.read, by its contract. -/
namespace Go.Proofs.YtfibbjnkicjbpaaGreatDoor
open Go Go.RowKit Go.Maps

theorem strCut_any (t : ByteArray) (W : World) (hs : t.size < 4294967281) (hM : MaxS W) : Calls Tryz.prog 62 #[.string t, .string ⟨#[32]⟩] W fun e w' => ∃ b, e = .returned (.tuple #[.string (bs (nameOf t.data.toList)), .string (bs (wordAt t.data.toList)), .bool b]) ∧ Below W.heap.size W w' := by
  obtain ⟨m, hm⟩ := hM
  refine (Tryz.strings_Cut t ⟨#[32]⟩ m W hs hm).mono ?_
  rintro e w' ⟨he, n, rfl⟩
  obtain ⟨h1, h2⟩ := cut_blank t.data.toList
  rw [show (⟨#[32]⟩ : ByteArray).data.toList = [32] from rfl, h1, h2] at he
  exact ⟨_, he, below_drewN' (Below.refl _ _) _⟩
theorem strCount_any (s : ByteArray) (W : World) : Calls Tryz.prog 60 #[.string s, .string ⟨#[10]⟩] W fun e w' => e = .returned (.int .i64 (s.data.toList.count 10 : Nat)) ∧ W = w' :=
  (Tryz.strings_Count_one s 10 W).mono fun _ _ ⟨h1, h2⟩ => ⟨h1, h2.symm⟩
/-- What read answers. -/
def ReadSays (s : List UInt8) (W : World) (e : Ending) (w' : World) : Prop := Below W.heap.size W w' ∧
  ((∃ (p : Option Addr) (c : Nat) (l : List Vw), e = .returned (.tuple #[.slice p l.length c, .int .i64 0]) ∧ VwRow w' p l ∧ Fit64 l ∧ l.length ≤ maxLen ∧ Reads (cutL s) l) ∨ ((¬ ∃ l, Spells s l) ∧ e = .returned (.tuple #[.slice none 0 0, .int .i64 4])))

set_option maxRecDepth 100000 in
set_option maxHeartbeats 4000000 in
theorem read_pol (s : ByteArray) (w : World) (hs : s.size < 4294967281) (hM : MaxS w) (hT : BTab w) (hE : EvW w) : Calls Tryz.prog 32 #[.string s] w (ReadSays s.data.toList w) := by
  have cC := strCount_any s
  have cL := cut_row s w hs hM
  unfold CutRow at cL
  have hmany := Lib.hid (none_of_many (s := s.data.toList))
  have hcut := Lib.hid (none_of_cut (s := s.data.toList))
  have hpiece := Lib.hid (fun k hk h => none_of_piece (s := s.data.toList) (k := k) hk h)
  obtain ⟨hlen, htl⟩ := cut_len s.data.toList
  rw [len_size] at hlen
  have HTL := Lib.hid htl
  obtain ⟨m, hm⟩ : ∃ m, s.data.toList.count 10 = m := ⟨_, rfl⟩
  rw [hm] at cC hmany
  have hE4 : cutE s.data.toList = 0 ∨ cutE s.data.toList = 4 := by unfold cutE; split <;> simp
  obtain ⟨ec, hec⟩ : ∃ ec, cutE s.data.toList = ec := ⟨_, rfl⟩
  rw [hec] at cL hcut hE4
  generalize hts : cutL s.data.toList = ts at *
  have HTS := Lib.hid hts
  obtain ⟨n, hn⟩ : ∃ n, ts.length = n := ⟨_, rfl⟩
  have HN := Lib.hid hn
  rw [hn] at hlen cL
  have HM := Lib.hid hM; have HT := Lib.hid hT; have HE := Lib.hid hE
  clear hM hT hE htl hm hec hn hts
  by_cases hmm : 64 < m
  · have hno := hmany.out hmm
    go_enter Tryz.func32, Tryz.ntmps32
    go_wp2_with (go_at_call 60; refine (cC _).mono ?_; rintro e w' ⟨rfl, rfl⟩)
    go_ret2
    exact ⟨Below.refl _ _, .inr ⟨hno, rfl⟩⟩
  · rcases hE4 with rfl | rfl
    · clear hcut hmany
      obtain ⟨i0, hi, hz0, hz1, hz2⟩ := info_parts vwInfo
      have hsn : n < 4294967281 := by omega
      go_enter Tryz.func32, Tryz.ntmps32
      go_wp2_with (first
        | (go_at_call 60; refine (cC _).mono ?_; rintro e w' ⟨rfl, rfl⟩)
        | (go_at_call 61; refine cL.mono ?_; rintro e w1 ⟨p1, c1, rfl, hb1, ho1⟩))
      have hrow : StrRow w1 p1 (asTexts ts) := by
        have hl : (asTexts ts).length = n := by unfold asTexts; rw [List.length_map]; exact HN.out
        obtain ⟨p', c', e', hr'⟩ := row_owned (ks := asTexts ts) (by rw [hl]; exact ho1)
        rw [hl] at e'
        injection e' with e1 _ _
        rw [e1]; exact hr'
      have hs1 := hb1.size
      clear cC cL ho1
      go_loopg [6, 27] n (fun g u vi wr => ∃ (k : Nat) (l : List Vw), k + g = n ∧ vi = .int .i64 k ∧ Below w1.heap.size w1 wr ∧ l.length = k ∧ Hid (Reads (ts.take k) l) ∧ Hid (Fit64 l) ∧ Hid (wr.ownsRow w1.heap.size 40 2 u k (flat l)))
      case atStart => exact ⟨0, [], by omega, rfl, Below.refl _ _, rfl, by rw [List.take_zero]; exact Reads.nil, fit64_nil, World.ownsRow_nil _ _ _ _⟩
      case round =>
        obtain ⟨k, l, hk, rfl, hbr, hlk, HR, HF, HO⟩ := hrel
        have hbrw : Below w.heap.size w wr := hb1.trans (hbr.mono hs1)
        have hsr := hbr.size
        by_cases hlt : k < n
        · have hlt' : k < ts.length := by rw [HN.out]; exact hlt
          have hmem := List.getElem_mem hlt'
          obtain ⟨b1, o1, rfl, h1c⟩ := hrow.at k (by unfold asTexts; rw [List.length_map]; exact hlt')
          have g1 := h1c wr hbr
          have hat : (asTexts ts)[k]'(by unfold asTexts; rw [List.length_map]; exact hlt') = bs ts[k] := by simp [asTexts, bs]
          rw [hat] at g1
          have htk := HTL.out ts[k] hmem
          rw [len_size] at htk
          have hnl := nameOf_le ts[k]
          have hwl := wordAt_le ts[k]
          have HP := Lib.hid (hpiece.out k hlt')
          have hst := Lib.hid (fun (a : Nat) (ha : a < 18446744073709551616) (e : textN a = wordAt ts[k]) => (show Reads (ts.take (k + 1)) (l ++ [⟨nameOf ts[k], a⟩]) by rw [List.take_succ_eq_append_getElem hlt']; exact HR.out.snoc ha e))
          generalize ts[k] = t at *
          have cX := strCut_any (bs t) wr (by rw [bs_size]; omega) (HM.out.below hbrw)
          rw [bs_list] at cX
          have HB := Lib.hid hbr
          have HBW := Lib.hid hbrw
          clear h1c hat hmem hbr hbrw hpiece
          go_wp2_with (first | (go_at_call 62; refine cX.mono ?_; rintro e w2 ⟨bb, rfl, hb2⟩))
          have hbw2 := HBW.out.trans (hb2.mono HBW.out.size)
          have cP := parse_any (bs (wordAt t)) w2 (by rw [bs_size]; omega) (HT.out.below hbw2) (HE.out.below hbw2)
          rw [bs_list] at cP
          refine cP.mono ?_
          rintro e w3 ⟨a, er, rfl, hra, hb3⟩
          have hbw3 := hbw2.trans (hb3.mono hbw2.size)
          have hsz2 := hb2.size
          have hsz3 := hb3.size
          have HBW3 := Lib.hid hbw3
          have HB3 := Lib.hid ((HB.out.trans (hb2.mono hsr)).trans (hb3.mono (by omega)))
          have HO3 := Lib.hid (ownsAny_later (ownsAny_later HO.out hb2) hb3)
          clear cX cP hb2 hb3 hbw2 hbw3 HO
          rcases hra with ⟨rfl, ha, hta⟩ | ⟨rfl, rfl, hno⟩
          · have HR2 : Hid (Reads (ts.take (k + 1)) (l ++ [⟨nameOf t, a⟩])) := hst.out a ha hta
            have HF2 : Hid (Fit64 (l ++ [⟨nameOf t, a⟩])) := fun x hx => by
              rw [List.mem_append, List.mem_singleton] at hx
              rcases hx with hx | rfl
              · exact HF.out x hx
              · exact ⟨ha, by unfold maxLen; show (nameOf t).length ≤ _; omega⟩
            have ho3 := HO3.out
            clear HR HF hst HP HO3 hta
            go_wp2_with (first
              | (at_builtin; refine wpList_append_own _ rfl _ _ 29 rfl w1.heap.size 40 i0 (.agg #[.string ⟨#[]⟩, .int .u64 0]) 2 24 Tryz.underlying29 hi hz0 hz1 hz2 rfl (by decide) _ _ _ rfl (ho3.alloc _) ⟨w3.heap.size, 0, none⟩ 1 1 [.string (bs (nameOf t)), .int .u64 a] rfl rfl ?c1 ?c2 ?c3 ?c4 ?c5 ?_))
            case c1 =>
              intro j u hj
              match j, hj with
              | 0, hj => simp at hj; subst hj; simp [Addr.add]
              | 1, hj => simp at hj; subst hj; simp [Addr.add]
            case c2 => intro u hu; simp at hu; rcases hu with rfl | rfl <;> rfl
            case c3 => unfold maxLen; omega
            case c4 => omega
            case c5 => simp; omega
            intro u' w4 hown' hgrow _
            have hb4 : Below w1.heap.size w1 w4 := (HB3.out.alloc (by omega) _).grown hgrow (by simp; omega) (fun g hg => (ho3.lt g hg).1)
            have HO4 : Hid (w4.ownsRow w1.heap.size 40 2 u' (k + 1) (flat (l ++ [⟨nameOf t, a⟩]))) := by
              show w4.ownsRow _ _ _ _ _ _
              rw [flat_snoc]; exact hown'
            clear ho3 hown' hgrow
            go_wp2_with fail
            go_roundg (gk - 1)
            case rel => exact ⟨k + 1, _, by omega, by go_num, hb4, by simp [hlk], HR2, HF2, HO4⟩
            case measure => omega
          · have hnone := HP.out hno
            clear HR HF hst HP HO3 hno
            go_wp2_with fail
            go_ret2
            exact ⟨HBW3.out, .inr ⟨hnone, rfl⟩⟩
        · obtain rfl : k = n := by omega
          have hall : ts.take k = ts := by rw [← HN.out]; exact List.take_length
          rw [hall] at HR
          have HBW := Lib.hid hbrw
          obtain ⟨p2, c2, hu, hr2⟩ := vw_owned hlk HO.out
          subst hu
          have HL := Lib.hid hlk
          have HR2 := Lib.hid hr2
          clear hbr hbrw hall HO hlk hr2
          go_wp2_with fail
          go_ret2
          exact ⟨HBW.out, .inl ⟨p2, c2, l, by rw [HL.out]; rfl, HR2.out, HF.out, by rw [HL.out]; unfold maxLen; omega, by rw [HTS.out]; exact HR.out⟩⟩
    · have hno := hcut.out (by decide)
      go_enter Tryz.func32, Tryz.ntmps32
      go_wp2_with (first
        | (go_at_call 60; refine (cC _).mono ?_; rintro e w' ⟨rfl, rfl⟩)
        | (go_at_call 61; refine cL.mono ?_; rintro e w1 ⟨p1, c1, rfl, hb1, ho1⟩))
      go_ret2
      exact ⟨hb1, .inr ⟨hno, rfl⟩⟩
end Go.Proofs.YtfibbjnkicjbpaaGreatDoor
/- append to a row of the call's own, as one step of a region that draws its order. No program. -/
namespace Go.Proofs.YtfibbjnkicjbpaaGreatDoor
open Go Go.RowKit

theorem step_append_own {P : Program} {ops : Array Oper} {o : Oper} {a : Act} {w : World} {K : Act → World → Prop} {Q : Exit → Act → World → Prop} {E : Prop} (hgd : o.guard = none) (s x : Operand) (t : TypeId)
    (ho : o.op = .call { callee := .builtin .append, args := #[s, x], argTypes := #[t, t] })
    (base : Nat) (e : TypeId) (i : TypeInfo) (z : Value) (size bytes : Nat) (ht : P.underlying t = some (.slice e)) (hi : P.info? e = some i) (hz : i.zero = some z)
    (hsize : i.size = size) (hby : i.bytes = bytes) (hzs : z.cells.size = size) (hsz : 0 < size)
    (v : Value) (n : Nat) (xs : List Value) (hs : a.eval s = v) (hown : w.ownsRow base e size v n xs)
    (ad : Addr) (m c : Nat) (news : List Value) (hx : a.eval x = .slice (some ad) m c) (hl : news.length = m * size) (hnews : ∀ j u, news[j]? = some u → w.cell? (ad.add j) = some u) (h1 : ∀ u ∈ news, u.oneCell' = true)
    (h63 : n + m ≤ maxLen) (hbytes : (n + m) * bytes ≤ 140737488355328) (hbase : base ≤ w.heap.size)
    (h : ∀ v' w', w'.ownsRow base e size v' (n + m) (xs ++ news) → w.grownBy w' v.ownBlock → K (a.put o.dst v') w') : if Region.wanted o (yielded ops a.tmps) = true then Oper.wp P o a w K Q else E := by
  have hw : Region.wanted o (yielded ops a.tmps) = true := by simp [Region.wanted, hgd]
  rw [if_pos hw]
  obtain ⟨v', w', hr, h2, h3, _⟩ := run_append_own (P := P) w base t o.type e i z size bytes ht hi hz hsize hby hzs hsz v n xs hown ad m c news hl hnews h1 h63 hbytes hbase
  unfold Oper.wp execOp
  simp only [ho, resolve, invoke, builtin, Sem.run_bind, Sem.run_pure, Result.andThen_ok, List.map_toArray, List.map_cons, List.map_nil, hs, hx, hr]
  exact h v' w' h2 h3
end Go.Proofs.YtfibbjnkicjbpaaGreatDoor
/- policy.Print, by its contract. -/
namespace Go.Proofs.YtfibbjnkicjbpaaGreatDoor
open Go Go.RowKit Go.Maps

theorem name_le {s : List UInt8} (h : nameL s = true) : s.length ≤ 32 := by
  unfold nameL at h; simp only [Bool.and_eq_true, decide_eq_true_eq] at h; exact h.1.2
theorem line_le {x : Vw} (h : nameL x.s = true) : (lineOf x).length ≤ 225 := by
  have h1 := name_le h
  have h2 := text_le x.c
  unfold lineOf
  rw [List.length_append, List.length_cons]; omega
/-- A policy's lines as Go's strings. -/
def lineStrs (l : List Vw) : List ByteArray := l.map fun x => bs (lineOf x)
theorem lists_lines (l : List Vw) : listsOf (lineStrs l) = l.map lineOf := by
  unfold listsOf lineStrs
  rw [List.map_map]
  apply List.map_congr_left
  intro x _
  exact bs_list _
theorem lines_size : ∀ l : List Vw, (∀ x ∈ l, nameL x.s = true) → sizeOf' (lineStrs l) ≤ 226 * l.length
  | [], _ => by simp [sizeOf', lineStrs, listsOf]
  | x :: l, h => by
    have ih := lines_size l fun y hy => h y (List.mem_cons_of_mem _ hy)
    have hx := line_le (h x (List.mem_cons_self ..))
    unfold sizeOf' at ih ⊢
    rw [lists_lines] at ih ⊢
    simp only [List.map_cons, List.sum_cons, List.length_cons] at ih ⊢
    omega
theorem print_le {l : List Vw} (h : okL l) : (printL l).length ≤ 14464 := by
  have h1 := lines_size l h.2.2
  have h2 := h.1
  unfold printL
  rw [join_len, ← lists_lines]
  unfold sizeOf' at h1
  omega

/-- The two cells of a viewer at block b. -/
def VCell (b : Nat) (x : Vw) (W : World) : Prop := W.cell? ⟨b, 0, none⟩ = some (.string (bs x.s)) ∧ W.cell? ⟨b, 1, none⟩ = some (.int .u64 x.c)
theorem VCell.keep {b : Nat} {x : Vw} {W W' : World} (h : VCell b x W) (hb : Below W.heap.size W W') : VCell b x W' := by
  have hlt := World.block_lt_of_cell? W _ h.1
  exact ⟨(hb.cell (p := ⟨b, 0, none⟩) hlt).trans h.1, (hb.cell (p := ⟨b, 1, none⟩) hlt).trans h.2⟩
theorem VCell.grown {b : Nat} {x : Vw} {W W' : World} {row : Option Nat} (h : VCell b x W) (hg : W.grownBy W' row) (hne : row ≠ some b) : VCell b x W' :=
  ⟨hg.cell h.1 (fun e => hne e.symm), hg.cell h.2 (fun e => hne e.symm)⟩
theorem vcell_new (w : World) (x : Vw) (T : TypeId) : VCell w.heap.size x (w.alloc (.cells #[.string (bs x.s), .int .u64 x.c] T)) := by
  refine ⟨?_, ?_⟩ <;> (rw [World.cell?_alloc_mark]; rfl)
theorem cells_one (w : World) (y : Value) (T : TypeId) : ∀ j u, [y][j]? = some u → (w.alloc (.cells #[y] T)).cell? ((⟨w.heap.size, 0, none⟩ : Addr).add j) = some u := by
  intro j u hj
  match j, hj with
  | 0, hj => simp at hj; subst hj; simp [Addr.add]
theorem concat_bs (x : Vw) : bs x.s ++ ⟨#[32]⟩ ++ bs (textN x.c) = bs (lineOf x) := by
  apply ByteArray.ext
  simp [bs, lineOf, ByteArray.data_append]

set_option maxRecDepth 100000 in
set_option maxHeartbeats 4000000 in
theorem print_any (v : Value) (l : List Vw) (w : World) (hp : PolAt w v l) (hT : BTab w) : Calls Tryz.prog 12 #[v] w fun e w' => e = .returned (.string (bs (printL l))) ∧ Below w.heap.size w w' := by
  have cV := viewers_any v l w hp
  obtain ⟨i0, hi, hz0, hz1, hz2⟩ := info_parts strInfo
  obtain ⟨h64, _, hnames⟩ := hp.ok
  have hlo := hp.lo
  have HNM : Aside _ := hnames
  have HLO : Aside _ := hlo
  have hsz := lines_size l hnames
  obtain ⟨pp, b, rfl, _⟩ := hp.at'
  obtain ⟨n, hn⟩ : ∃ n, l.length = n := ⟨_, rfl⟩
  unfold GivesVw at cV
  rw [hn] at cV h64 hsz
  have HN := Lib.hid hn
  have HSZ := Lib.hid hsz
  have HT := Lib.hid hT
  clear hp hnames hlo hn hsz hT
  go_enter Tryz.func12, Tryz.ntmps12
  go_wp2_with (go_at_call 8; refine cV.mono ?_; rintro e w1 ⟨hb1, p1, c1, rfl, hr, ho⟩)
  have hs1 := hb1.size
  clear cV ho
  go_loopg [3, 9] n (fun g u vi wr => ∃ k : Nat, k + g = n ∧ vi = .int .i64 k ∧ Below w1.heap.size w1 wr ∧ Hid (wr.ownsRow w1.heap.size 9 1 u k ((lineStrs (l.take k)).map Value.string)))
  case atStart => exact ⟨0, by omega, rfl, Below.refl _ _, by rw [List.take_zero]; exact World.ownsRow_nil _ _ _ _⟩
  case round =>
    obtain ⟨k, hk, rfl, hbr, HO⟩ := hrel
    have hbrw : Below w.heap.size w wr := hb1.trans (hbr.mono hs1)
    have hsr := hbr.size
    by_cases hlt : k < n
    · have hlt' : k < l.length := by rw [HN.out]; exact hlt
      have hmem := List.getElem_mem hlt'
      obtain ⟨b1, o1, rfl, hbl1, h1c⟩ := hr.at k hlt'
      obtain ⟨g1, g2⟩ := h1c wr hbr
      have hx64 := HLO.out l[k] hmem
      have HNX := Lib.hid (HNM.out l[k] hmem)
      have cT := fun W h => text_any_lb l[k].c W hx64 h
      have hsn : Hid ((lineStrs (l.take (k + 1))).map Value.string = (lineStrs (l.take k)).map Value.string ++ [.string (bs (lineOf l[k]))]) := by
        show (lineStrs (l.take (k + 1))).map Value.string = _
        rw [List.take_succ_eq_append_getElem hlt']
        unfold lineStrs
        rw [List.map_append, List.map_append]; rfl
      generalize l[k] = x at *
      have hcat := concat_bs x
      have hS0 := vcell_new wr x 40
      have ho00 := HO.out
      have ho0 := HO.out.alloc (.cells #[.string (bs x.s), .int .u64 x.c] 40)
      have hb0 : Below w1.heap.size w1 (wr.alloc (.cells #[.string (bs x.s), .int .u64 x.c] 40)) := hbr.alloc hsr _
      have hbt : BTab (wr.alloc (.cells #[.string (bs x.s), .int .u64 x.c] 40)) := HT.out.below (hbrw.alloc (by omega) _)
      clear h1c hbr hbrw HO hmem
      have hnx := name_le (HNX.out)
      have htx := text_le x.c
      have ha1 : (bs x.s).size + 1 ≤ 9223372036854775807 := by rw [bs_size]; omega
      have ha2 : (bs x.s).size + 1 + (bs (textN x.c)).size ≤ 9223372036854775807 := by rw [bs_size, bs_size]; omega
      have hb1' : (9223372036854775807 < (bs x.s).size + 1) = False := by rw [eq_iff_iff, iff_false]; omega
      have hb2' : (9223372036854775807 ≤ (bs x.s).size) = False := by rw [eq_iff_iff, iff_false]; omega
      have hb3' : (9223372036854775807 < (bs x.s).size + 1 + (bs (textN x.c)).size) = False := by rw [eq_iff_iff, iff_false]; omega
      have hne : u3.ownBlock ≠ some wr.heap.size := fun e => by have := (ho00.lt _ e).2; omega
      change ∀ W, BTab W → Calls _ _ _ _ fun e w' => e = .returned (.string (bs (textN x.c))) ∧ _ at cT
      generalize hW0 : wr.alloc (.cells #[.string (bs x.s), .int .u64 x.c] 40) = W0 at *
      have hw0 : W0.heap.size = wr.heap.size + 1 := by rw [← hW0]; simp
      go_wp2_with fail
      clear hW0
      go_region_held3 (fun W => W.cell? ⟨wr.heap.size, 0, none⟩ = some (.string (bs x.s)) ∧ W.cell? ⟨wr.heap.size, 1, none⟩ = some (.int .u64 x.c))
        (first | exact (hS0 : VCell wr.heap.size x W0.drew) | exact hS2 | exact hS3 | exact hS4 | go_keep)
        (first
          | (go_at_call 29; refine (cT _ (hbt.below (Below.drew (Below.refl _ _)))).mono ?_; rintro e w2 ⟨rfl, hb2⟩; have hS2 : VCell wr.heap.size x w2 := VCell.keep (W := W0.drew) hS0 hb2; have hS3 : VCell wr.heap.size x (w2.alloc (.cells #[.string (bs (lineOf x))] 9)) := VCell.keep hS2 ((Below.refl _ _).alloc (Nat.le_refl _) _); have ho1 := ownsAny_later (w := W0.drew) ho0 hb2; have ho2 := ho1.alloc (.cells #[.string (bs (lineOf x))] 9); have hsz2 : W0.heap.size ≤ w2.heap.size := hb2.size)
          | (refine step_append_own rfl _ _ 33 rfl w1.heap.size 9 i0 (.string ⟨#[]⟩) 1 16 Tryz.underlying33 hi hz0 hz1 hz2 rfl (by decide) _ k _ rfl ho2 ⟨w2.heap.size, 0, none⟩ 1 1 [.string (bs (lineOf x))] rfl rfl (cells_one _ _ _) (by simp [Value.oneCell']) (by unfold maxLen; omega) (by omega) (by simp; omega) ?_; intro u' w3 hown' hgr'; have hS4 : VCell wr.heap.size x w3 := VCell.grown hS3 hgr' hne))
      have hb3 : Below w1.heap.size w1 w3 := (((Below.drew hb0).trans (hb2.mono (by show w1.heap.size ≤ W0.heap.size; omega))).alloc (by omega) _).grown hgr' (by simp; omega) (fun g hg => (ho2.lt g hg).1)
      have HO2 : Hid (w3.ownsRow w1.heap.size 9 1 u' (k + 1) ((lineStrs (l.take (k + 1))).map Value.string)) := by rw [hsn.out]; exact hown'
      clear hown' hgr' ho2 ho1 hb2 hS2 hS3 hS4 hS0 ho0 ho00 hb0 hcat hb1' hb2' hb3' ha1 ha2 cT hbt hsn
      go_wp2_with fail
      go_roundg (gk - 1)
      case rel => exact ⟨k + 1, by omega, by go_num, hb3, HO2⟩
      case measure => omega
    · obtain rfl : k = n := by omega
      have hall : l.take k = l := by rw [← HN.out]; exact List.take_length
      have HO2 := Lib.hid HO.out
      rw [hall] at HO2
      have hll : (lineStrs l).length = k := by unfold lineStrs; rw [List.length_map]; exact HN.out
      have HBW := Lib.hid hbrw
      obtain ⟨p2, c2, hu, hrow⟩ := row_owned (ks := lineStrs l) (by rw [hll]; exact HO2.out)
      rw [hll] at hu
      subst hu
      have cJ := joined_any wr p2 c2 (lineStrs l) hrow (by have := HSZ.out; omega)
      rw [hll, lists_lines] at cJ
      clear HO hbr hbrw hall HO2 hrow
      go_wp2_with (go_at_call 30; refine cJ.mono ?_; rintro e w5 ⟨rfl, hb5⟩)
      go_ret
      exact ⟨rfl, HBW.out.trans (hb5.mono HBW.out.size)⟩
end Go.Proofs.YtfibbjnkicjbpaaGreatDoor
/- policy.Parse, by its contract. -/
namespace Go.Proofs.YtfibbjnkicjbpaaGreatDoor
open Go Go.RowKit Go.Maps

/-- What Parse answers. -/
def ParseSays (s : List UInt8) (W : World) (e : Ending) (w' : World) : Prop := Below W.heap.size W w' ∧
  ((∃ (a : Addr) (l : List Vw), e = .returned (.tuple #[.pointer (some a), .int .i64 0]) ∧ PolAt w' (.pointer (some a)) l ∧ Spells s l) ∨ ((¬ ∃ l, Spells s l) ∧ e = .returned (.tuple #[.pointer none, .int .i64 4])))

set_option maxRecDepth 100000 in
set_option maxHeartbeats 2000000 in
theorem parse_pol (s : ByteArray) (w : World) (hs : s.size < 4294967281) (hM : MaxS w) (hT : BTab w) (hE : EvW w) : Calls Tryz.prog 15 #[.string s] w (ParseSays s.data.toList w) := by
  have cR := read_pol s w hs hM hT hE
  have HT := Lib.hid hT
  clear hT hM hE
  go_enter Tryz.func15, Tryz.ntmps15
  go_wp2_with fail
  refine cR.mono ?_
  rintro e w1 ⟨hb1, ⟨p, c, l, rfl, hrow, hfit, hlen, hrd⟩ | ⟨hno, rfl⟩⟩
  · have cN := new_any w1 p l.length c l rfl hlen hrow hfit
    obtain ⟨hyes, hno1, hno2⟩ := spells_of hrd
    have HY := Lib.hid hyes
    have HN1 := Lib.hid hno1
    have HN2 := Lib.hid hno2
    obtain ⟨n, hn⟩ : ∃ n, l.length = n := ⟨_, rfl⟩
    rw [hn] at cN ⊢
    clear cR hrow hfit hlen hrd hyes hno1 hno2 hn
    go_wp2_with fail
    refine cN.mono ?_
    rintro e w2 ⟨hb2, ⟨hok, v, rfl, hp, a, rfl⟩ | ⟨hnok, rfl⟩⟩
    · have hb := hb1.trans (hb2.mono hb1.size)
      have cP := print_any _ _ w2 hp (HT.out.below hb)
      have HP : Aside _ := hp
      by_cases hq : printL (sortV l) = s.data.toList
      · have hyes := HY.out ⟨hok, hq⟩
        have hbq : ((bs (printL (sortV l))).toList == s.toList) = true := by
          rw [ByteArray.toList_eq, ByteArray.toList_eq, bs_list, hq]; simp
        have HQ := Lib.hid hyes
        clear cN hp hq hyes HY HN1 HN2
        go_wp2_with (first | (go_at_call 12; refine cP.mono ?_; rintro e w3 ⟨rfl, hb3⟩))
        go_ret2
        exact ⟨hb.trans (hb3.mono hb.size), .inl ⟨a, _, rfl, PolAt.later HP.out hb3, HQ.out⟩⟩
      · have hno := HN2.out hq
        have hbq : ((bs (printL (sortV l))).toList == s.toList) = false := by
          rw [ByteArray.toList_eq, ByteArray.toList_eq, bs_list]; exact beq_false_of_ne hq
        clear cN hp hq HY HN1 HN2
        go_wp2_with (first | (go_at_call 12; refine cP.mono ?_; rintro e w3 ⟨rfl, hb3⟩))
        go_ret2
        exact ⟨hb.trans (hb3.mono hb.size), .inr ⟨hno, rfl⟩⟩
    · have hno := HN1.out hnok
      clear cN HY HN1 HN2
      go_wp2_with fail
      go_ret2
      exact ⟨hb1.trans (hb2.mono hb1.size), .inr ⟨hno, rfl⟩⟩
  · clear cR
    go_wp2_with fail
    go_ret2
    exact ⟨hb1, .inr ⟨hno, rfl⟩⟩
end Go.Proofs.YtfibbjnkicjbpaaGreatDoor
/- scrimlaw03.works, by its contract. -/
namespace Go.Proofs.YtfibbjnkicjbpaaGreatDoor
open Go Go.RowKit Go.Maps

def bobN : List UInt8 := [98, 111, 98]
def annN : List UInt8 := [97, 110, 110]
def lw : List Vw := [⟨bobN, 8⟩, ⟨annN, 0⟩]
def lr : List Vw := [⟨annN, 0⟩, ⟨bobN, 8⟩]
theorem lw_ok : okL lw := by decide
theorem lr_ok : okL lr := by decide
theorem lr_rising : Rising lr := by unfold Rising lr; decide
theorem lw_sort : sortV lw = lr := sortV_of_perm lr_rising (List.Perm.swap _ _ _)
theorem lr_lo : Lo64 lr := fun x hx => by
  simp only [lr, List.mem_cons, List.not_mem_nil, or_false] at hx
  rcases hx with rfl | rfl <;> decide
theorem lw_fit : Fit64 lw := fun x hx => by
  simp only [lw, List.mem_cons, List.not_mem_nil, or_false] at hx
  rcases hx with rfl | rfl
  · exact ⟨by decide, by unfold maxLen; simp [bobN]⟩
  · exact ⟨by decide, by unfold maxLen; simp [annN]⟩
def lrText : List UInt8 := [97, 110, 110, 32, 45, 10, 98, 111, 98, 32, 51, 10]
theorem lr_print : printL lr = lrText := by
  have h : textN 8 = [51] := by
    unfold textN
    rw [if_neg (by decide), show listTo 8 64 = [3] by decide +kernel, List.map_cons, List.map_nil, Lib.join_one, dec_lt 3 (by decide)]
    decide +kernel
  have h0 : textN 0 = [45] := rfl
  unfold printL lr
  simp only [List.map_cons, List.map_nil, lineOf, h, h0]
  rfl
theorem lr_spells : Spells (printL lr) lr := ⟨lr_ok, lr_rising, lr_lo, rfl⟩
theorem lw_row (w : World) (T : TypeId) : VwRow (w.alloc (.cells #[.string ⟨#[98, 111, 98]⟩, .int .u64 8, .string ⟨#[97, 110, 110]⟩, .int .u64 0] T)) (some ⟨w.heap.size, 0, none⟩) lw := fun i hi => by
  have h2 : i < 2 := hi
  refine ⟨w.heap.size, 0, rfl, by simp, ?_⟩
  rcases (by omega : i = 0 ∨ i = 1) with rfl | rfl
  · refine ⟨?_, ?_⟩ <;> (rw [World.cell?_alloc_mark]; rfl)
  · refine ⟨?_, ?_⟩ <;> (rw [World.cell?_alloc_mark]; rfl)

set_option maxRecDepth 100000 in
set_option maxHeartbeats 4000000 in
theorem works_pol (w : World) (hM : MaxS w) (hT : BTab w) (hE : EvW w) : Calls Tryz.prog 6 #[] w fun e w' => e = .returned (.bool true) ∧ Below w.heap.size w w' := by
  have cN := fun T => new_any _ (some ⟨w.heap.size, 0, none⟩) 2 2 lw rfl (by unfold maxLen; omega) (lw_row w T) lw_fit
  have HM := Lib.hid hM; have HT := Lib.hid hT; have HE := Lib.hid hE
  clear hM hT hE
  go_enter Tryz.func6, Tryz.ntmps6
  go_wp2_with fail
  refine (cN _).mono ?_
  rintro e w1 ⟨hb1, ⟨_, v1, rfl, hp1, a, rfl⟩ | ⟨hno, _⟩⟩
  rotate_left
  · exact absurd lw_ok hno
  rw [lw_sort] at hp1
  have hbw : Below w.heap.size w w1 := ((Below.refl _ w).alloc (Nat.le_refl _) _).trans (hb1.mono (by simp))
  have c1 := clearance_any _ lr ⟨#[98, 111, 98]⟩ w1 hp1 (by unfold maxLen; simp [ByteArray.size])
  have e1 : clrV lr (⟨#[98, 111, 98]⟩ : ByteArray).data.toList = .tuple #[.int .u64 8, .int .i64 0] := by
    have hl : look lr bobN = some 8 := by decide
    show clrV lr bobN = _
    unfold clrV; rw [hl]; rfl
  rw [e1] at c1
  have c2 := print_any _ lr w1 hp1 (HT.out.below hbw)
  have HP : Aside _ := hp1
  clear cN hb1 hp1 e1
  go_wp2_with (first
    | (go_at_call 7; refine c1.mono ?_; rintro e w' ⟨rfl, rfl⟩)
    | (go_at_call 12; refine c2.mono ?_; rintro e w2 ⟨rfl, hb2⟩))
  have hbw2 := hbw.trans (hb2.mono hbw.size)
  have hp2 := PolAt.later HP.out hb2
  have c3 := parse_pol (bs (printL lr)) w2 (by rw [bs_size]; have := print_le lr_ok; omega) (HM.out.below hbw2) (HT.out.below hbw2) (HE.out.below hbw2)
  rw [bs_list] at c3
  have HP2 : Aside _ := hp2
  clear c1 c2 HP hp2 hb2
  refine c3.mono ?_
  rintro e w3 ⟨hb3, ⟨aq, lq, rfl, hq3, hsp⟩ | ⟨hno, _⟩⟩
  rotate_left
  · exact absurd ⟨lr, lr_spells⟩ hno
  have hlq : lq = lr := spells_one hsp lr_spells
  subst hlq
  have hbw3 := hbw2.trans (hb3.mono hbw2.size)
  have hp3 := PolAt.later HP2.out hb3
  have HQ3 : Aside _ := hq3
  have HP3 : Aside _ := hp3
  have c4 := viewers_any _ lr w3 hp3
  unfold GivesVw at c4
  have hl2 : lr.length = 2 := rfl
  rw [hl2] at c4
  clear c3 HP2 hp3 hq3 hsp hb3 hl2
  go_wp2_with (first | (go_at_call 8; refine c4.mono ?_; rintro e w4 ⟨hb4, p4, k4, rfl, _, _⟩))
  have hbw4 := hbw3.trans (hb4.mono hbw3.size)
  have hp4 := PolAt.later HP3.out hb4
  have c5 := polAbove_any _ lr 8 w4 hp4 (by decide)
  unfold GivesNm at c5
  have hl1 : (names (lr.filter fun x => belowB 8 x.c)).length = 1 := by decide
  rw [hl1] at c5
  have HP4 : Aside _ := hp4
  have HQ4 : Aside _ := PolAt.later HQ3.out hb4
  clear c4 HP3 HQ3 hb4 hp4 hl1
  go_wp2_with (first | (go_at_call 11; refine c5.mono ?_; rintro e w5 ⟨hb5, p5, k5, rfl, _, _⟩))
  have hbw5 := hbw4.trans (hb5.mono hbw4.size)
  have hp5 := PolAt.later HP4.out hb5
  have c6 := print_any _ lr w5 hp5 (HT.out.below hbw5)
  rw [lr_print] at c6
  have HP5 : Aside _ := hp5
  have HQ5 : Aside _ := PolAt.later HQ4.out hb5
  clear c5 HP4 HQ4 hb5 hp5
  have heq : ((bs lrText).toList == (⟨#[97, 110, 110, 32, 45, 10, 98, 111, 98, 32, 51, 10]⟩ : ByteArray).toList) = true := by decide +kernel
  have heq2 : ((bs lrText).toList == [97, 110, 110, 32, 45, 10, 98, 111, 98, 32, 51, 10]) = true := by decide +kernel
  have tok : True := trivial
  obtain ⟨tx, htx⟩ : ∃ tx, bs lrText = tx := ⟨_, rfl⟩
  rw [htx] at c6 heq heq2
  have HTX := Lib.hid htx
  clear htx
  go_wp2_with (first | (go_at_call 12; have _t := tok; refine c6.mono ?_; rintro e w6 ⟨rfl, hb6⟩; clear tok) | fail)
  have hbw6 := hbw5.trans (hb6.mono hbw5.size)
  have c7 := print_any _ lr w6 (PolAt.later HQ5.out hb6) (HT.out.below hbw6)
  rw [lr_print, HTX.out] at c7
  have HP6 : Aside _ := PolAt.later HP5.out hb6
  clear c6 HP5 HQ5 hb6
  refine c7.mono ?_
  rintro e w7 ⟨rfl, hb7⟩
  have hbw7 := hbw6.trans (hb7.mono hbw6.size)
  have c8 := print_any _ lr w7 (PolAt.later HP6.out hb7) (HT.out.below hbw7)
  rw [lr_print, HTX.out] at c8
  clear c7 HP6 hb7
  go_wp2_with fail
  refine c8.mono ?_
  rintro e w8 ⟨rfl, hb8⟩
  have hbw8 := hbw7.trans (hb8.mono hbw7.size)
  have hsame : (tx.toList == tx.toList) = true := by simp
  clear c8 hb8
  go_wp2_with fail
  go_ret
  exact ⟨rfl, hbw8⟩
end Go.Proofs.YtfibbjnkicjbpaaGreatDoor
/- A nil policy has nobody: by contracts. -/
namespace Go.Proofs.YtfibbjnkicjbpaaGreatDoor
open Go Go.RowKit Go.Maps

theorem those_nil (fv : Value) (w : World) : Calls Tryz.prog 22 #[.pointer none, fv] w fun e w' => e = .returned (.slice none 0 0) ∧ w = w' := by
  go_enter Tryz.func22, Tryz.ntmps22
  go_wp2
  go_ret
  exact ⟨rfl, rfl⟩
theorem clearance_nil (s : ByteArray) (w : World) : Calls Tryz.prog 7 #[.pointer none, .string s] w fun e w' => e = .returned (.tuple #[.int .u64 0, .int .i64 2]) ∧ w = w' := by
  go_enter Tryz.func7, Tryz.ntmps7
  go_wp2
  go_ret2
  exact ⟨rfl, rfl⟩
theorem erase_nil (c : Nat) (w : World) : Calls Tryz.prog 13 #[.pointer none, .int .u64 c] w fun e w' => e = .returned (.pointer none) ∧ w = w' := by
  go_enter Tryz.func13, Tryz.ntmps13
  go_wp2
  go_ret
  exact ⟨rfl, rfl⟩
theorem viewers_nil (w : World) : Calls Tryz.prog 8 #[.pointer none] w fun e w' => e = .returned (.slice none 0 0) ∧ w = w' := by
  have cT := fun fv => those_nil fv w
  go_enter Tryz.func8, Tryz.ntmps8
  go_wp2_with (go_at_call 22; refine (cT _).mono ?_; rintro e w1 ⟨rfl, rfl⟩)
  go_ret
  exact ⟨rfl, rfl⟩
theorem polBelow_nil (c : Nat) (w : World) : Calls Tryz.prog 10 #[.pointer none, .int .u64 c] w fun e w' => (∃ p k, e = .returned (.slice p 0 k)) ∧ Below w.heap.size w w' := by
  have cM := mkBelow_any c w
  have cT := fun fv W => those_nil fv W
  have cN := fun W => names_any W none 0 0 [] rfl (by omega) (vwRow_nil W none)
  go_enter Tryz.func10, Tryz.ntmps10
  go_wp2_with (first
    | (go_at_call 27; refine cM.mono ?_; rintro e w1 ⟨rfl, rfl⟩)
    | (go_at_call 22; refine (cT _ _).mono ?_; rintro e w2 ⟨rfl, rfl⟩)
    | (go_at_call 26; refine (cN _).mono ?_; rintro e w3 ⟨hb3, p3, c3, rfl, hr3, ho3⟩))
  go_ret
  exact ⟨⟨p3, c3, rfl⟩, ((Below.refl _ w).alloc (Nat.le_refl _) _).trans (hb3.mono (by simp))⟩
theorem polAbove_nil (c : Nat) (w : World) : Calls Tryz.prog 11 #[.pointer none, .int .u64 c] w fun e w' => (∃ p k, e = .returned (.slice p 0 k)) ∧ Below w.heap.size w w' := by
  have cM := mkAbove_any c w
  have cT := fun fv W => those_nil fv W
  have cN := fun W => names_any W none 0 0 [] rfl (by omega) (vwRow_nil W none)
  go_enter Tryz.func11, Tryz.ntmps11
  go_wp2_with (first
    | (go_at_call 28; refine cM.mono ?_; rintro e w1 ⟨rfl, rfl⟩)
    | (go_at_call 22; refine (cT _ _).mono ?_; rintro e w2 ⟨rfl, rfl⟩)
    | (go_at_call 26; refine (cN _).mono ?_; rintro e w3 ⟨hb3, p3, c3, rfl, hr3, ho3⟩))
  go_ret
  exact ⟨⟨p3, c3, rfl⟩, ((Below.refl _ w).alloc (Nat.le_refl _) _).trans (hb3.mono (by simp))⟩
set_option maxHeartbeats 1000000 in
theorem print_nil (w : World) : Calls Tryz.prog 12 #[.pointer none] w fun e w' => e = .returned (.string ⟨#[]⟩) ∧ Below w.heap.size w w' := by
  have cV := viewers_nil w
  have cJ := fun W => joined_any W none 0 [] (fun i hi => absurd hi (Nat.not_lt_zero _)) (by simp [sizeOf', listsOf])
  change ∀ W : World, Calls Tryz.prog 30 #[.slice none 0 0] W fun e w' => e = .returned (.string ⟨#[]⟩) ∧ Below W.heap.size W w' at cJ
  go_enter Tryz.func12, Tryz.ntmps12
  go_wp2_with (first | (go_at_call 8; refine cV.mono ?_; rintro e w1 ⟨rfl, rfl⟩) | fail)
  go_loopg [3, 9] 0 (fun g u vi wr => g = 0 ∧ u = .slice none 0 0 ∧ vi = .int .i64 0 ∧ w = wr)
  case atStart => exact ⟨rfl, rfl, rfl, rfl⟩
  case round =>
    obtain ⟨rfl, rfl, rfl, rfl⟩ := hrel
    go_wp2_with (first | (go_at_call 30; refine (cJ _).mono ?_; rintro e w5 ⟨rfl, hb5⟩) | fail)
    go_ret
    exact ⟨rfl, hb5⟩
end Go.Proofs.YtfibbjnkicjbpaaGreatDoor
/- The order of labels as the library's sort asks for it: by contracts. -/
namespace Go.Proofs.YtfibbjnkicjbpaaGreatDoor
open Go Go.RowKit

/-- a label as a value -/
abbrev lbV (c : Nat) : Value := .int .u64 c
/-- the order of labels -/
abbrev ltL (a b : Nat) : Bool := decide (a < b)
theorem ltL_int (a b : Nat) : decide ((a : Int) < (b : Int)) = ltL a b := by simp [ltL]

theorem lbNaN_any (x : Nat) (w : World) : Calls Tryz.prog 104 #[lbV x] w fun e w' => e = .returned (.bool false) ∧ w' = w := by
  go_enter Tryz.func104, Tryz.ntmps104
  go_wp2
  go_ret
  exact ⟨by simp, rfl⟩
theorem lbLess_any (x y : Nat) (w : World) : Calls Tryz.prog 75 #[lbV x, lbV y] w fun e w' => e = .returned (.bool (ltL x y)) ∧ w' = w := by
  go_enter Tryz.func75, Tryz.ntmps75
  go_wp2_with (go_at_call 104; refine (lbNaN_any _ _).mono ?_; rintro e w' ⟨rfl, rfl⟩)
  go_ret
  refine ⟨?_, rfl⟩
  simp [ltL]
end Go.Proofs.YtfibbjnkicjbpaaGreatDoor
/- Rows of labels in memory. -/
namespace Go.Proofs.YtfibbjnkicjbpaaGreatDoor
open Go Go.RowKit

/-- A list of labels that a slice points to. -/
def LabRow (w : World) (p : Option Addr) (cs : List Nat) : Prop := ∀ i (h : i < cs.length), ∃ b off, p = some ⟨b, off, none⟩ ∧ b < w.heap.size ∧ w.cell? ⟨b, off + i, none⟩ = some (.int .u64 cs[i])
theorem LabRow.at {w : World} {p : Option Addr} {cs : List Nat} (h : LabRow w p cs) (i : Nat) (hi : i < cs.length) : ∃ b off, p = some ⟨b, off, none⟩ ∧ b < w.heap.size ∧ ∀ W, Below w.heap.size w W → W.cell? ⟨b, off + i, none⟩ = some (.int .u64 cs[i]) := by
  obtain ⟨b, off, e, hlt, hc⟩ := h i hi
  exact ⟨b, off, e, hlt, fun W hb => (hb.cell (p := ⟨b, off + i, none⟩) hlt).trans hc⟩
theorem LabRow.later {w W : World} {p : Option Addr} {cs : List Nat} (h : LabRow w p cs) (hb : Below w.heap.size w W) : LabRow W p cs := fun i hi => by
  obtain ⟨b, off, e, hlt, hc⟩ := h i hi
  exact ⟨b, off, e, Nat.lt_of_lt_of_le hlt hb.size, (hb.cell (p := ⟨b, off + i, none⟩) hlt).trans hc⟩
def labVals (cs : List Nat) : List Value := cs.map lbV
theorem labVals_len (cs : List Nat) : (labVals cs).length = cs.length := by simp [labVals]
theorem labVals_snoc (cs : List Nat) (c : Nat) : labVals (cs ++ [c]) = labVals cs ++ [lbV c] := by simp [labVals]
theorem lab_owned {W : World} {B : Nat} {e : TypeId} {v : Value} {n : Nat} {cs : List Nat} (hn : cs.length = n) (h : W.ownsRow B e 1 v n (labVals cs)) : ∃ p c, v = .slice p n c ∧ LabRow W p cs := by
  subst hn
  rcases h.2 with ⟨hv, h0⟩ | ⟨g, cap, cur, hv, _⟩
  · refine ⟨none, 0, by rw [hv, h0], fun i hi => ?_⟩
    omega
  · refine ⟨some ⟨g, 0, none⟩, cap, hv, fun i hi => ?_⟩
    subst hv
    have hc := h.cellAt i (by omega)
    unfold labVals at hc
    rw [List.getElem?_map, List.getElem?_eq_getElem hi] at hc
    have hlt := World.block_lt_of_cell? W _ (show W.cell? ⟨g, i, none⟩ = some (.int .u64 cs[i]) from hc)
    exact ⟨g, 0, rfl, hlt, by rw [Nat.zero_add]; exact hc⟩
end Go.Proofs.YtfibbjnkicjbpaaGreatDoor
/- The clearances of viewers, rising, each once: plain lists: no program. -/
namespace Go.Proofs.YtfibbjnkicjbpaaGreatDoor
open Go Go.Maps Go.Sort Go.Lib

/-- Rising numbers. -/
def RiseC (cs : List Nat) : Prop := cs.Pairwise (· < ·)
theorem RiseC.nil : RiseC [] := List.Pairwise.nil
/-- Two rising lists of the same numbers are one. -/
theorem riseC_one : ∀ {xs ys : List Nat}, RiseC xs → RiseC ys → (∀ c, c ∈ xs ↔ c ∈ ys) → xs = ys
  | [], [], _, _, _ => rfl
  | [], y :: ys, _, _, h => absurd ((h y).2 (List.mem_cons_self ..)) List.not_mem_nil
  | x :: xs, [], _, _, h => absurd ((h x).1 (List.mem_cons_self ..)) List.not_mem_nil
  | x :: xs, y :: ys, hx, hy, h => by
    have h1 := List.pairwise_cons.1 hx
    have h2 := List.pairwise_cons.1 hy
    have e : x = y := by
      rcases List.mem_cons.1 ((h x).1 (List.mem_cons_self ..)) with e | e
      · exact e
      · rcases List.mem_cons.1 ((h y).2 (List.mem_cons_self ..)) with e' | e'
        · exact e'.symm
        · have := h2.1 x e; have := h1.1 y e'; omega
    subst e
    have ih := riseC_one (xs := xs) (ys := ys) h1.2 h2.2 fun c => ⟨fun hc => by
      rcases List.mem_cons.1 ((h c).1 (List.mem_cons_of_mem _ hc)) with e | e
      · have := h1.1 c hc; omega
      · exact e, fun hc => by
      rcases List.mem_cons.1 ((h c).2 (List.mem_cons_of_mem _ hc)) with e | e
      · have := h2.1 c hc; omega
      · exact e⟩
    rw [ih]
/-- One number more among rising ones. -/
def insC (c : Nat) : List Nat → List Nat
  | [] => [c]
  | x :: xs => if c < x then c :: x :: xs else if c = x then x :: xs else x :: insC c xs
theorem mem_insC (c : Nat) : ∀ (xs : List Nat) (y : Nat), y ∈ insC c xs ↔ y = c ∨ y ∈ xs
  | [], y => by simp [insC]
  | x :: xs, y => by
    unfold insC
    by_cases h1 : c < x
    · rw [if_pos h1]; simp
    · rw [if_neg h1]
      by_cases h2 : c = x
      · rw [if_pos h2]; subst h2; simp
      · rw [if_neg h2, List.mem_cons, mem_insC c xs y, List.mem_cons]
        constructor
        · rintro (h | h | h)
          · exact .inr (.inl h)
          · exact .inl h
          · exact .inr (.inr h)
        · rintro (h | h | h)
          · exact .inr (.inl h)
          · exact .inl h
          · exact .inr (.inr h)
theorem insC_rise (c : Nat) : ∀ {xs : List Nat}, RiseC xs → RiseC (insC c xs)
  | [], _ => List.pairwise_singleton _ _
  | x :: xs, h => by
    have h1 := List.pairwise_cons.1 h
    unfold insC
    by_cases hc : c < x
    · rw [if_pos hc]
      exact List.pairwise_cons.2 ⟨fun y hy => by
        rcases List.mem_cons.1 hy with e | e
        · omega
        · have := h1.1 y e; omega, h⟩
    · rw [if_neg hc]
      by_cases h2 : c = x
      · rw [if_pos h2]; exact h
      · rw [if_neg h2]
        exact List.pairwise_cons.2 ⟨fun y hy => by
          rcases (mem_insC c xs y).1 hy with e | e
          · omega
          · exact h1.1 y e, insC_rise c h1.2⟩
/-- The numbers, rising, each once. -/
def onceC (cs : List Nat) : List Nat := cs.foldr insC []
theorem onceC_rise : ∀ cs : List Nat, RiseC (onceC cs)
  | [] => RiseC.nil
  | c :: cs => insC_rise c (onceC_rise cs)
theorem mem_onceC : ∀ (cs : List Nat) (y : Nat), y ∈ onceC cs ↔ y ∈ cs
  | [], y => by simp [onceC]
  | c :: cs, y => by
    show y ∈ insC c (onceC cs) ↔ _
    rw [mem_insC, mem_onceC cs y, List.mem_cons]
theorem onceC_of {cs ys : List Nat} (h : RiseC ys) (hm : ∀ c, c ∈ ys ↔ c ∈ cs) : ys = onceC cs := riseC_one h (onceC_rise cs) fun c => by rw [hm, mem_onceC]
theorem insC_len (c : Nat) : ∀ xs : List Nat, (insC c xs).length ≤ xs.length + 1
  | [] => Nat.le_refl _
  | x :: xs => by
    have := insC_len c xs
    unfold insC
    by_cases h1 : c < x
    · rw [if_pos h1]; simp
    · rw [if_neg h1]
      by_cases h2 : c = x
      · rw [if_pos h2]; simp
      · rw [if_neg h2]; simp only [List.length_cons]; omega
theorem onceC_len : ∀ cs : List Nat, (onceC cs).length ≤ cs.length
  | [] => Nat.le_refl _
  | c :: cs => by
    have h1 := insC_len c (onceC cs)
    have h2 := onceC_len cs
    show (insC c (onceC cs)).length ≤ cs.length + 1
    omega
/-- The clearances that viewers have. -/
def clrL (l : List Vw) : List Nat := onceC (l.map (·.c))

theorem swoC : SWO ltL where
  irrefl x := by simp [ltL]
  trans x y z h1 h2 := by simp only [ltL, decide_eq_true_eq] at *; omega
  ntrans x y z h1 h2 := by simp only [ltL, decide_eq_false_iff_not] at *; omega
/-- The library's sort over numbers. -/
theorem sortL_perm (d : Array Nat) : (Sort.sort ltL d).toList.Perm d.toList := by
  obtain ⟨hP, hSo⟩ := sort_sorts ltL swoC d
  have h := sorted_unique_holds swoC (fun x y h1 h2 => by simp only [ltL, decide_eq_false_iff_not] at h1 h2; omega) d _ hP hSo
  rw [h]
  exact List.mergeSort_perm _ _
theorem sortL_rise (d : Array Nat) : ∀ i j, i < j → j < d.size → (Sort.sort ltL d)[i]! ≤ (Sort.sort ltL d)[j]! := fun i j hi hj => by
  have := (sort_sorts ltL swoC d).2 i j (Nat.zero_le _) hi hj
  simp only [ltL, decide_eq_false_iff_not] at this
  omega
/-- What is left of numbers that don't fall, each once. -/
theorem compact_rise (d : Array Nat) (h : ∀ i j, i < j → j < d.size → d[i]! ≤ d[j]!) : ∀ m, m ≤ d.size → RiseC (compactUpTo d m) ∧ (∀ c, c ∈ compactUpTo d m ↔ ∃ j, j < m ∧ d[j]! = c)
  | 0, _ => ⟨by simp [compactUpTo, RiseC], fun c => by simp [compactUpTo]⟩
  | m + 1, hm => by
    obtain ⟨h1, h2⟩ := compact_rise d h m (by omega)
    rw [compactUpTo_succ]
    by_cases hk : keeps d m = true
    · rw [if_pos hk]
      refine ⟨?_, fun c => ?_⟩
      · unfold RiseC
        rw [List.pairwise_append]
        refine ⟨h1, List.pairwise_singleton _ _, fun a ha b hb => ?_⟩
        rw [List.mem_singleton] at hb
        subst hb
        obtain ⟨j, hj, rfl⟩ := (h2 a).1 ha
        unfold keeps at hk
        rcases of_decide_eq_true hk with e | e
        · omega
        · have k2 := h (m - 1) m (by omega) (by omega)
          have k1 : d[j]! ≤ d[m - 1]! := by
            by_cases e' : j = m - 1
            · rw [e']; exact Nat.le_refl _
            · exact h j (m - 1) (by omega) (by omega)
          omega
      · rw [List.mem_append, List.mem_singleton, h2]
        constructor
        · rintro (⟨j, hj, e⟩ | e)
          · exact ⟨j, by omega, e⟩
          · exact ⟨m, by omega, e.symm⟩
        · rintro ⟨j, hj, e⟩
          by_cases e' : j = m
          · subst e'; exact .inr e.symm
          · exact .inl ⟨j, by omega, e⟩
    · have hk' : keeps d m = false := by simpa using hk
      rw [if_neg hk, List.append_nil]
      refine ⟨h1, fun c => ?_⟩
      rw [h2]
      unfold keeps at hk'
      have hk2 := of_decide_eq_false hk'
      constructor
      · rintro ⟨j, hj, e⟩; exact ⟨j, by omega, e⟩
      · rintro ⟨j, hj, e⟩
        by_cases e' : j = m
        · subst e'
          have h0 : j ≠ 0 := fun h => hk2 (.inl h)
          have h3 : d[j]! = d[j - 1]! := Classical.byContradiction fun h => hk2 (.inr h)
          exact ⟨j - 1, by omega, h3 ▸ e⟩
        · exact ⟨j, by omega, e⟩
theorem compact_sorted (cs : List Nat) : compactUpTo (Sort.sort ltL cs.toArray) cs.length = onceC cs := by
  have hp := sortL_perm cs.toArray
  have hz : (Sort.sort ltL cs.toArray).size = cs.length := by
    have := hp.length_eq
    simpa using this
  obtain ⟨h1, h2⟩ := compact_rise (Sort.sort ltL cs.toArray) (fun i j hi hj => sortL_rise cs.toArray i j hi (by rw [hz] at hj; simpa using hj)) cs.length (by omega)
  refine onceC_of h1 fun c => ?_
  rw [h2]
  have hm := hp.mem_iff (a := c)
  rw [show cs.toArray.toList = cs from rfl] at hm
  rw [← hm]
  constructor
  · rintro ⟨j, hj, e⟩
    have hj' : j < (Sort.sort ltL cs.toArray).size := by omega
    rw [getElem!_pos _ j hj'] at e
    rw [← e]
    exact Array.getElem_mem_toList hj'
  · intro hc
    obtain ⟨j, hj, e⟩ := List.getElem_of_mem hc
    have hj' : j < (Sort.sort ltL cs.toArray).size := by simpa using hj
    refine ⟨j, by omega, ?_⟩
    rw [getElem!_pos _ j hj', ← e]
    rfl
end Go.Proofs.YtfibbjnkicjbpaaGreatDoor
/- The library's insertion sort over labels: by a contract. -/
namespace Go.Proofs.YtfibbjnkicjbpaaGreatDoor
open Go Go.RowKit Go.Sort

/-- the world in which a row of labels is put, n draws on -/
abbrev lbPut (w : World) (n blk off : Nat) (d : Array Nat) : World := putRow lbV (Sort.ahead w n) blk off d

theorem lbInsert_any (blk off cap a b : Nat) (d : Array Nat) (w : World) (hH : Holds lbV w blk off d) (hab : a ≤ b) (hb : b ≤ d.size) (hsz : d.size < 4611686018427387904) :
    Calls Tryz.prog 69 #[.slice (some ⟨blk, off, none⟩) d.size cap, .int .i64 a, .int .i64 b] w fun e w' =>
      e = .returned (.tuple #[]) ∧ ∃ n, w' = lbPut w n blk off (Sort.insertionSort ltL d a b) := by
  go_enter Tryz.func69, Tryz.ntmps69
  go_wp2
  go_loopw [6] (fun v W => ∃ (i n : Nat) (D : Array Nat), v = .int .i64 i ∧ (a < i ∧ i ≤ b + 1) ∧ D.size = d.size ∧ W = lbPut w n blk off D ∧
      insOuter ltL a b i D = insOuter ltL a b (a + 1) d) (fun v _ => b + 1 - (intOf v).toNat)
  case atStart => exact ⟨a + 1, 0, d, by go_num, by omega, rfl, (putRow_self _ _ _ _ _ hH).symm, rfl⟩
  case round =>
    obtain ⟨i, n, D, rfl, hi, hsD, hW, hO0⟩ := hrel
    have hO : Hid (insOuter ltL a b i D = insOuter ltL a b (a + 1) d) := hO0
    clear hO0
    go_wp2
    · have hlt : i < b := by assumption
      go_loopw [7] (fun v W2 => ∃ (j m : Nat) (E : Array Nat), v = .int .i64 j ∧ (a ≤ j ∧ j ≤ i) ∧ E.size = d.size ∧ W2 = lbPut w m blk off E ∧
          insInner ltL a j E = insInner ltL a i D) (fun v _ => (intOf v).toNat)
      case atStart => exact ⟨i, n, D, rfl, by omega, hsD, rfl, rfl⟩
      case round =>
        obtain ⟨j, m, E, rfl, hj, hsE, hW2, hI0⟩ := hrel
        obtain ⟨g, hg0⟩ : ∃ g : Nat → Nat, ∀ t, g t = E[t]! := ⟨_, fun _ => rfl⟩
        have hcell : ∀ t, t < d.size → wr.cell? ⟨blk, off + t, none⟩ = some (.int .u64 (g t)) := fun t ht => by
          rw [hW2, hg0]; exact cell?_putRow lbV _ _ _ d E (holds_ahead _ _ _ _ _ _ hH) hsE t (by omega)
        have hfree : ∀ t, t < d.size → wr.frozen? ⟨blk, off + t, none⟩ = false := fun t ht => by
          rw [hW2]; simp only [lbPut, frozen?_putRow]; exact ((holds_ahead _ _ m _ _ _ hH) t ht).2
        have hWh : Hid (wr = lbPut w m blk off E) := hW2
        have hg : Hid (∀ t, g t = E[t]!) := hg0
        have hI : Hid (insInner ltL a j E = insInner ltL a i D) := hI0
        have hend : Hid ((j ≤ a ∨ ltL E[j]! E[j - 1]! = false) → ∀ q, ∃ i' n' D', Value.int .i64 ((i : Int) + 1) = .int .i64 (i' : Nat) ∧ (a < i' ∧ i' ≤ b + 1) ∧ D'.size = d.size ∧
            wr.drewN q = lbPut w n' blk off D' ∧ insOuter ltL a b i' D' = insOuter ltL a b (a + 1) d) := fun hs q =>
          ⟨i + 1, m + q, E, by go_num, by omega, hsE, by rw [hWh.out]; exact putRow_drewN _ _ _ _ _ _ _,
            by rw [← hO.out, insOuter_go _ _ _ _ _ hlt, ← hI.out, insInner_stop _ _ _ _ hs]⟩
        clear hW2 hg0 hI0 hH
        go_wp2
        by_cases hja : a < j
        · go_quiet (first | (go_at_call 75; refine Calls.quiet_of_same (lbLess_any _ _ _)))
          go_wp2
          · have hl : ltL (g j) (g (j - 1)) = true := decide_eq_true (by assumption)
            go_region
            all_goals go_wp2
            go_roundw
            case rel =>
              refine ⟨j - 1, m + (nq + 1), swp E j (j - 1), by congr 1; omega, by omega, by rw [size_swp]; exact hsE, ?_, ?_⟩
              · rw [hWh.out, hg.out, hg.out]
                exact swap_worldA lbV w m (nq + 1) blk off E j (j - 1) (by omega) (by omega)
              · rw [← hI.out, insInner_go ltL a j E hja (by rw [← hg.out, ← hg.out]; exact hl)]
            case measure => simp [intOf]; omega
          · have hl : ltL (g j) (g (j - 1)) = false := decide_eq_false (by assumption)
            go_roundw
            case rel => exact hend.out (Or.inr (by rw [← hg.out, ← hg.out]; exact hl)) nq
            case measure => simp [intOf]; omega
        · go_quiet (first | (go_at_call 75; refine Calls.quiet_of_same (lbLess_any _ _ _)))
          go_wp2
          go_roundw
          case rel => exact hend.out (Or.inl (by omega)) nq
          case measure => simp [intOf]; omega
    · have hge : ¬ i < b := by assumption
      go_end0
      exact ⟨rfl, n, by unfold Sort.insertionSort; rw [← hO.out, insOuter_stop _ _ _ _ _ hge]⟩
end Go.Proofs.YtfibbjnkicjbpaaGreatDoor
/- The library's reversal of a range of labels: by a contract. -/
namespace Go.Proofs.YtfibbjnkicjbpaaGreatDoor
open Go Go.RowKit Go.Sort

set_option maxRecDepth 1000000 in
theorem lbReverse_any (blk off cap : Nat) (d : Array Nat) (a b : Nat) (w : World) (hH : Holds lbV w blk off d) (hab : a ≤ b) (hb : b ≤ d.size) (hsz : d.size < 4611686018427387904) :
    Calls Tryz.prog 73 #[.slice (some ⟨blk, off, none⟩) d.size cap, .int .i64 a, .int .i64 b] w fun e w' =>
      e = .returned (.tuple #[]) ∧ ∃ n, w' = lbPut w n blk off (reverseRange d a b) := by
  go_enter Tryz.func73, Tryz.ntmps73
  go_wp2
  go_loopg [6, 7] (b - a) (fun k v6 v7 W => ∃ (i j : Nat) (z : Int) (E : Array Nat) (n : Nat), v6 = .int .i64 i ∧ v7 = .int .i64 z ∧
    (((i : Int) < z ∧ z = j ∧ j < d.size) ∨ (¬ (i : Int) < z ∧ ¬ i < j)) ∧ j - i ≤ k ∧ E.size = d.size ∧ W = lbPut w n blk off E ∧ reverseLoop i j E = reverseLoop a (b - 1) d)
  case atStart =>
    refine ⟨a, b - 1, (b : Int) - 1, d, 0, rfl, rfl, ?_, by omega, rfl, (putRow_self lbV w blk off d hH).symm, rfl⟩
    by_cases h : (a : Int) < (b : Int) - 1
    · exact .inl ⟨h, by omega, by omega⟩
    · exact .inr ⟨h, by omega⟩
  case round =>
    obtain ⟨i, j, z, E, n, rfl, rfl, hc, hk, hs, hW, he⟩ := hrel
    rcases hc with ⟨hlt, rfl, hj⟩ | ⟨hlt, hij⟩
    · have hij : i < j := by omega
      have hK : Holds lbV wr blk off E := by rw [hW]; exact holds_putRow lbV _ blk off d E (holds_ahead lbV w n blk off d hH) hs
      obtain ⟨ci, fi⟩ := hK i (by omega)
      obtain ⟨cj, fj⟩ := hK j (by omega)
      have A : Aside (wr = lbPut w n blk off E) := hW
      clear hW hK hH
      go_wp2_with fail
      go_region
      go_wp2
      go_roundg (j - 1 - (i + 1))
      case measure => omega
      case rel =>
        rw [reverseLoop, if_pos hij] at he
        refine ⟨i + 1, j - 1, (j : Int) - 1, swp E i j, n + 1, by simp, rfl, ?_, Nat.le_refl _, by rw [size_swp]; exact hs,
          swap_world lbV (by omega) (by omega) A.out (by simp [lbV, getElem!_pos, show j < E.size by omega]) rfl, he⟩
        by_cases h : (i : Int) + 1 < (j : Int) - 1
        · exact .inl ⟨by omega, by omega, by omega⟩
        · exact .inr ⟨by omega, by omega⟩
    · go_wp2
      go_end0
      refine ⟨rfl, n, ?_⟩
      rw [reverseLoop, if_neg hij] at he
      rw [reverseRange, ← he]
end Go.Proofs.YtfibbjnkicjbpaaGreatDoor
/- The library's sifting down over labels: by a contract. -/
namespace Go.Proofs.YtfibbjnkicjbpaaGreatDoor
open Go Go.RowKit Go.Sort

set_option maxHeartbeats 3200000 in
set_option maxRecDepth 1000000 in
theorem lbSift_any (blk off len cap : Nat) (d : Array Nat) (hlen : d.size = len) (lo hi first : Nat) (w : World) (hH : Holds lbV w blk off d) (hlo : lo ≤ hi) (hb : first + hi ≤ d.size) (hsz : d.size < 4611686018427387904) :
    Calls Tryz.prog 99 #[.slice (some ⟨blk, off, none⟩) len cap, .int .i64 lo, .int .i64 hi, .int .i64 first] w fun e w' =>
      e = .returned (.tuple #[]) ∧ ∃ n, w' = lbPut w n blk off (siftDown ltL hi first lo d) := by
  subst hlen
  go_enter Tryz.func99, Tryz.ntmps99
  go_wp2
  go_loopg [8] (hi - lo) (fun k v W => ∃ (root : Nat) (E : Array Nat) (n : Nat), v = .int .i64 root ∧ root ≤ hi ∧ hi - root ≤ k ∧ E.size = d.size ∧ W = lbPut w n blk off E ∧ siftDown ltL hi first root E = siftDown ltL hi first lo d)
  case atStart => exact ⟨lo, d, 0, rfl, hlo, Nat.le_refl _, rfl, (putRow_self lbV w blk off d hH).symm, rfl⟩
  case round =>
    obtain ⟨root, E, n, rfl, hr, hk, hs, hW, he⟩ := hrel
    have hK : Holds lbV wr blk off E := by rw [hW]; exact holds_putRow lbV _ blk off d E (holds_ahead lbV w n blk off d hH) hs
    have hcell : ∀ t, t < d.size → wr.cell? ⟨blk, off + t, none⟩ = some (.int .u64 E[t]!) := fun t ht => (hK t (by omega)).1
    have hfree : ∀ t, t < d.size → wr.frozen? ⟨blk, off + t, none⟩ = false := fun t ht => (hK t (by omega)).2
    have hA : Aside (wr = lbPut w n blk off E) := hW
    clear hW hH hK
    by_cases h0 : hi ≤ 2 * root + 1
    · have h0z : (hi : Int) ≤ 2 * (root : Int) + 1 := by omega
      go_wp2
      go_end0
      refine ⟨rfl, n, ?_⟩
      rw [hA.out, ← he, sd_end ltL E h0]
    · have h0z : ¬ ((hi : Int) ≤ 2 * (root : Int) + 1) := by omega
      by_cases h1 : 2 * root + 2 < hi
      · have h1z : 2 * (root : Int) + 1 + 1 < (hi : Int) := by omega
        go_wp2_with fail
        go_big_quiet (first | (go_at_call 75; refine Calls.quiet_of_same (lbLess_any _ _ _)))
        go_wp2_with fail
        · have hL : ltL E[first + 2 * root + 1]! E[first + 2 * root + 2]! = true := by first | exact decide_eq_true (by assumption) | (have q : (!ltL E[first + 2 * root + 1]! E[first + 2 * root + 2]!) = false := (by assumption); simpa using q)
          revert nq; intro m1
          have hcell2 : ∀ t, t < d.size → (wr.drewN m1).cell? ⟨blk, off + t, none⟩ = some (.int .u64 E[t]!) := hcell
          have hfree2 : ∀ t, t < d.size → (wr.drewN m1).frozen? ⟨blk, off + t, none⟩ = false := hfree
          have hA2 : Aside (wr.drewN m1 = lbPut w (n + m1) blk off E) := drewN_world lbV hA.out m1
          clear hcell hfree hA
          generalize wr.drewN m1 = w2 at hcell2 hfree2 hA2 ⊢
          go_big_quiet (first | (go_at_call 75; refine Calls.quiet_of_same (lbLess_any _ _ _)))
          go_wp2_with fail
          · have hS : ltL E[first + root]! E[first + 2 * root + 2]! = false := by first | exact decide_eq_false (by assumption) | (have q : (!ltL E[first + root]! E[first + 2 * root + 2]!) = true := (by assumption); simpa using q) | (have q : E[first + 2 * root + 2]! ≤ E[first + root]! := (by assumption); exact decide_eq_false (by omega))
            (try simp only [Exit.inBlock, Exit.then]); refine bodyPost_ret (results_none rfl _ _ _) rfl ?_
            refine ⟨rfl, n + m1 + nq, ?_⟩
            rw [drewN_world lbV hA2.out nq, ← he, sd_right_stop ltL E h1 hL hS]
          · have hG : ltL E[first + root]! E[first + 2 * root + 2]! = true := by first | exact decide_eq_true (by assumption) | (have q : (!ltL E[first + root]! E[first + 2 * root + 2]!) = false := (by assumption); simpa using q)
            have hcell3 : ∀ t, t < d.size → (w2.drewN nq).cell? ⟨blk, off + t, none⟩ = some (.int .u64 E[t]!) := hcell2
            have hfree3 : ∀ t, t < d.size → (w2.drewN nq).frozen? ⟨blk, off + t, none⟩ = false := hfree2
            have hA3 : Aside (w2.drewN nq = lbPut w (n + m1 + nq) blk off E) := drewN_world lbV hA2.out nq
            clear hcell2 hfree2 hA2
            generalize w2.drewN nq = w3 at hcell3 hfree3 hA3 ⊢
            go_region
            go_wp2
            go_roundg (hi - (2 * root + 2))
            case measure => omega
            case rel =>
              refine ⟨2 * root + 2, swp E (first + root) (first + (2 * root + 1 + 1)), n + m1 + nq + 1, by simp <;> omega, by omega, Nat.le_refl _, by rw [size_swp]; exact hs, swap_world lbV (by omega) (by omega) hA3.out rfl rfl, ?_⟩
              rw [← he, sd_right_go ltL E h1 hL hG]
        · have hL : ltL E[first + 2 * root + 1]! E[first + 2 * root + 2]! = false := by first | exact decide_eq_false (by assumption) | (have q : (!ltL E[first + 2 * root + 1]! E[first + 2 * root + 2]!) = true := (by assumption); simpa using q) | (have q : E[first + 2 * root + 2]! ≤ E[first + 2 * root + 1]! := (by assumption); exact decide_eq_false (by omega))
          revert nq; intro m1
          have hcell2 : ∀ t, t < d.size → (wr.drewN m1).cell? ⟨blk, off + t, none⟩ = some (.int .u64 E[t]!) := hcell
          have hfree2 : ∀ t, t < d.size → (wr.drewN m1).frozen? ⟨blk, off + t, none⟩ = false := hfree
          have hA2 : Aside (wr.drewN m1 = lbPut w (n + m1) blk off E) := drewN_world lbV hA.out m1
          clear hcell hfree hA
          generalize wr.drewN m1 = w2 at hcell2 hfree2 hA2 ⊢
          go_big_quiet (first | (go_at_call 75; refine Calls.quiet_of_same (lbLess_any _ _ _)))
          go_wp2_with fail
          · have hS : ltL E[first + root]! E[first + 2 * root + 1]! = false := by first | exact decide_eq_false (by assumption) | (have q : (!ltL E[first + root]! E[first + 2 * root + 1]!) = true := (by assumption); simpa using q) | (have q : E[first + 2 * root + 1]! ≤ E[first + root]! := (by assumption); exact decide_eq_false (by omega))
            (try simp only [Exit.inBlock, Exit.then]); refine bodyPost_ret (results_none rfl _ _ _) rfl ?_
            refine ⟨rfl, n + m1 + nq, ?_⟩
            rw [drewN_world lbV hA2.out nq, ← he, sd_left_stop ltL E (by omega) (fun _ => hL) hS]
          · have hG : ltL E[first + root]! E[first + 2 * root + 1]! = true := by first | exact decide_eq_true (by assumption) | (have q : (!ltL E[first + root]! E[first + 2 * root + 1]!) = false := (by assumption); simpa using q)
            have hcell3 : ∀ t, t < d.size → (w2.drewN nq).cell? ⟨blk, off + t, none⟩ = some (.int .u64 E[t]!) := hcell2
            have hfree3 : ∀ t, t < d.size → (w2.drewN nq).frozen? ⟨blk, off + t, none⟩ = false := hfree2
            have hA3 : Aside (w2.drewN nq = lbPut w (n + m1 + nq) blk off E) := drewN_world lbV hA2.out nq
            clear hcell2 hfree2 hA2
            generalize w2.drewN nq = w3 at hcell3 hfree3 hA3 ⊢
            go_region
            go_wp2
            go_roundg (hi - (2 * root + 1))
            case measure => omega
            case rel =>
              refine ⟨2 * root + 1, swp E (first + root) (first + (2 * root + 1)), n + m1 + nq + 1, by simp <;> omega, by omega, Nat.le_refl _, by rw [size_swp]; exact hs, swap_world lbV (by omega) (by omega) hA3.out rfl rfl, ?_⟩
              rw [← he, sd_left_go ltL E (by omega) (fun _ => hL) hG]
      · have h1z : decide (2 * (root : Int) + 1 + 1 < (hi : Int)) = false := decide_eq_false (by omega)
        go_wp2_with fail
        go_big_quiet (first | (go_at_call 75; refine Calls.quiet_of_same (lbLess_any _ _ _)))
        go_wp2_with fail
        revert nq; intro m1
        have hcell2 : ∀ t, t < d.size → (wr.drewN m1).cell? ⟨blk, off + t, none⟩ = some (.int .u64 E[t]!) := hcell
        have hfree2 : ∀ t, t < d.size → (wr.drewN m1).frozen? ⟨blk, off + t, none⟩ = false := hfree
        have hA2 : Aside (wr.drewN m1 = lbPut w (n + m1) blk off E) := drewN_world lbV hA.out m1
        clear hcell hfree hA
        generalize wr.drewN m1 = w2 at hcell2 hfree2 hA2 ⊢
        go_big_quiet (first | (go_at_call 75; refine Calls.quiet_of_same (lbLess_any _ _ _)))
        go_wp2_with fail
        · have hS : ltL E[first + root]! E[first + 2 * root + 1]! = false := by first | exact decide_eq_false (by assumption) | (have q : (!ltL E[first + root]! E[first + 2 * root + 1]!) = true := (by assumption); simpa using q) | (have q : E[first + 2 * root + 1]! ≤ E[first + root]! := (by assumption); exact decide_eq_false (by omega))
          (try simp only [Exit.inBlock, Exit.then]); refine bodyPost_ret (results_none rfl _ _ _) rfl ?_
          refine ⟨rfl, n + m1 + nq, ?_⟩
          rw [drewN_world lbV hA2.out nq, ← he, sd_left_stop ltL E (by omega) (fun h => absurd h h1) hS]
        · have hG : ltL E[first + root]! E[first + 2 * root + 1]! = true := by first | exact decide_eq_true (by assumption) | (have q : (!ltL E[first + root]! E[first + 2 * root + 1]!) = false := (by assumption); simpa using q)
          have hcell3 : ∀ t, t < d.size → (w2.drewN nq).cell? ⟨blk, off + t, none⟩ = some (.int .u64 E[t]!) := hcell2
          have hfree3 : ∀ t, t < d.size → (w2.drewN nq).frozen? ⟨blk, off + t, none⟩ = false := hfree2
          have hA3 : Aside (w2.drewN nq = lbPut w (n + m1 + nq) blk off E) := drewN_world lbV hA2.out nq
          clear hcell2 hfree2 hA2
          generalize w2.drewN nq = w3 at hcell3 hfree3 hA3 ⊢
          go_region
          go_wp2
          go_roundg (hi - (2 * root + 1))
          case measure => omega
          case rel =>
            refine ⟨2 * root + 1, swp E (first + root) (first + (2 * root + 1)), n + m1 + nq + 1, by simp <;> omega, by omega, Nat.le_refl _, by rw [size_swp]; exact hs, swap_world lbV (by omega) (by omega) hA3.out rfl rfl, ?_⟩
            rw [← he, sd_left_go ltL E (by omega) (fun h => absurd h h1) hG]
end Go.Proofs.YtfibbjnkicjbpaaGreatDoor
/- The library's heap sort over labels: by a contract. -/
namespace Go.Proofs.YtfibbjnkicjbpaaGreatDoor
open Go Go.RowKit Go.Sort

set_option maxHeartbeats 3200000 in
set_option maxRecDepth 1000000 in
theorem lbHeap_any (blk off len cap : Nat) (d : Array Nat) (hlen : d.size = len) (a b : Nat) (w : World) (hH : Holds lbV w blk off d) (hab : a ≤ b) (hb : b ≤ d.size) (hsz : d.size < 4611686018427387904) :
    Calls Tryz.prog 70 #[.slice (some ⟨blk, off, none⟩) len cap, .int .i64 a, .int .i64 b] w fun e w' =>
      e = .returned (.tuple #[]) ∧ ∃ n, w' = lbPut w n blk off (heapSort ltL d a b) := by
  subst hlen
  have ec : ((b - a : Nat) : Int) = (b : Int) - (a : Int) := by omega
  have hsd : ∀ hi F root (E : Array Nat), (siftDown ltL hi F root E).size = E.size := fun hi F root E => size_siftDown ltL _ _ _ _ _ (Nat.le_refl _)
  go_enter Tryz.func70, Tryz.ntmps70
  go_wp2
  go_loopg [9] ((b - a - 1) / 2 + 1) (fun k v W => v = .int .i64 ((k : Int) - 1) ∧ k ≤ (b - a - 1) / 2 + 1 ∧ ∃ (E : Array Nat) (n : Nat), E.size = d.size ∧ W = lbPut w n blk off E ∧
    heapBuild ltL (b - a) a k E = heapBuild ltL (b - a) a ((b - a - 1) / 2 + 1) d)
  case atStart => exact ⟨by rw [half_start hab], Nat.le_refl _, d, 0, rfl, (putRow_self lbV w blk off d hH).symm, rfl⟩
  case round =>
    obtain ⟨rfl, hk, E, n, hs, hW, he⟩ := hrel
    have hK : Holds lbV wr blk off E := by rw [hW]; exact holds_putRow lbV _ blk off d E (holds_ahead lbV w n blk off d hH) hs
    have hA : Aside (wr = lbPut w n blk off E) := hW
    clear hW
    cases gk with
    | zero =>
      have hB : E = heapBuild ltL (b - a) a ((b - a - 1) / 2 + 1) d := he
      clear he hK hk
      go_wp2
      go_loopg [10] (b - a) (fun k v W => v = .int .i64 ((k : Int) - 1) ∧ k ≤ b - a ∧ ∃ (D : Array Nat) (m : Nat), D.size = d.size ∧ W = lbPut w m blk off D ∧ heapPop ltL a k D = heapPop ltL a (b - a) E)
      case atStart => exact ⟨by rw [ec], Nat.le_refl _, E, n, hs, hA.out, rfl⟩
      case round =>
        obtain ⟨rfl, hk, D, m, hD, hW2, he2⟩ := hrel
        cases gk with
        | zero =>
          go_wp2
          go_end0
          refine ⟨rfl, m, ?_⟩
          have e : D = heapSort ltL d a b := by rw [heapSort, ← hB, ← he2]; rfl
          rw [← e]
        | succ k =>
          have hK : Holds lbV wr blk off D := by rw [hW2]; exact holds_putRow lbV _ blk off d D (holds_ahead lbV w m blk off d hH) hD
          have hcell : ∀ t, t < d.size → wr.cell? ⟨blk, off + t, none⟩ = some (.int .u64 D[t]!) := fun t ht => (hK t (by omega)).1
          have hfree : ∀ t, t < d.size → wr.frozen? ⟨blk, off + t, none⟩ = false := fun t ht => (hK t (by omega)).2
          have hA2 : Aside (wr = lbPut w m blk off D) := hW2
          clear hW2 hK
          have hnext : ∀ i hi, Holds lbV (lbPut w (m + 1) blk off (swp D a i)) blk off (swp D a i) ∧ (siftDown ltL hi a 0 (swp D a i)).size = d.size := fun i hi =>
            ⟨holds_putRow lbV _ blk off d _ (holds_ahead lbV w (m + 1) blk off d hH) (by rw [size_swp]; exact hD), by rw [hsd, size_swp]; exact hD⟩
          rcases Nat.eq_zero_or_pos k with h0 | h0
          · subst h0
            go_wp2_with fail
            go_region
            go_wp2_with fail
            rw [swap_world lbV (i := a) (j := a) (by omega) (by omega) hA2.out rfl rfl]
            refine (lbSift_any blk off d.size cap (swp D a a) (by rw [size_swp]; exact hD) 0 0 a _ (hnext a 0).1 (Nat.zero_le _) (by rw [size_swp]; omega) (by rw [size_swp]; omega)).mono ?_
            rintro e w1 ⟨rfl, q, hw1⟩
            go_wp2
            go_roundg 0
            case measure => omega
            case rel =>
              refine ⟨by simp, by omega, siftDown ltL 0 a 0 (swp D a a), m + 1 + q, (hnext a 0).2, ?_, he2⟩
              first
                | rw [hw1]; exact putRow_ahead_putRow lbV w (m + 1) q blk off _ _ (hsd ..)
                | exact putRow_ahead_putRow lbV w (m + 1) q blk off _ _ (hsd ..)
          · go_wp2_with fail
            go_region
            go_wp2_with fail
            rw [swap_world lbV (i := a) (j := a + k) (by omega) (by omega) hA2.out rfl rfl]
            refine (lbSift_any blk off d.size cap (swp D a (a + k)) (by rw [size_swp]; exact hD) 0 k a _ (hnext (a + k) k).1 (Nat.zero_le _) (by rw [size_swp]; omega) (by rw [size_swp]; omega)).mono ?_
            rintro e w1 ⟨rfl, q, hw1⟩
            go_wp2
            go_roundg k
            case measure => omega
            case rel =>
              refine ⟨by simp, by omega, siftDown ltL k a 0 (swp D a (a + k)), m + 1 + q, (hnext (a + k) k).2, ?_, he2⟩
              first
                | rw [hw1]; exact putRow_ahead_putRow lbV w (m + 1) q blk off _ _ (hsd ..)
                | exact putRow_ahead_putRow lbV w (m + 1) q blk off _ _ (hsd ..)
    | succ k =>
      have hc := lbSift_any blk off d.size cap E hs k (b - a) a wr hK (by omega) (by omega) (by omega)
      rw [ec] at hc
      go_wp2_with (go_at_call 99; refine hc.mono ?_; rintro e w1 ⟨rfl, q, hw1⟩)
      go_roundg k
      case measure => omega
      case rel =>
        refine ⟨by simp, by omega, siftDown ltL (b - a) a k E, n + q, by rw [hsd]; exact hs, ?_, he⟩
        rw [hA.out]; exact putRow_ahead_putRow lbV w n q blk off E _ (hsd ..)
end Go.Proofs.YtfibbjnkicjbpaaGreatDoor
