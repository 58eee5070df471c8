/- Texts of the proof, merged: PoRead, StepOwn. -/
import Derived.Test.YtfkkodcppaakjaaGreatDoorRd12
import Derived.Test.YtfkkodcppaakjaaGreatDoorRd15
import Derived.Test.YtfkkodcppaakjaaGreatDoorRd20
import Derived.Test.YtfkkodcppaakjaaGreatDoorRd26
import Derived.Deep.RegionHeld3
import Derived.Deep.RegionLaw
import Derived.Laws.AppendOwn
import Derived.OwnWalk
import Derived.RowKit
/- policy.read, by its contract. -/
namespace Go.Proofs.YtfkkodcppaakjaaGreatDoor
open Go Go.RowKit Go.Maps

theorem strCut_any (t : ByteArray) (W : World) (hs : t.size < 4294967281) (hM : MaxS W) : Calls Tryz.prog 83 #[.string t, .string ⟨#[32]⟩] W fun e w' => ∃ b, e = .returned (.tuple #[.string (bs (nameOf t.data.toList)), .string (bs (wordAt t.data.toList)), .bool b]) ∧ Below W.heap.size W w' := by
  obtain ⟨m, hm⟩ := hM
  refine (Tryz.strings_Cut t ⟨#[32]⟩ m W hs hm).mono ?_
  rintro e w' ⟨he, n, rfl⟩
  obtain ⟨h1, h2⟩ := cut_blank t.data.toList
  rw [show (⟨#[32]⟩ : ByteArray).data.toList = [32] from rfl, h1, h2] at he
  exact ⟨_, he, below_drewN' (Below.refl _ _) _⟩
theorem strCount_any (s : ByteArray) (W : World) : Calls Tryz.prog 81 #[.string s, .string ⟨#[10]⟩] W fun e w' => e = .returned (.int .i64 (s.data.toList.count 10 : Nat)) ∧ W = w' :=
  (Tryz.strings_Count_one s 10 W).mono fun _ _ ⟨h1, h2⟩ => ⟨h1, h2.symm⟩
/-- What read answers. -/
def ReadSays (s : List UInt8) (W : World) (e : Ending) (w' : World) : Prop := Below W.heap.size W w' ∧
  ((∃ (p : Option Addr) (c : Nat) (l : List Vw), e = .returned (.tuple #[.slice p l.length c, .int .i64 0]) ∧ VwRow w' p l ∧ Fit64 l ∧ l.length ≤ maxLen ∧ Reads (cutL s) l) ∨ ((¬ ∃ l, Spells s l) ∧ e = .returned (.tuple #[.slice none 0 0, .int .i64 4])))

set_option maxRecDepth 100000 in
set_option maxHeartbeats 4000000 in
theorem read_pol (s : ByteArray) (w : World) (hs : s.size < 4294967281) (hM : MaxS w) (hT : BTab w) (hE : EvW w) : Calls Tryz.prog 34 #[.string s] w (ReadSays s.data.toList w) := by
  have cC := strCount_any s
  have cL := cut_row s w hs hM
  unfold CutRow at cL
  have hmany := Lib.hid (none_of_many (s := s.data.toList))
  have hcut := Lib.hid (none_of_cut (s := s.data.toList))
  have hpiece := Lib.hid (fun k hk h => none_of_piece (s := s.data.toList) (k := k) hk h)
  obtain ⟨hlen, htl⟩ := cut_len s.data.toList
  rw [len_size] at hlen
  have HTL := Lib.hid htl
  obtain ⟨m, hm⟩ : ∃ m, s.data.toList.count 10 = m := ⟨_, rfl⟩
  rw [hm] at cC hmany
  have hE4 : cutE s.data.toList = 0 ∨ cutE s.data.toList = 4 := by unfold cutE; split <;> simp
  obtain ⟨ec, hec⟩ : ∃ ec, cutE s.data.toList = ec := ⟨_, rfl⟩
  rw [hec] at cL hcut hE4
  generalize hts : cutL s.data.toList = ts at *
  have HTS := Lib.hid hts
  obtain ⟨n, hn⟩ : ∃ n, ts.length = n := ⟨_, rfl⟩
  have HN := Lib.hid hn
  rw [hn] at hlen cL
  have HM := Lib.hid hM; have HT := Lib.hid hT; have HE := Lib.hid hE
  clear hM hT hE htl hm hec hn hts
  by_cases hmm : 64 < m
  · have hno := hmany.out hmm
    go_enter Tryz.func34, Tryz.ntmps34
    go_wp2_with (go_at_call 81; refine (cC _).mono ?_; rintro e w' ⟨rfl, rfl⟩)
    go_ret2
    exact ⟨Below.refl _ _, .inr ⟨hno, rfl⟩⟩
  · rcases hE4 with rfl | rfl
    · clear hcut hmany
      obtain ⟨i0, hi, hz0, hz1, hz2⟩ := info_parts vwInfo
      have hsn : n < 4294967281 := by omega
      go_enter Tryz.func34, Tryz.ntmps34
      go_wp2_with (first
        | (go_at_call 81; refine (cC _).mono ?_; rintro e w' ⟨rfl, rfl⟩)
        | (go_at_call 82; refine cL.mono ?_; rintro e w1 ⟨p1, c1, rfl, hb1, ho1⟩))
      have hrow : StrRow w1 p1 (asTexts ts) := by
        have hl : (asTexts ts).length = n := by unfold asTexts; rw [List.length_map]; exact HN.out
        obtain ⟨p', c', e', hr'⟩ := row_owned (ks := asTexts ts) (by rw [hl]; exact ho1)
        rw [hl] at e'
        injection e' with e1 _ _
        rw [e1]; exact hr'
      have hs1 := hb1.size
      clear cC cL ho1
      go_loopg [6, 27] n (fun g u vi wr => ∃ (k : Nat) (l : List Vw), k + g = n ∧ vi = .int .i64 k ∧ Below w1.heap.size w1 wr ∧ l.length = k ∧ Hid (Reads (ts.take k) l) ∧ Hid (Fit64 l) ∧ Hid (wr.ownsRow w1.heap.size 81 2 u k (flat l)))
      case atStart => exact ⟨0, [], by omega, rfl, Below.refl _ _, rfl, by rw [List.take_zero]; exact Reads.nil, fit64_nil, World.ownsRow_nil _ _ _ _⟩
      case round =>
        obtain ⟨k, l, hk, rfl, hbr, hlk, HR, HF, HO⟩ := hrel
        have hbrw : Below w.heap.size w wr := hb1.trans (hbr.mono hs1)
        have hsr := hbr.size
        by_cases hlt : k < n
        · have hlt' : k < ts.length := by rw [HN.out]; exact hlt
          have hmem := List.getElem_mem hlt'
          obtain ⟨b1, o1, rfl, h1c⟩ := hrow.at k (by unfold asTexts; rw [List.length_map]; exact hlt')
          have g1 := h1c wr hbr
          have hat : (asTexts ts)[k]'(by unfold asTexts; rw [List.length_map]; exact hlt') = bs ts[k] := by simp [asTexts, bs]
          rw [hat] at g1
          have htk := HTL.out ts[k] hmem
          rw [len_size] at htk
          have hnl := nameOf_le ts[k]
          have hwl := wordAt_le ts[k]
          have HP := Lib.hid (hpiece.out k hlt')
          have hst := Lib.hid (fun (a : Nat) (ha : a < 18446744073709551616) (e : textN a = wordAt ts[k]) => (show Reads (ts.take (k + 1)) (l ++ [⟨nameOf ts[k], a⟩]) by rw [List.take_succ_eq_append_getElem hlt']; exact HR.out.snoc ha e))
          generalize ts[k] = t at *
          have cX := strCut_any (bs t) wr (by rw [bs_size]; omega) (HM.out.below hbrw)
          rw [bs_list] at cX
          have HB := Lib.hid hbr
          have HBW := Lib.hid hbrw
          clear h1c hat hmem hbr hbrw hpiece
          go_wp2_with (first | (go_at_call 83; refine cX.mono ?_; rintro e w2 ⟨bb, rfl, hb2⟩))
          have hbw2 := HBW.out.trans (hb2.mono HBW.out.size)
          have cP := parse_any (bs (wordAt t)) w2 (by rw [bs_size]; omega) (HT.out.below hbw2) (HE.out.below hbw2)
          rw [bs_list] at cP
          refine cP.mono ?_
          rintro e w3 ⟨a, er, rfl, hra, hb3⟩
          have hbw3 := hbw2.trans (hb3.mono hbw2.size)
          have hsz2 := hb2.size
          have hsz3 := hb3.size
          have HBW3 := Lib.hid hbw3
          have HB3 := Lib.hid ((HB.out.trans (hb2.mono hsr)).trans (hb3.mono (by omega)))
          have HO3 := Lib.hid (ownsAny_later (ownsAny_later HO.out hb2) hb3)
          clear cX cP hb2 hb3 hbw2 hbw3 HO
          rcases hra with ⟨rfl, ha, hta⟩ | ⟨rfl, rfl, hno⟩
          · have HR2 : Hid (Reads (ts.take (k + 1)) (l ++ [⟨nameOf t, a⟩])) := hst.out a ha hta
            have HF2 : Hid (Fit64 (l ++ [⟨nameOf t, a⟩])) := fun x hx => by
              rw [List.mem_append, List.mem_singleton] at hx
              rcases hx with hx | rfl
              · exact HF.out x hx
              · exact ⟨ha, by unfold maxLen; show (nameOf t).length ≤ _; omega⟩
            have ho3 := HO3.out
            clear HR HF hst HP HO3 hta
            go_wp2_with (first
              | (at_builtin; refine wpList_append_own _ rfl _ _ 28 rfl w1.heap.size 81 i0 (.agg #[.string ⟨#[]⟩, .int .u64 0]) 2 24 Tryz.underlying28 hi hz0 hz1 hz2 rfl (by decide) _ _ _ rfl (ho3.alloc _) ⟨w3.heap.size, 0, none⟩ 1 1 [.string (bs (nameOf t)), .int .u64 a] rfl rfl ?c1 ?c2 ?c3 ?c4 ?c5 ?_))
            case c1 =>
              intro j u hj
              match j, hj with
              | 0, hj => simp at hj; subst hj; simp [Addr.add]
              | 1, hj => simp at hj; subst hj; simp [Addr.add]
            case c2 => intro u hu; simp at hu; rcases hu with rfl | rfl <;> rfl
            case c3 => unfold maxLen; omega
            case c4 => omega
            case c5 => simp; omega
            intro u' w4 hown' hgrow _
            have hb4 : Below w1.heap.size w1 w4 := (HB3.out.alloc (by omega) _).grown hgrow (by simp; omega) (fun g hg => (ho3.lt g hg).1)
            have HO4 : Hid (w4.ownsRow w1.heap.size 81 2 u' (k + 1) (flat (l ++ [⟨nameOf t, a⟩]))) := by
              show w4.ownsRow _ _ _ _ _ _
              rw [flat_snoc]; exact hown'
            clear ho3 hown' hgrow
            go_wp2_with fail
            go_roundg (gk - 1)
            case rel => exact ⟨k + 1, _, by omega, by go_num, hb4, by simp [hlk], HR2, HF2, HO4⟩
            case measure => omega
          · have hnone := HP.out hno
            clear HR HF hst HP HO3 hno
            go_wp2_with fail
            go_ret2
            exact ⟨HBW3.out, .inr ⟨hnone, rfl⟩⟩
        · obtain rfl : k = n := by omega
          have hall : ts.take k = ts := by rw [← HN.out]; exact List.take_length
          rw [hall] at HR
          have HBW := Lib.hid hbrw
          obtain ⟨p2, c2, hu, hr2⟩ := vw_owned hlk HO.out
          subst hu
          have HL := Lib.hid hlk
          have HR2 := Lib.hid hr2
          clear hbr hbrw hall HO hlk hr2
          go_wp2_with fail
          go_ret2
          exact ⟨HBW.out, .inl ⟨p2, c2, l, by rw [HL.out]; rfl, HR2.out, HF.out, by rw [HL.out]; unfold maxLen; omega, by rw [HTS.out]; exact HR.out⟩⟩
    · have hno := hcut.out (by decide)
      go_enter Tryz.func34, Tryz.ntmps34
      go_wp2_with (first
        | (go_at_call 81; refine (cC _).mono ?_; rintro e w' ⟨rfl, rfl⟩)
        | (go_at_call 82; refine cL.mono ?_; rintro e w1 ⟨p1, c1, rfl, hb1, ho1⟩))
      go_ret2
      exact ⟨hb1, .inr ⟨hno, rfl⟩⟩
end Go.Proofs.YtfkkodcppaakjaaGreatDoor
/- append to a row of the call's own, as one step of a region that draws its order. No program. -/
namespace Go.Proofs.YtfkkodcppaakjaaGreatDoor
open Go Go.RowKit

theorem step_append_own {P : Program} {ops : Array Oper} {o : Oper} {a : Act} {w : World} {K : Act → World → Prop} {Q : Exit → Act → World → Prop} {E : Prop} (hgd : o.guard = none) (s x : Operand) (t : TypeId)
    (ho : o.op = .call { callee := .builtin .append, args := #[s, x], argTypes := #[t, t] })
    (base : Nat) (e : TypeId) (i : TypeInfo) (z : Value) (size bytes : Nat) (ht : P.underlying t = some (.slice e)) (hi : P.info? e = some i) (hz : i.zero = some z)
    (hsize : i.size = size) (hby : i.bytes = bytes) (hzs : z.cells.size = size) (hsz : 0 < size)
    (v : Value) (n : Nat) (xs : List Value) (hs : a.eval s = v) (hown : w.ownsRow base e size v n xs)
    (ad : Addr) (m c : Nat) (news : List Value) (hx : a.eval x = .slice (some ad) m c) (hl : news.length = m * size) (hnews : ∀ j u, news[j]? = some u → w.cell? (ad.add j) = some u) (h1 : ∀ u ∈ news, u.oneCell' = true)
    (h63 : n + m ≤ maxLen) (hbytes : (n + m) * bytes ≤ 140737488355328) (hbase : base ≤ w.heap.size)
    (h : ∀ v' w', w'.ownsRow base e size v' (n + m) (xs ++ news) → w.grownBy w' v.ownBlock → K (a.put o.dst v') w') : if Region.wanted o (yielded ops a.tmps) = true then Oper.wp P o a w K Q else E := by
  have hw : Region.wanted o (yielded ops a.tmps) = true := by simp [Region.wanted, hgd]
  rw [if_pos hw]
  obtain ⟨v', w', hr, h2, h3, _⟩ := run_append_own (P := P) w base t o.type e i z size bytes ht hi hz hsize hby hzs hsz v n xs hown ad m c news hl hnews h1 h63 hbytes hbase
  unfold Oper.wp execOp
  simp only [ho, resolve, invoke, builtin, Sem.run_bind, Sem.run_pure, Result.andThen_ok, List.map_toArray, List.map_cons, List.map_nil, hs, hx, hr]
  exact h v' w' h2 h3
end Go.Proofs.YtfkkodcppaakjaaGreatDoor
