/- Texts of the proof, merged: PrParse. -/
import Derived.Test.YtfkkodcppaakjaaGreatDoorRd15
import Derived.Test.YtfkkodcppaakjaaGreatDoorRd29
import Derived.Test.YtfkkodcppaakjaaGreatDoorRd34
import Derived.Test.YtfkkodcppaakjaaGreatDoorRd49
import Derived.Test.YtfkkodcppaakjaaGreatDoorRd50
/- The document's Parse of chapter 3, by its contract. -/
namespace Go.Proofs.YtfkkodcppaakjaaGreatDoor
open Go Go.RowKit

/-- What the document's Parse answers. -/
def ParseRef (s : List UInt8) (W : World) (e : Ending) (w' : World) : Prop := Below W.heap.size W w' ∧
  ((∃ (p : Option Addr) (c : Nat) (l : List Vw), e = .returned (.tuple #[.slice p l.length c, .int .i64 0]) ∧ VwRow w' p l ∧ Spells s l) ∨ ((¬ ∃ l, Spells s l) ∧ e = .returned (.tuple #[.slice none 0 0, .int .i64 4])))
theorem ext_list (T : ByteArray) (a b : Nat) : (T.extract a b).data.toList = (T.data.toList.take b).drop a := by simp [List.drop_take]
theorem byte32 (T : ByteArray) (j : Nat) (h : j < T.size) : ((((T[j]'h).toNat : Int)) == 32) = decide (T[j]'h = 32) := by
  rw [Bool.eq_iff_iff, beq_iff_eq, decide_eq_true_eq, ← UInt8.toNat_inj]
  show _ ↔ (T[j]'h).toNat = 32
  omega
set_option maxRecDepth 100000 in
set_option maxHeartbeats 8000000 in
theorem prParse_any (s : ByteArray) (w : World) (hs : s.size ≤ 1048576) : Calls Tryz.prog 10 #[.string s] w (ParseRef s.data.toList w) := by
  have cC := refCut_row s w hs
  unfold CutRow at cC
  obtain ⟨i0, hi, hz0, hz1, hz2⟩ := info_parts vwInfo
  obtain ⟨hlen, htl⟩ := cut_len s.data.toList
  rw [len_size] at hlen
  have hcut := Lib.hid (none_of_cut (s := s.data.toList))
  have hpiece := Lib.hid (fun k hk h => none_of_piece (s := s.data.toList) (k := k) hk h)
  have hnob := Lib.hid (fun k hk h => none_of_noblank (s := s.data.toList) (k := k) hk h)
  have hfall := Lib.hid (fun k l hk h hr => none_of_fall (s := s.data.toList) (k := k) (l := l) hk h hr)
  have hspell := Lib.hid (fun l hc h hb ho hr => spells_lines (s := s.data.toList) (l := l) hc h hb ho hr)
  have hnok := Lib.hid (fun l h => (spells_of (s := s.data.toList) (l := l) h).2.1)
  have hE4 : cutE s.data.toList = 0 ∨ cutE s.data.toList = 4 := by unfold cutE; split <;> simp
  have HTL := Lib.hid htl
  obtain ⟨ec, hec⟩ : ∃ ec, cutE s.data.toList = ec := ⟨_, rfl⟩
  have HEC := Lib.hid hec
  rw [hec] at cC hE4
  generalize hts : cutL s.data.toList = ts at *
  obtain ⟨n, hn⟩ : ∃ n, ts.length = n := ⟨_, rfl⟩
  have HN := Lib.hid hn
  rw [hn] at hlen cC
  have HSS : Hid (∀ t ∈ ts, t.length ≤ 1048576) := fun t ht => by have := HTL.out t ht; rw [len_size] at this; omega
  have hnn : n ≤ 1048576 := by omega
  obtain ⟨sl, hsl⟩ : ∃ sl, s.data.toList = sl := ⟨_, rfl⟩
  rw [hsl] at hcut hpiece hnob hfall hspell hnok HEC ⊢
  clear htl hec hn hts HTL hsl hlen
  rcases hE4 with rfl | rfl
  rotate_left
  · have hno := Lib.hid (hcut.out (by rw [HEC.out]; decide))
    clear hcut hpiece hnob hfall hspell hnok
    go_enter Tryz.func10, Tryz.ntmps10
    go_wp2_with (first
      | (go_at_call 37; refine cC.mono ?_; rintro e w1 ⟨p1, c1, rfl, hb1, ho1⟩))
    go_ret2
    exact ⟨hb1, .inr ⟨hno.out, rfl⟩⟩
  go_enter Tryz.func10, Tryz.ntmps10
  go_wp2_with (first
    | (go_at_call 37; refine cC.mono ?_; rintro e w1 ⟨p1, c1, rfl, hb1, ho1⟩))
  have hl1 : (asTexts ts).length = n := by unfold asTexts; rw [List.length_map]; exact HN.out
  have hrow : StrRow w1 p1 (asTexts ts) := by
    obtain ⟨p', c', e', hr'⟩ := row_owned (ks := asTexts ts) (by rw [hl1]; exact ho1)
    rw [hl1] at e'
    injection e' with e1 _ _
    rw [e1]; exact hr'
  have hs1 := hb1.size
  have HB1 := Lib.hid hb1
  have HL1 := Lib.hid hl1
  clear cC ho1 hb1 hl1
  clear hcut
  go_loopg [6, 7] n (fun g u vi wr => ∃ (k : Nat) (l : List Vw), k + g = n ∧ vi = .int .i64 k ∧ l.length = k ∧ Below w1.heap.size w1 wr ∧ Hid (Reads (ts.take k) l) ∧ Hid (Rising l) ∧ Hid (∀ t ∈ ts.take k, (32 : UInt8) ∈ t) ∧ Hid (Fit64 l) ∧ Hid (wr.ownsRow w1.heap.size 81 2 u k (flat l)))
  case atStart => exact ⟨0, [], by omega, rfl, rfl, Below.refl _ _, by rw [List.take_zero]; exact Reads.nil, List.Pairwise.nil, fun t h => by simp at h, fit64_nil, World.ownsRow_nil _ _ _ _⟩
  case round =>
    obtain ⟨wo, rfl⟩ : ∃ wo, wo = wr := ⟨_, rfl⟩
    obtain ⟨G, rfl⟩ : ∃ G, G = gk := ⟨_, rfl⟩
    obtain ⟨k, l, hk, rfl, hlk, hbr, HR, HU, H32, HF, HO⟩ := hrel
    have hk0 : (0 : Int) ≤ (k : Int) := by omega
    have hsr := hbr.size
    have HB := Lib.hid hbr
    have HBW := Lib.hid (HB1.out.trans (hbr.mono hs1))
    by_cases hlt : k < n
    · have hlt' : k < ts.length := by rw [HN.out]; exact hlt
      have hkI : (k : Int) < (n : Int) := by omega
      obtain ⟨b1, o1, rfl, h1c⟩ := hrow.at k (by rw [HL1.out]; exact hlt)
      have g1 := h1c wo hbr
      have hat : (asTexts ts)[k]'(by rw [HL1.out]; exact hlt) = bs ts[k] := by simp [asTexts, bs]
      rw [hat] at g1
      have ht5 := HSS.out ts[k] (List.getElem_mem hlt')
      have HP := Lib.hid (hpiece.out k hlt')
      have HNB := Lib.hid (hnob.out k hlt')
      have HST := Lib.hid (fun (a : Nat) (ha : a < 18446744073709551616) (e : textN a = wordAt ts[k]) => (show Reads (ts.take (k + 1)) (l ++ [⟨nameOf ts[k], a⟩]) by rw [List.take_succ_eq_append_getElem hlt']; exact HR.out.snoc ha e))
      have HS32 := Lib.hid (fun (h : (32 : UInt8) ∈ ts[k]) => (show ∀ t ∈ ts.take (k + 1), (32 : UInt8) ∈ t by
        rw [List.take_succ_eq_append_getElem hlt']
        intro t ht
        rw [List.mem_append, List.mem_singleton] at ht
        rcases ht with ht | rfl
        · exact H32.out t ht
        · exact h))
      have HFA := Lib.hid (fun l hr h => hfall.out (k + 1) l (by rw [HN.out]; omega) h hr)
      generalize ts[k] = t at *
      obtain ⟨T, hT⟩ : ∃ T, bs t = T := ⟨_, rfl⟩
      have hTl : T.data.toList = t := by rw [← hT, bs_list]
      have hTs : T.size = t.length := by rw [← hT, bs_size]
      rw [hT] at g1
      subst hTl
      have hT5 : T.size ≤ 1048576 := by omega
      clear hT hTs ht5 hat h1c hbr hpiece hnob hfall hspell hnok HR H32
      go_wp2_with fail
      go_loopg [8] T.size (fun g v wr => ∃ j : Nat, j + g = T.size ∧ v = .int .i64 j ∧ wo = wr ∧ Hid (∀ i (h : i < T.size), i < j → T[i] ≠ 32))
      case atStart => exact ⟨0, by omega, rfl, rfl, fun i _ h => absurd h (Nat.not_lt_zero _)⟩
      case round =>
        obtain ⟨j, hj, rfl, rfl, HNO⟩ := hrel
        have hj0 : (0 : Int) ≤ (j : Int) := by omega
        by_cases hjl : j < T.size
        · have hjI : (j : Int) < (T.size : Int) := by omega
          by_cases hc : T[j] = 32
          · have h1 : ((((T[j]'hjl).toNat : Int)) == 32) = true := by rw [byte32, hc]; rfl
            have h2 : ((((T[j]'hjl).toNat : Int)) != 32) = false := by rw [bne, h1]; rfl
            have hne : ((j : Int) == (T.size : Int)) = false := beq_false_of_ne (by omega)
            obtain ⟨hnm, hwd, hmem⟩ := blank_at (t := T.data.toList) (k := j) (fun i h hij => HNO.out i (by simpa using h) hij) (by simpa using hjl) hc
            have hnmE : T.extract 0 j = bs (nameOf T.data.toList) := WideShapes.bytes_inj (by rw [bs_list, hnm, ext_list, List.drop_zero])
            have hwdE : (T.extract (j + 1) T.size).data.toList = wordAt T.data.toList := by
              rw [hwd, ext_list, List.take_of_length_le (by simp)]
            have hnl : (nameOf T.data.toList).length ≤ 1048576 := by have := nameOf_le T.data.toList; rw [len_size] at this; omega
            have h32 := HS32.out hmem
            have HS32' := Lib.hid h32
            have hj1 : (0 : Int) ≤ (j : Int) + 1 := by omega
            have hj2 : (j : Int) + 1 ≤ (T.size : Int) := by omega
            have cL := prLabel_any (T.extract (j + 1) T.size) wo (by rw [← len_size, hwdE]; have := wordAt_le T.data.toList; rw [len_size] at this; omega)
            rw [hwdE] at cL
            have HNM := Lib.hid hnmE
            clear hc hnm hwd hmem hnmE hwdE h32 HNO HNB HS32
            go_wp2_with fail
            refine cL.mono ?_
            rintro e w2 ⟨hb2, ⟨a, ha, hta, rfl⟩ | ⟨hnolab, av, rfl⟩⟩
            · have hw2 := hb2.size
              have g1' : w2.cell? ⟨b1, o1 + k, none⟩ = some (.string T) := (hb2.cell (p := ⟨b1, o1 + k, none⟩) (World.block_lt_of_cell? wo _ g1)).trans g1
              have HO2 := Lib.hid (ownsAny_later HO.out hb2)
              have HB2 := Lib.hid (HB.out.trans (hb2.mono hsr))
              have HBW2 := Lib.hid (HBW.out.trans (hb2.mono HBW.out.size))
              have HR2 := Lib.hid (HST.out a ha hta)
              have HF2 : Hid (Fit64 (l ++ [⟨nameOf T.data.toList, a⟩])) := fun x hx => by
                rw [List.mem_append, List.mem_singleton] at hx
                rcases hx with hx | rfl
                · exact HF.out x hx
                · exact ⟨ha, by unfold maxLen; show (nameOf T.data.toList).length ≤ _; omega⟩
              have HRS := Lib.hid (fun h => rising_snoc (x := ⟨nameOf T.data.toList, a⟩) HU.out h)
              have HNR := Lib.hid (fun h0 h => HFA.out _ (not_rising (l := l) (x := ⟨nameOf T.data.toList, a⟩) h0 h) HR2.out)
              have hw21 : w1.heap.size ≤ w2.heap.size := by omega
              have ho2 := HO2.out
              clear cL hb2 hta HST HFA HF HP g1 HO HU
              have hnmX : T.extract 0 j = bs (nameOf T.data.toList) := HNM.out
              obtain ⟨nm, hnm⟩ : ∃ nm, nameOf T.data.toList = nm := ⟨_, rfl⟩
              rw [hnm] at hnmX HR2 HF2 HRS HNR hnl
              clear hnm HNM
              by_cases hk00 : k = 0
              · subst hk00
                have hrise : Hid (Rising (l ++ [⟨nm, a⟩])) := HRS.out fun h => absurd h (by omega)
                clear HRS HNR HO2
                go_wp2_with fail
                go_quiet (fail)
                obtain ⟨w3, hw3⟩ : ∃ w3, w2.drewN nq = w3 := ⟨_, rfl⟩
                have hb3 : Below w2.heap.size w2 w3 := by rw [← hw3]; exact below_drewN' (Below.refl _ _) _
                rw [hw3]
                have g1'' : w3.cell? ⟨b1, o1 + 0, none⟩ = some (.string T) := (hb3.cell (p := ⟨b1, o1 + 0, none⟩) (World.block_lt_of_cell? w2 _ g1')).trans g1'
                have ho3 := ownsAny_later ho2 hb3
                have hs3 := hb3.size
                have HB3 := Lib.hid (HB2.out.trans (hb3.mono hw21))
                rw [Nat.add_zero] at g1''
                clear hw3 g1' ho2 hb3 HB2
                go_wp2_with (first
                  | (at_builtin; refine wpList_append_own _ rfl _ _ 28 rfl w1.heap.size 81 i0 (.agg #[.string ⟨#[]⟩, .int .u64 0]) 2 24 Tryz.underlying28 hi hz0 hz1 hz2 rfl (by decide) _ _ _ rfl (ho3.alloc _) ⟨w3.heap.size, 0, none⟩ 1 1 [.string (bs nm), .int .u64 a] rfl rfl ?c1 ?c2 ?c3 ?c4 ?c5 ?_))
                case c1 =>
                  intro j u hj
                  match j, hj with
                  | 0, hj => simp at hj; subst hj; simp [Addr.add]
                  | 1, hj => simp at hj; subst hj; simp [Addr.add]
                case c2 => intro u hu; simp at hu; rcases hu with rfl | rfl <;> rfl
                case c3 => unfold maxLen; omega
                case c4 => omega
                case c5 => simp; omega
                intro u' w4 hown' hgrow _
                have hb4 : Below w1.heap.size w1 w4 := (HB3.out.alloc (by omega) _).grown hgrow (by simp; omega) (fun g hg => (ho3.lt g hg).1)
                have HO4 : Hid (w4.ownsRow w1.heap.size 81 2 u' (0 + 1) (flat (l ++ [⟨nm, a⟩]))) := by
                  show w4.ownsRow _ _ _ _ _ _
                  rw [flat_snoc]; exact hown'
                clear ho3 hown' hgrow g1''
                go_wp2_with fail
                go_roundg (G - 1)
                case rel => exact ⟨0 + 1, _, by omega, by go_num, by simp [hlk], hb4, HR2, hrise, HS32', HF2, HO4⟩
                case measure => omega
              · obtain ⟨k', rfl⟩ : ∃ k', k = k' + 1 := ⟨k - 1, by omega⟩
                obtain ⟨pu, cu, hu, hrowv⟩ := vw_owned hlk ho2
                subst hu
                have hl1 : l.length - 1 = k' := by omega
                have hkl : k' < l.length := by omega
                obtain ⟨b2, o2, rfl, hlt2, v0, v1⟩ := hrowv k' hkl
                have hlast : l[l.length - 1]'(by omega) = l[k'] := by congr 1
                have hRS2 := Lib.hid (fun (h : l[k'].s < nm) => (show Rising (l ++ [⟨nm, a⟩]) from HRS.out fun _ => by rw [hlast]; exact h))
                have hNR2 := Lib.hid (fun (h : ¬ l[k'].s < nm) => HNR.out (by omega) (by rw [hlast]; exact h))
                have hless := prLess l[k'].s nm
                generalize l[k'].s = ls at *
                generalize l[k'].c = lc at *
                have hk0' : (0 : Int) ≤ (k' : Int) := by omega
                have hkp : (0 : Int) < (k' : Int) + 1 := by omega
                clear HRS HNR HO2 hlast hl1 hkl hrowv hk00
                by_cases hls : ls < nm
                · have hrise : Hid (Rising (l ++ [⟨nm, a⟩])) := hRS2.out hls
                  rw [decide_eq_true hls] at hless
                  clear hRS2 hNR2 hls
                  go_wp2_with fail
                  go_quiet (fail)
                  obtain ⟨w3, hw3⟩ : ∃ w3, w2.drewN nq = w3 := ⟨_, rfl⟩
                  have hb3 : Below w2.heap.size w2 w3 := by rw [← hw3]; exact below_drewN' (Below.refl _ _) _
                  rw [hw3]
                  have g1'' : w3.cell? ⟨b1, o1 + (k' + 1), none⟩ = some (.string T) := (hb3.cell (p := ⟨b1, o1 + (k' + 1), none⟩) (World.block_lt_of_cell? w2 _ g1')).trans g1'
                  have ho3 := ownsAny_later ho2 hb3
                  have hs3 := hb3.size
                  have HB3 := Lib.hid (HB2.out.trans (hb3.mono hw21))
                  clear hw3 g1' ho2 hb3 HB2
                  go_wp2_with (first
                    | (at_builtin; refine wpList_append_own _ rfl _ _ 28 rfl w1.heap.size 81 i0 (.agg #[.string ⟨#[]⟩, .int .u64 0]) 2 24 Tryz.underlying28 hi hz0 hz1 hz2 rfl (by decide) _ _ _ rfl (ho3.alloc _) ⟨w3.heap.size, 0, none⟩ 1 1 [.string (bs nm), .int .u64 a] rfl rfl ?d1 ?d2 ?d3 ?d4 ?d5 ?_))
                  case d1 =>
                    intro j u hj
                    match j, hj with
                    | 0, hj => simp at hj; subst hj; simp [Addr.add]
                    | 1, hj => simp at hj; subst hj; simp [Addr.add]
                  case d2 => intro u hu; simp at hu; rcases hu with rfl | rfl <;> rfl
                  case d3 => unfold maxLen; omega
                  case d4 => omega
                  case d5 => simp; omega
                  intro u' w4 hown' hgrow _
                  have hb4 : Below w1.heap.size w1 w4 := (HB3.out.alloc (by omega) _).grown hgrow (by simp; omega) (fun g hg => (ho3.lt g hg).1)
                  have HO4 : Hid (w4.ownsRow w1.heap.size 81 2 u' ((k' + 1) + 1) (flat (l ++ [⟨nm, a⟩]))) := by
                    show w4.ownsRow _ _ _ _ _ _
                    rw [flat_snoc]; exact hown'
                  clear ho3 hown' hgrow g1''
                  go_wp2_with fail
                  go_roundg (G - 1)
                  case rel => exact ⟨(k' + 1) + 1, _, by omega, by go_num, by simp [hlk], hb4, HR2, hrise, HS32', HF2, HO4⟩
                  case measure => omega

                · have hno := hNR2.out hls
                  rw [decide_eq_false hls] at hless
                  clear hRS2 hNR2 hls
                  go_wp2_with fail
                  go_quiet (fail)
                  go_wp2_with fail
                  go_ret2
                  exact ⟨below_drewN' HBW2.out _, .inr ⟨hno, rfl⟩⟩
            · have hno := HP.out hnolab
              have HBW2 := Lib.hid (HBW.out.trans (hb2.mono HBW.out.size))
              clear cL hb2 HST HFA HF HP HO HU
              go_wp2_with fail
              go_quiet (fail)
              go_wp2_with fail
              go_ret2
              exact ⟨below_drewN' HBW2.out _, .inr ⟨hno, rfl⟩⟩
          · have h1 : ((((T[j]'hjl).toNat : Int)) == 32) = false := by rw [byte32]; exact decide_eq_false hc
            have h2 : ((((T[j]'hjl).toNat : Int)) != 32) = true := by rw [bne, h1]; rfl
            have HN2 : Hid (∀ i (h : i < T.size), i < j + 1 → T[i] ≠ 32) := fun i h hij => by
              by_cases e : i = j
              · subst e; exact hc
              · exact HNO.out i h (by omega)
            clear hc HNO HNB HS32 HFA HST HP
            go_wp2_with fail
            go_roundg (gk - 1)
            case rel => exact ⟨j + 1, by omega, by go_num, rfl, HN2⟩
            case measure => omega
        · obtain rfl : j = T.size := by omega
          have heq : ((T.size : Int) == (T.size : Int)) = true := beq_self_eq_true _
          have hno := HNB.out (blank_none fun i h => HNO.out i (by simpa using h) (by simpa using h))
          clear HNO HNB HS32 HFA HST HP
          go_wp2_with fail
          go_ret2
          exact ⟨HBW.out, .inr ⟨hno, rfl⟩⟩
    · obtain rfl : k = n := by omega
      have hall : ts.take k = ts := by rw [← HN.out]; exact List.take_length
      rw [hall] at HR H32
      obtain ⟨p2, c2, hu, hr2⟩ := vw_owned hlk HO.out
      subst hu
      have cN := prNew_any wo p2 k c2 l hlk (by unfold maxLen; omega) hr2 HF.out
      have HOK := Lib.hid (fun ho => hspell.out l HEC.out HR.out H32.out ho HU.out)
      have HNK := Lib.hid (hnok.out l HR.out)
      have HU2 := Lib.hid (sortV_self HU.out)
      have HLK := Lib.hid hlk
      clear hbr hall HO hr2 hpiece hnob hfall hspell hnok HR H32 hlk
      go_wp2_with fail
      refine cN.mono ?_
      rintro e w3 ⟨hb3, ⟨hok, p3, c3, rfl, hr3, _⟩ | ⟨hnokk, rfl⟩⟩
      · have hsp := HOK.out hok
        rw [HU2.out] at hr3
        have HR3 := Lib.hid hr3
        have HSP := Lib.hid hsp
        have HBW3 := Lib.hid (HBW.out.trans (hb3.mono HBW.out.size))
        clear cN hb3 hok hr3 hsp HOK HNK
        go_wp2_with fail
        go_ret2
        exact ⟨HBW3.out, .inl ⟨p3, c3, l, rfl, HR3.out, HSP.out⟩⟩
      · have hno := HNK.out hnokk
        have HBW3 := Lib.hid (HBW.out.trans (hb3.mono HBW.out.size))
        clear cN hb3 hnokk HOK HNK
        go_wp2_with fail
        go_ret2
        exact ⟨HBW3.out, .inr ⟨hno, rfl⟩⟩
end Go.Proofs.YtfkkodcppaakjaaGreatDoor
