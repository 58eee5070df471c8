/- The document's Parse, by its contract. -/
import Derived.Test.YtbcfmckhgjcakaaDoorLbScanP
import Derived.Test.YtbcfmckhgjcakaaDoorLbRefText
import Derived.Test.YtbcfmckhgjcakaaDoorLbOf
namespace Go.Proofs.YtbcfmckhgjcakaaDoor
open Go.RowKit

theorem drop_at (s : ByteArray) (k : Nat) (h : k < s.size) : s.data.toList.drop k = s[k] :: s.data.toList.drop (k + 1) := by
  rw [List.drop_eq_getElem_cons (by simpa using h)]; rfl
theorem of_list_row {W : World} {B : Nat} {v : Value} {l : List Nat} (h : W.ownsRow B 3 1 v l.length (ints l)) : ∃ p c, v = .slice p l.length c ∧ NumRow .i64 W p (l.map fun i : Nat => (i : Int)) := by
  obtain ⟨p, c, rfl⟩ := int_owned h
  exact ⟨p, c, rfl, ints_row h⟩

set_option maxRecDepth 100000 in
set_option maxHeartbeats 8000000 in
theorem refParse_any (s : ByteArray) (w : World) (hs : s.size ≤ maxLen) :
    Calls Tryd.prog 22 #[.string s] w fun e w' => ∃ (a : Nat) (er : Int), e = .returned (.tuple #[.int .u64 a, .int .i64 er]) ∧ ReadAs s.data.toList a er ∧ Below w.heap.size w w' := by
  unfold maxLen at hs
  by_cases hd : s = ⟨#[45]⟩
  · subst hd
    go_enter Tryd.func22, Tryd.ntmps22
    go_wp2
    go_ret2
    exact ⟨0, 0, rfl, read_dash, Below.refl _ _⟩
  · have hs45 : s.data.toList ≠ [45] := by
      intro e; apply hd
      cases s with
      | mk d => congr 1; apply Array.toList_inj.1; exact e
    have hne : (s.toList == [45]) = false := by rw [ByteArray.toList_eq]; exact beq_false_of_ne hs45
    have hsl : s.data.toList.length = s.size := by simp
    by_cases hlong : 200 < s.size
    · have hrd := Lib.hid (scan_long (s := s.data.toList) (by rw [hsl]; exact hlong))
      have hli : (200 : Int) < (s.size : Int) := by omega
      clear hs45 hsl hd
      go_enter Tryd.func22, Tryd.ntmps22
      go_wp2
      go_ret2
      exact ⟨0, 4, rfl, hrd.out, Below.refl _ _⟩
    · have hli : ¬ (200 : Int) < (s.size : Int) := by omega
      have hsz : s.size ≤ 200 := by omega
      have HSL := Lib.hid hsl
      have HN := Lib.hid (fun h => scan_none hs45 h)
      have HSM := Lib.hid (fun l h hn => scan_some hs45 (l := l) h hn)
      have HD := Lib.hid (fun k h => drop_at s k h)
      obtain ⟨T, hTe⟩ : ∃ T, scan s.data.toList 0 false [] = T := ⟨_, rfl⟩
      have HT := Lib.hid hTe
      obtain ⟨i0, hi, hz0, hz1, hz2⟩ := info_parts intInfo
      clear hs45 hsl hd hlong hTe
      go_enter Tryd.func22, Tryd.ntmps22
      go_wp2_with fail
      go_loopg [4, 5, 6, 7] (s.size + 2) (fun g v nn sm i wr => ∃ (k n : Nat) (b : Bool) (l : List Nat), k + g = s.size + 2 ∧ k ≤ s.size + 1 ∧ i = .int .i64 k ∧ nn = .int .i64 n ∧ sm = .bool b ∧ n ≤ 99 ∧ l.length ≤ k ∧ Below w.heap.size w wr ∧ Hid (k ≤ s.size → scan (s.data.toList.drop k) n b l = T) ∧ Hid (k = s.size + 1 → T = some l) ∧ Hid (wr.ownsRow w.heap.size 3 1 v l.length (ints l)))
      case atStart => exact ⟨0, 0, false, [], by omega, by omega, rfl, rfl, rfl, by omega, Nat.le_refl _, Below.refl _ _, fun _ => HT.out, fun h => absurd h (by omega), World.ownsRow_nil _ _ _ _⟩
      case round =>
        obtain ⟨k, n, b, l, hk, hk1, rfl, rfl, rfl, hn, hll, hbr, hsc, hfin, ho⟩ := hrel
        have hk0 : (0 : Int) ≤ (k : Int) := Int.natCast_nonneg _
        have hn0 : (0 : Int) ≤ (n : Int) := Int.natCast_nonneg _
        by_cases hend : k = s.size + 1
        · have hT2 := hfin.out hend
          have hle : ¬ (k : Int) ≤ (s.size : Int) := by omega
          obtain ⟨p, c, rfl, hrow⟩ := of_list_row ho.out
          have cO := refOf_any wr p l.length c _ hrow (by rw [List.length_map]) (by omega)
          have hbad := Lib.hid (fun h => HSM.out l (HT.out.trans hT2) h)
          have hwl := ofW_lt (l.map fun i : Nat => (i : Int))
          have hee : ofE (l.map fun i : Nat => (i : Int)) = 0 ∨ ofE (l.map fun i : Nat => (i : Int)) = 1 := by unfold ofE; split <;> simp
          generalize ofW (l.map fun i : Nat => (i : Int)) = a at *
          generalize ofE (l.map fun i : Nat => (i : Int)) = er at *
          clear hsc hfin ho hT2 hend hrow hk1
          go_wp2_with fail
          refine cO.mono ?_
          rintro e w3 ⟨rfl, hb3⟩
          have hbw3 := hbr.trans (hb3.mono hbr.size)
          clear cO hb3
          rcases hee with rfl | rfl
          · have cX := refText_any a w3 hwl
            by_cases htx : textN a = s.data.toList
            · have e : (⟨(textN a).toArray⟩ : ByteArray) = s := by rw [htx]
              rw [e] at cX
              have HR : Hid (ReadAs s.data.toList a 0) := .inl ⟨rfl, hwl, htx⟩
              clear htx e hbad
              go_wp2_with fail
              refine cX.mono ?_
              rintro e w4 ⟨rfl, hb4⟩
              have hbw4 := hbw3.trans (hb4.mono hbw3.size)
              clear cX hb4
              go_wp2_with fail
              go_ret2
              exact ⟨a, 0, rfl, HR.out, hbw4⟩
            · have HR := Lib.hid (hbad.out (.inr htx))
              have hne0 : (⟨(textN a).toArray⟩ : ByteArray) ≠ s := by intro e; apply htx; rw [← e]
              generalize (⟨(textN a).toArray⟩ : ByteArray) = tx at *
              have hne2 : ¬ tx.toList = s.toList := by
                rw [ByteArray.toList_eq, ByteArray.toList_eq]
                intro e; apply hne0
                cases tx with
                | mk d => cases s with
                  | mk d' => congr 1; apply Array.toList_inj.1; exact e
              have hne3 : (tx.toList == s.toList) = false := beq_false_of_ne hne2
              have hne4 : (tx.toList != s.toList) = true := by rw [bne, hne3]; rfl
              clear htx hne0 hne2 hbad
              go_wp2_with fail
              refine cX.mono ?_
              rintro e w4 ⟨rfl, hb4⟩
              have hbw4 := hbw3.trans (hb4.mono hbw3.size)
              clear cX hb4
              go_wp2_with fail
              go_ret2
              exact ⟨0, 4, rfl, HR.out, hbw4⟩
          · have HR := Lib.hid (hbad.out (.inl (by decide)))
            clear hbad
            go_wp2_with fail
            go_ret2
            exact ⟨0, 4, rfl, HR.out, hbw3⟩
        · have hle : (k : Int) ≤ (s.size : Int) := by omega
          by_cases hkz : k = s.size
          · have hkeq : ((k : Int) == (s.size : Int)) = true := beq_iff_eq.2 (by omega)
            have HS : Hid ((if b = false ∨ 63 < n then none else some (l ++ [n])) = T) := by
              show _ = _
              have h := hsc.out (by omega)
              rw [List.drop_eq_nil_of_le (by rw [HSL.out]; omega)] at h
              exact h
            have hkz' : k < s.size + 1 := by omega
            clear hle
            have hle : (k : Int) ≤ (s.size : Int) := by omega
            have LV : Hid (b = false ∨ 63 < n → ReadAs s.data.toList 0 4) := fun h => HN.out (HT.out.trans (by rw [← HS.out, if_pos h]))
            cases b
            · have HR := Lib.hid (LV.out (.inl rfl))
              clear LV hsc hfin HS
              go_wp2_with fail
              go_ret2
              exact ⟨0, 4, rfl, HR.out, hbr⟩
            · by_cases hn63 : 63 < n
              · have HR := Lib.hid (LV.out (.inr hn63))
                have hni : (63 : Int) < (n : Int) := by omega
                clear LV hsc hfin HS
                go_wp2_with fail
                go_ret2
                exact ⟨0, 4, rfl, HR.out, hbr⟩
              · have hni : ¬ (63 : Int) < (n : Int) := by omega
                have HNX := Lib.hid (HS.out.symm.trans (by rw [if_neg (by simp; omega)]))
                have ho' := ho.out
                have hbsz := hbr.size
                clear LV hsc hfin HS ho
                go_wp2_with (at_builtin; refine wpList_append_own _ rfl _ _ 74 rfl w.heap.size 3 i0 (.int .i64 0) 1 8 Tryd.underlying74 hi hz0 hz1 hz2 rfl (by decide) _ _ _ rfl (ho'.alloc _) ⟨wr.heap.size, 0, none⟩ 1 1 [.int .i64 n] rfl rfl ?c1 ?c2 ?c3 ?c4 ?c5 ?_)
                try case c1 => intro j u hj; match j, hj with | 0, hj => simp at hj; subst hj; simp [Addr.add]
                case c2 => first | rfl | (intro u hu; simp at hu; subst hu; rfl)
                case c3 => unfold maxLen; omega
                case c4 => omega
                case c5 => first | omega | (simp; omega)
                intro v' w3 hown' hgrow _
                have hb2 : Below w.heap.size w w3 := (hbr.alloc (by omega) _).grown hgrow (by simp; omega) (fun g hg => (ho'.lt g hg).1)
                have HO : Hid (w3.ownsRow w.heap.size 3 1 v' (l ++ [n]).length (ints (l ++ [n]))) := by
                  show World.ownsRow _ _ _ _ _ _ _
                  rw [List.length_append, List.length_singleton]
                  unfold ints at hown' ⊢
                  rw [List.map_append]
                  exact hown'
                have hll2 : (l ++ [n]).length ≤ k + 1 := by rw [List.length_append, List.length_singleton]; omega
                have HLL := Lib.hid hll2
                clear ho' hown' hgrow hll2
                go_wp2_with fail
                go_roundg (gk - 1)
                case rel => exact ⟨k + 1, 0, false, l ++ [n], by omega, by omega, by go_num, rfl, rfl, by omega, HLL.out, hb2, fun h => absurd h (by omega), fun _ => HNX.out, HO⟩
                case measure => omega
          · have hlt : k < s.size := by omega
            have hkne : ((k : Int) == (s.size : Int)) = false := beq_false_of_ne (by omega)
            have hlti : (k : Int) < (s.size : Int) := by omega
            have hdr := hsc.out (by omega)
            rw [HD.out k hlt, scan] at hdr
            by_cases hc : s[k].toNat = 43
            · have hcb : ((s[k].toNat : Int) == 43) = true := beq_iff_eq.2 (by omega)
              rw [if_pos hc] at hdr
              have HS := Lib.hid hdr
              clear hdr hc
              have LV : Hid (b = false ∨ 63 < n → ReadAs s.data.toList 0 4) := fun h => HN.out (HT.out.trans (by rw [← HS.out, if_pos h]))
              cases b
              · have HR := Lib.hid (LV.out (.inl rfl))
                clear LV hsc hfin HS
                go_wp2_with fail
                go_ret2
                exact ⟨0, 4, rfl, HR.out, hbr⟩
              · by_cases hn63 : 63 < n
                · have HR := Lib.hid (LV.out (.inr hn63))
                  have hni : (63 : Int) < (n : Int) := by omega
                  clear LV hsc hfin HS
                  go_wp2_with fail
                  go_ret2
                  exact ⟨0, 4, rfl, HR.out, hbr⟩
                · have hni : ¬ (63 : Int) < (n : Int) := by omega
                  have HNX := Lib.hid (HS.out.symm.trans (by rw [if_neg (by simp; omega)]))
                  have ho' := ho.out
                  have hbsz := hbr.size
                  clear LV hsc hfin HS ho
                  go_wp2_with (at_builtin; refine wpList_append_own _ rfl _ _ 74 rfl w.heap.size 3 i0 (.int .i64 0) 1 8 Tryd.underlying74 hi hz0 hz1 hz2 rfl (by decide) _ _ _ rfl (ho'.alloc _) ⟨wr.heap.size, 0, none⟩ 1 1 [.int .i64 n] rfl rfl ?d1 ?d2 ?d3 ?d4 ?d5 ?_)
                  try case d1 => intro j u hj; match j, hj with | 0, hj => simp at hj; subst hj; simp [Addr.add]
                  case d2 => first | rfl | (intro u hu; simp at hu; subst hu; rfl)
                  case d3 => unfold maxLen; omega
                  case d4 => omega
                  case d5 => first | omega | (simp; omega)
                  intro v' w3 hown' hgrow _
                  have hb2 : Below w.heap.size w w3 := (hbr.alloc (by omega) _).grown hgrow (by simp; omega) (fun g hg => (ho'.lt g hg).1)
                  have HO : Hid (w3.ownsRow w.heap.size 3 1 v' (l ++ [n]).length (ints (l ++ [n]))) := by
                    show World.ownsRow _ _ _ _ _ _ _
                    rw [List.length_append, List.length_singleton]
                    unfold ints at hown' ⊢
                    rw [List.map_append]
                    exact hown'
                  have hll2 : (l ++ [n]).length ≤ k + 1 := by rw [List.length_append, List.length_singleton]; omega
                  have HLL := Lib.hid hll2
                  clear ho' hown' hgrow hll2
                  go_wp2_with fail
                  go_roundg (gk - 1)
                  case rel => exact ⟨k + 1, 0, false, l ++ [n], by omega, by omega, by go_num, rfl, rfl, by omega, HLL.out, hb2, fun _ => HNX.out.symm, fun h => absurd h (by omega), HO⟩
                  case measure => omega
            · have hcb : ((s[k].toNat : Int) == 43) = false := beq_false_of_ne (by omega)
              rw [if_neg hc] at hdr
              have HS := Lib.hid hdr
              clear hdr hc
              have LV : Hid (s[k].toNat < 48 ∨ 57 < s[k].toNat ∨ 9 < n → ReadAs s.data.toList 0 4) := fun h => HN.out (HT.out.trans (by rw [← HS.out, if_pos h]))
              by_cases h1 : s[k].toNat < 48
              · have h1i : (s[k].toNat : Int) < 48 := by omega
                have HR := Lib.hid (LV.out (.inl h1))
                clear LV hsc hfin HS
                go_wp2_with fail
                go_ret2
                exact ⟨0, 4, rfl, HR.out, hbr⟩
              · have h1i : ¬ (s[k].toNat : Int) < 48 := by omega
                by_cases h2 : 57 < s[k].toNat
                · have h2i : (57 : Int) < (s[k].toNat : Int) := by omega
                  have HR := Lib.hid (LV.out (.inr (.inl h2)))
                  clear LV hsc hfin HS
                  go_wp2_with fail
                  go_ret2
                  exact ⟨0, 4, rfl, HR.out, hbr⟩
                · have h2i : ¬ (57 : Int) < (s[k].toNat : Int) := by omega
                  by_cases h3 : 9 < n
                  · have h3i : (9 : Int) < (n : Int) := by omega
                    have HR := Lib.hid (LV.out (.inr (.inr h3)))
                    clear LV hsc hfin HS
                    go_wp2_with fail
                    go_ret2
                    exact ⟨0, 4, rfl, HR.out, hbr⟩
                  · have h3i : ¬ (9 : Int) < (n : Int) := by omega
                    have HNX := Lib.hid (HS.out.symm.trans (by rw [if_neg (by omega)]))
                    have hcc : ((n * 10 + (s[k].toNat - 48) : Nat) : Int) = (n : Int) * 10 + ((s[k].toNat : Int) - 48) := by omega
                    have HCC := Lib.hid hcc
                    have h99 : n * 10 + (s[k].toNat - 48) ≤ 99 := by omega
                    clear LV hsc hfin HS hcc
                    go_wp2_with fail
                    go_roundg (gk - 1)
                    case rel => exact ⟨k + 1, n * 10 + (s[k].toNat - 48), true, l, by omega, by omega, by go_num, by rw [HCC.out], rfl, h99, by omega, hbr, fun _ => HNX.out.symm, fun h => absurd h (by omega), ho⟩
                    case measure => omega
end Go.Proofs.YtbcfmckhgjcakaaDoor
