/- strings.Cut at one byte, for texts of any length. -/
import Derived.Test.YtbcfmckhgjcakaaDoorLbBase
import Derived.Test.YtbcfmckhgjcakaaDoorShelf
import Derived.Test.YtbcfmckhgjcakaaDoorIdTextsP
import Derived.Shelf.RegionOpenPlain
import Derived.Shelf.Strings.Search2
import Derived.Lib.IndexLaws
namespace Go.Proofs.YtbcfmckhgjcakaaDoor
open Go Go.RowKit

theorem sliteIndex (s : ByteArray) (c : UInt8) (w : World) : Calls Tryd.prog 44 #[.string s, .string ⟨#[c]⟩] w fun e w' => e = .returned (.int .i64 (Lib.indexByte s.data.toList c)) ∧ w' = w :=
  Any.stringslite_Index_one { Tryd.lays145 with } s c w
set_option maxRecDepth 100000 in
set_option maxHeartbeats 1000000 in
theorem sliteCut (s : ByteArray) (w : World) (hs : s.size ≤ 281474976710656) : Calls Tryd.prog 31 #[.string s, .string ⟨#[35]⟩] w fun e w' => ∃ x y b, e = .returned (.tuple #[.string x, .string y, .bool b]) ∧ CutAs s.data.toList x.data.toList y.data.toList b ∧ ∃ n, w' = w.drewN n := by
  have cI := sliteIndex s 35 w
  have hge := Lib.indexByte_ge s.data.toList 35
  by_cases h0 : Lib.indexByte s.data.toList 35 = -1
  · have hno : Hid (CutAs s.data.toList s.data.toList [] false) := .inr ⟨rfl, rfl, rfl, fun hm => by
      obtain ⟨k, hk⟩ := List.getElem?_of_mem hm
      exact Lib.indexByte_none h0 k hk⟩
    rw [h0] at cI
    clear h0 hge
    go_enter Tryd.func31, Tryd.ntmps31
    go_wp2_with fail
    refine cI.mono ?_
    rintro e w' ⟨rfl, rfl⟩
    go_wp2_with fail
    go_ret3
    exact ⟨_, _, _, rfl, hno.out, 0, rfl⟩
  · obtain ⟨o, ho⟩ : ∃ o : Nat, Lib.indexByte s.data.toList 35 = o := ⟨(Lib.indexByte s.data.toList 35).toNat, by omega⟩
    obtain ⟨h1, h2⟩ := Lib.indexByte_some ho
    have hlt : o < s.size := by
      have := (List.getElem?_eq_some_iff.1 h1).1
      rwa [len_size] at this
    have hyes : Hid (CutAs s.data.toList (s.extract 0 o).data.toList (s.extract (o + 1) s.size).data.toList true) := .inl ⟨rfl, by
      have e1 : (s.extract (o + 1) s.size).data.toList = s.data.toList.drop (o + 1) := by rw [extract_drop]
      rw [extract_upto, e1]
      have e2 : s.data.toList[o]'(by rw [len_size]; exact hlt) = 35 := (List.getElem?_eq_some_iff.1 h1).2
      rw [← e2, ← List.drop_eq_getElem_cons, List.take_append_drop], by
      rw [extract_upto]
      intro hm
      obtain ⟨k, hk, e⟩ := List.mem_take_iff_getElem.1 hm
      exact h2 k (by omega) (by rw [List.getElem?_eq_getElem (by omega), e])⟩
    rw [ho] at cI
    clear h0 hge h1 h2 ho
    have c1 : (0 : Int) ≤ ↑o := by omega
    have c2 : (↑o : Int) ≤ ↑s.size := by omega
    have c3 : (0 : Int) ≤ ↑o + 1 := by omega
    have c4 : (↑o + 1 : Int) ≤ ↑s.size := by omega
    have c5 : (o : Int) + 1 ≤ 9223372036854775807 := by omega
    have mixed : Tryd.prog.follows .mixedOrders = true := by kernel_rfl
    go_enter Tryd.func31, Tryd.ntmps31
    go_wp2_with fail
    refine cI.mono ?_
    rintro e w' ⟨rfl, rfl⟩
    go_wp2_with fail
    go_region_o
    go_wp2
    go_ret3
    exact ⟨_, _, _, rfl, hyes.out, 1, rfl⟩
theorem cut_any (s : ByteArray) (w : World) (hs : s.size ≤ 281474976710656) : Calls Tryd.prog 19 #[.string s, .string ⟨#[35]⟩] w fun e w' => ∃ x y b, e = .returned (.tuple #[.string x, .string y, .bool b]) ∧ CutAs s.data.toList x.data.toList y.data.toList b ∧ ∃ n, w' = w.drewN n := by
  have cC := sliteCut s w hs
  go_enter Tryd.func19, Tryd.ntmps19
  go_wp2_with fail
  refine cC.mono ?_
  rintro e w' ⟨x, y, b, rfl, hc, n, rfl⟩
  have HC := Lib.hid hc
  clear hc cC
  go_wp2_with fail
  go_ret3
  exact ⟨_, _, _, rfl, HC.out, n, rfl⟩
end Go.Proofs.YtbcfmckhgjcakaaDoor
