/- The document's Parse of identities, by its contract. -/
import Derived.Test.YtbcfmckhgjcakaaDoorIdParse
import Derived.Test.YtbcfmckhgjcakaaDoorLbRefParse
import Derived.Test.YtbcfmckhgjcakaaDoorReads
namespace Go.Proofs.YtbcfmckhgjcakaaDoor
open Go Go.RowKit

theorem quiet_below {w w' : World} (h : Quiet w w') : Below w.heap.size w w' := by
  obtain ⟨n, rfl⟩ := h
  exact belowDN (Below.refl _ _) n
/-- Up to place k no '#'. -/
theorem no35_step (s : ByteArray) (k : Nat) (h : k < s.size) (hn : (35 : UInt8) ∉ s.data.toList.take k) (hb : s[k] ≠ 35) : (35 : UInt8) ∉ s.data.toList.take (k + 1) := by
  rw [take_snoc s k h, List.mem_append, List.mem_singleton]
  rintro (h | h)
  · exact hn h
  · exact hb h.symm
theorem cut_at (s : ByteArray) (k : Nat) (h : k < s.size) (hn : (35 : UInt8) ∉ s.data.toList.take k) (hb : s[k] = 35) : CutAs s.data.toList (s.extract 0 k).data.toList (s.extract (k + 1) s.size).data.toList true := .inl ⟨rfl, by
  have e1 : (s.extract (k + 1) s.size).data.toList = s.data.toList.drop (k + 1) := by rw [extract_drop]
  rw [extract_upto, e1, ← hb, ← drop_cons s k h, List.take_append_drop], by rw [extract_upto]; exact hn⟩
set_option maxRecDepth 100000 in
set_option maxHeartbeats 2000000 in
theorem refParse_id (s : ByteArray) (w : World) (hs : s.size ≤ 281474976710656) :
    Calls Tryd.prog 7 #[.string s] w fun e w' => ∃ (a : Nat) (n er : Int), e = .returned (.tuple #[.int .u64 a, .int .i64 n, .int .i64 er]) ∧ IdReads s.data.toList a n er ∧ Below w.heap.size w w' := by
  go_enter Tryd.func7, Tryd.ntmps7
  go_wp2_with fail
  go_loopg [5] s.size (fun g vi wr => ∃ k : Nat, k + g = s.size ∧ vi = .int .i64 k ∧ Hid ((35 : UInt8) ∉ s.data.toList.take k) ∧ Below w.heap.size w wr)
  case atStart => exact ⟨0, by omega, rfl, by simp [Hid], Below.refl _ _⟩
  case round =>
    obtain ⟨k, hk, rfl, hno, hbr⟩ := hrel
    have hk0 : (0 : Int) ≤ (k : Int) := by omega
    by_cases hlt : k < s.size
    · have hkI : (k : Int) < (s.size : Int) := by omega
      by_cases hb : s[k] = 35
      · have hq : ((s[k].toNat : Int) != 35) = false := by rw [hb]; rfl
        have hc := cut_at s k hlt hno.out hb
        have c2 : (k : Int) ≤ s.size := by omega
        have c3 : (0 : Int) ≤ (k : Int) + 1 := by omega
        have c4 : (k : Int) + 1 ≤ s.size := by omega
        have c5 : (k : Int) + 1 ≤ 9223372036854775807 := by omega
        have cL := refParse_any (s.extract 0 k) wr (by
          have := (cutAs_len hc).1
          rw [len_size, len_size] at this
          unfold maxLen; omega)
        have hyl : (s.extract (k + 1) s.size).size ≤ maxLen := by
          have := (cutAs_len hc).2
          rw [len_size, len_size] at this
          unfold maxLen; omega
        have HC := Lib.hid hc
        have HB := Lib.hid hbr
        clear hc hb hno hbr
        go_wp2_with fail
        refine cL.mono ?_
        rintro e w2 ⟨a, er, rfl, hra, hb2⟩
        have HB2 := Lib.hid (HB.out.trans (hb2.mono HB.out.size))
        have cR := refRead_any (s.extract (k + 1) s.size) w2 hyl
        have HRA := Lib.hid hra
        clear cL hra hb2 HB
        obtain ⟨y, hy⟩ : ∃ y, (s.extract (k + 1) s.size).data.toList = y := ⟨_, rfl⟩
        rw [hy] at cR
        have HY := Lib.hid hy
        clear hy
        go_wp2_with fail
        refine cR.mono ?_
        rintro e w3 ⟨rfl, hq3⟩
        have hb3 := quiet_below hq3
        have HB3 := Lib.hid (HB2.out.trans (hb3.mono HB2.out.size))
        clear cR hb3 hq3 HB2
        have HC2 : Hid (CutAs s.data.toList (s.extract 0 k).data.toList y true) := by rw [← HY.out]; exact HC
        by_cases her : er = 0
        · subst her
          by_cases hrE : readE y = 0
          · have HE := Lib.hid hrE
            rw [hrE]
            by_cases hlow : readN y < 1
            · have hr := Lib.hid (ref_bad_low HC2.out hlow)
              generalize readN y = v at *
              clear hrE
              go_wp2_with fail
              go_ret3
              exact ⟨0, 0, 4, rfl, hr.out, HB3.out⟩
            · have hr := Lib.hid (ref_good HC2.out HRA.out hrE (by omega))
              have hge : 1 ≤ readN y := by omega
              generalize readN y = v at *
              clear hrE
              clear hge
              dsimp only
              go_wp2_with fail
              go_ret3
              exact ⟨a, v, 0, rfl, hr.out, HB3.out⟩
          · have hr := Lib.hid (ref_bad_num HC2.out hrE)
            have hne : (readE y != 0) = true := by rw [bne, beq_false_of_ne hrE]; rfl
            generalize readN y = v at *
            generalize readE y = ee at *
            clear hrE
            go_wp2_with fail
            go_ret3
            exact ⟨0, 0, 4, rfl, hr.out, HB3.out⟩
        · have hr := Lib.hid (id_bad_label HC2.out HRA.out her)
          have hne : (er != 0) = true := by rw [bne, beq_false_of_ne her]; rfl
          generalize readN y = v at *
          generalize readE y = ee at *
          clear her
          go_wp2_with fail
          go_ret3
          exact ⟨0, 0, 4, rfl, hr.out, HB3.out⟩
      · have hq : ((s[k].toNat : Int) != 35) = true := by
          rw [bne, beq_false_of_ne]
          · rfl
          · intro e
            apply hb
            rw [← UInt8.toNat_inj]
            show s[k].toNat = 35
            omega
        have hn := Lib.hid (no35_step s k hlt hno.out hb)
        have HB := Lib.hid hbr
        clear hb hno hbr
        go_wp2_with fail
        go_roundg (gk - 1)
        case rel => exact ⟨k + 1, by omega, by go_num, hn, HB.out⟩
        case measure => omega
    · obtain rfl : k = s.size := by omega
      have hr := Lib.hid (id_long (l := s.data.toList) (by have := hno.out; rwa [take_all] at this))
      have hkI : ¬ ((s.size : Int) < (s.size : Int)) := by omega
      clear hno
      go_wp2_with fail
      go_ret3
      exact ⟨0, 0, 4, rfl, hr.out, hbr⟩
end Go.Proofs.YtbcfmckhgjcakaaDoor
