/- The document's Joined, by its contract. -/
import Derived.Test.YtbhgeikijifbgaaDoorJoined
import Derived.Laws.IdiomStrings
namespace Go.Proofs.YtbhgeikijifbgaaDoor
open Go.RowKit

/-- A row of bytes that the call owns, as a text. -/
theorem bytes_text {W : World} {B : Nat} {v : Value} {l : List UInt8} (h : W.ownsRow B 5 1 v l.length (Lib.byteCells l)) : (v = .slice none 0 0 ∧ l = []) ∨ ∃ g cap, v = .slice (some ⟨g, 0, none⟩) l.length cap ∧
    (convert 23 9 (.slice (some ⟨g, 0, none⟩) l.length cap)).run Tryd.prog W = .ok (.string ⟨l.toArray⟩) W := by
  rcases h.2 with ⟨hv, h0⟩ | ⟨g, cap, cur, hv, _⟩
  · exact .inl ⟨hv, List.eq_nil_of_length_eq_zero h0⟩
  · refine .inr ⟨g, cap, hv, ?_⟩
    subst hv
    refine run_convert_bytes_back (P := Tryd.prog) W 23 9 5 ⟨g, 0, none⟩ cap l Tryd.underlying23 Tryd.underlying5 Tryd.underlying9 (fun j hj => ?_)
    have hc := h.cellAt j (by omega)
    rw [addr_add, Nat.zero_add, hc]
    unfold Lib.byteCells
    rw [List.getElem?_map, List.getElem?_eq_getElem hj]; rfl

set_option maxRecDepth 100000 in
set_option maxHeartbeats 4000000 in
theorem refJoined_any (w : World) (p : Option Addr) (c : Nat) (ss : List ByteArray) (hr : StrRow w p ss) (hz : sizeOf' ss ≤ 1048576) :
    Calls Tryd.prog 25 #[.slice p ss.length c] w fun e w' => e = .returned (.string ⟨(joinL (listsOf ss)).toArray⟩) ∧ Below w.heap.size w w' := by
  obtain ⟨i0, hi, hz0, hz1, hz2⟩ := info_parts byteInfo
  have hlen := len_le_size ss
  obtain ⟨n, hn⟩ : ∃ n, ss.length = n := ⟨_, rfl⟩
  rw [hn] at hlen ⊢
  have HN := Lib.hid hn
  have hn1 : n ≤ 1048576 := by omega
  have hfin : Hid (joinL (listsOf ss) = joinTo ss n) := by rw [← hn, joinTo_all]; exact (rfl : _ = _)
  generalize joinL (listsOf ss) = fin at *
  clear hn hlen
  go_enter Tryd.func25, Tryd.ntmps25
  go_wp2_with fail
  go_loopw [3, 4] (fun v i wr => ∃ k : Nat, k ≤ n ∧ i = .int .i64 k ∧ Below w.heap.size w wr ∧ wr.ownsRow w.heap.size 5 1 v (joinTo ss k).length (Lib.byteCells (joinTo ss k))) (fun _ i _ => n - (intOf i).toNat)
  case atStart => exact ⟨0, by omega, rfl, Below.refl _ _, World.ownsRow_nil _ _ _ _⟩
  case round =>
    obtain ⟨k, hk, rfl, hbw, hown⟩ := hrel
    by_cases hlt : k < n
    · have hlt' : k < ss.length := by rw [HN.out]; exact hlt
      obtain ⟨b, off, rfl, hcell⟩ := hr.at k hlt'
      have hc := hcell wr hbw
      have hs1 := size_mem ss k hlt'
      have hj := joinTo_len ss k
      have hst := Lib.hid (joinTo_step ss k hlt')
      have hsz := hbw.size
      generalize ss[k] = s at *
      generalize joinTo ss k = l at *
      clear hcell
      go_wp2_with (at_builtin; refine Lib.wpList_append_own_string _ rfl _ _ 23 9 rfl w.heap.size 5 i0 Tryd.underlying23 Tryd.underlying9 hi hz0 hz1 hz2 _ _ _ rfl hown s rfl ?c3 ?c4 ?c5 ?_)
      case c3 => unfold maxLen; omega
      case c4 => omega
      case c5 => omega
      intro v' w2 hown' hgrow _
      have hb2 : Below w.heap.size w w2 := hbw.grown hgrow (by omega) (fun g hg => (hown.lt g hg).1)
      have hown2 : w2.ownsRow w.heap.size 5 1 v' (l ++ s.data.toList).length (Lib.byteCells (l ++ s.data.toList)) := by
        rw [List.length_append, len_size, Lib.byteCells_append, ← Lib.strCells_eq]
        exact hown'
      have hll : (l ++ s.data.toList).length ≤ 4194304 := by rw [List.length_append, len_size]; omega
      have hsz2 := hb2.size
      clear hown hown' hgrow hc
      go_wp2_with (at_builtin; refine wpList_append_own _ rfl _ _ 23 rfl w.heap.size 5 i0 (.int .u8 0) 1 1 Tryd.underlying23 hi hz0 hz1 hz2 rfl (by decide) _ _ _ rfl (hown2.alloc _) ⟨w2.heap.size, 0, none⟩ 1 1 [.int .u8 10] rfl rfl ?d1 ?d2 ?d3 ?d4 ?d5 ?_)
      case d1 =>
        intro j u hj
        match j, hj with
        | 0, hj => simp at hj; subst hj; simp [Addr.add]
      case d2 => intro u hu; simp at hu; subst hu; rfl
      case d3 => unfold maxLen; omega
      case d4 => omega
      case d5 => simp; omega
      intro v3 w3 hown3 hgrow3 _
      have hb3 : Below w.heap.size w w3 := (hb2.alloc (by omega) _).grown hgrow3 (by simp; omega) (fun g hg => (hown2.lt g hg).1)
      have HO : Hid (w3.ownsRow w.heap.size 5 1 v3 (joinTo ss (k + 1)).length (Lib.byteCells (joinTo ss (k + 1)))) := by
        rw [← hst.out, List.length_append, List.length_append, len_size, List.length_singleton, Lib.byteCells_append (l ++ s.data.toList)]
        exact hown3
      clear hown2 hown3 hgrow3
      go_wp2_with fail
      go_roundw
      case rel => exact ⟨k + 1, by omega, by go_num, hb3, HO.out⟩
      case measure => simp [intOf]; omega
    · obtain rfl : n = k := by omega
      rw [← hfin.out] at hown
      rcases bytes_text hown with ⟨rfl, hl⟩ | ⟨g, cap, rfl, hcv⟩
      · have HL := Lib.hid hl
        have hcv : (convert 23 9 (.slice none 0 0)).run Tryd.prog wr = .ok (.string ⟨#[]⟩) wr := by kernel_rfl
        clear hown hl
        go_wp2_with fail
        go_ret
        exact ⟨str_ret (by rw [HL.out]), hbw⟩
      · clear hown
        go_wp2_with fail
        go_ret
        exact ⟨rfl, hbw⟩
end Go.Proofs.YtbhgeikijifbgaaDoor
