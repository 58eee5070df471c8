/- doc.place in a document; Put at the end; New: by contracts. -/
import Derived.Test.YtfkkodcppaakjaaDcApp
import Derived.Test.YtfkkodcppaakjaaDcTakes
namespace Go.Proofs.Ytfkkodcppaakjaa
open Go Go.RowKit Go.Maps

theorem place_end (w : World) (a m frm : Nat) (v : Value) (hc0 : w.cell? ⟨a, 0, none⟩ = some v) (hc1 : w.cell? ⟨a, 1, none⟩ = some (.map (some m))) (hv : (v = .slice none 0 0 ∧ frm = 0) ∨ ∃ g cap, v = .slice (some ⟨g, 0, none⟩) frm cap ∧ frm ≤ cap ∧ cap ≤ maxLen) :
    Calls Try.prog 29 #[.pointer (some ⟨a, 0, none⟩), .int .i64 frm] w fun e w' => e = .returned (.tuple #[]) ∧ w = w' := by
  have hq := dEqlMap m
  have hf0 : (0 : Int) ≤ (frm : Int) := by omega
  rcases hv with ⟨rfl, rfl⟩ | ⟨g, cap, rfl, hcap, hcm⟩
  · go_enter Try.func29, Try.ntmps29
    go_wp2_with fail
    clear hq
    go_loopg [22] 0 (fun _ vi wr => vi = .int .i64 0 ∧ w = wr)
    case atStart => exact ⟨rfl, rfl⟩
    case round =>
      obtain ⟨rfl, rfl⟩ := hrel
      go_wp2_with fail
      go_end0
      exact ⟨rfl, rfl⟩
  · unfold maxLen at hcm
    go_enter Try.func29, Try.ntmps29
    go_wp2_with fail
    all_goals
      clear hq
      go_loopg [22] 0 (fun _ vi wr => vi = .int .i64 0 ∧ w = wr)
      case atStart => exact ⟨rfl, rfl⟩
      case round =>
        obtain ⟨rfl, rfl⟩ := hrel
        go_wp2_with fail
        go_end0
        exact ⟨rfl, rfl⟩
theorem cells_ne_map {w : World} {a m : Nat} {cs : Array Value} {T : TypeId} {z : Nat × Nat} {k : Nat} {f : Nat × Int → Option Nat} (h : w.heap[a]? = some (.cells cs T z)) (hm : PlMap w m k f) : a ≠ m := fun e => by
  obtain ⟨D, ⟨es, clock, hb, _⟩, _⟩ := hm
  rw [e, hb] at h
  cases h
theorem blk_cells {w : World} {a : Nat} {v u : Value} {T : TypeId} (h : w.heap[a]? = some (.cells #[v, u] T (0, 0))) : w.cell? ⟨a, 0, none⟩ = some v ∧ w.cell? ⟨a, 1, none⟩ = some u ∧ w.frozen? ⟨a, 0, none⟩ = false := by
  refine ⟨?_, ?_, ?_⟩ <;> simp [World.cell?, World.frozen?, h]
set_option maxHeartbeats 1000000 in
theorem place_any (w : World) (B a : Nat) (v : Value) (m k frm : Nat) (xs : List Li) (f : Nat × Int → Option Nat) (hblk : w.heap[a]? = some (.cells #[v, .map (some m)] 55 (0, 0))) (ha : B ≤ a) (hrow : w.ownsRow B 26 4 v xs.length (liCells xs)) (hm : B ≤ m) (hmp : PlMap w m k f) (hpt : Part f xs frm) (hnd : (idsOf xs).Nodup) (hok : ∀ x ∈ xs, LiOk x) (hfr : frm ≤ xs.length) (hk : k + xs.length < maxLen) :
    Calls Try.prog 29 #[.pointer (some ⟨a, 0, none⟩), .int .i64 frm] w fun e w' => e = .returned (.tuple #[]) ∧ KeptBut (fun j => j = m) w w' ∧ DocAt w' B a v m (k + xs.length) xs := by
  obtain ⟨hc0, hc1, _⟩ := blk_cells hblk
  have ham := cells_ne_map hblk hmp
  have hlm := hmp.lt
  by_cases hlt : frm < xs.length
  · rcases row_shape rfl hrow with ⟨rfl, rfl⟩ | ⟨g, cap, rfl, hg1, hg2, hcap, hcm, hob, hat⟩
    · simp at hlt
    · have hgm : g ≠ m := by
        rcases hrow.2 with ⟨hv, _⟩ | ⟨g', cap', cur, hv, _, hgg, _⟩
        · cases hv
        · injection hv with e1 _ _
          injection e1 with e1
          injection e1 with e1
          subst e1
          exact cells_ne_map hgg hmp
      refine (place_some w a g m k frm cap xs f ⟨hc0, hc1, hat, hok, hmp, hpt, hnd, ham, hgm, hg2, (Array.getElem?_eq_some_iff.1 hblk).1⟩ hlt hcap hcm hk).mono ?_
      rintro e w' ⟨rfl, hkb, f', hmp', hpt'⟩
      refine ⟨rfl, hkb, (hkb.block a (Array.getElem?_eq_some_iff.1 hblk).1 ham).trans hblk, ha, own_keep hrow fun j hj => hkb.block j (hrow.lt j hj).2 (fun e => ?_), hm, ⟨f', hmp', hpt'⟩, hok⟩
      rw [hob] at hj
      injection hj with hj
      exact hgm (hj.trans e)
  · have e0 : frm = xs.length := by omega
    have hsh : (v = .slice none 0 0 ∧ frm = 0) ∨ ∃ g cap, v = .slice (some ⟨g, 0, none⟩) frm cap ∧ frm ≤ cap ∧ cap ≤ maxLen := by
      rcases row_shape rfl hrow with ⟨h1, h2⟩ | ⟨g, cap, h1, _, _, h2, h3, _⟩
      · exact .inl ⟨h1, by rw [e0, h2]; rfl⟩
      · exact .inr ⟨g, cap, by rw [e0]; exact h1, by omega, h3⟩
    refine (place_end w a m frm v hc0 hc1 hsh).mono ?_
    rintro e w' ⟨rfl, rfl⟩
    obtain ⟨D, ho, hp⟩ := hmp
    exact ⟨rfl, KeptBut.refl _ _, hblk, ha, hrow, hm, ⟨f, ⟨D, ho.mono (Nat.le_add_right _ _), hp⟩, by rw [← e0]; exact hpt⟩, hok⟩

/-- What Put answers. -/
def PutSays (w : World) (B a : Nat) (v : Value) (m k : Nat) (xs ls : List Li) (at' : Nat) (e : Ending) (w' : World) : Prop := KeptBut (docS a v m) w w' ∧
  ((takesB xs ls = true ∧ e = .returned (.int .i64 0) ∧ ∃ v', DocAt w' B a v' m (k + (xs.length + ls.length)) (insL xs at' ls) ∧ ∀ g, v'.ownBlock = some g → v.ownBlock = some g ∨ w.heap.size ≤ g) ∨
   (takesB xs ls = false ∧ e = .returned (.int .i64 50) ∧ Below w.heap.size w w'))
theorem takes_ok {xs ls : List Li} (h : takesB xs ls = true) : (idsOf ls).Nodup ∧ ∀ y ∈ ls, y.id ∉ idsOf xs := by
  unfold takesB at h
  rw [Bool.and_eq_true] at h
  obtain ⟨h1, h2⟩ := h
  refine ⟨tw_none_iff.1 (by simpa using h1), fun y hy hm => ?_⟩
  have : ls.any (notFit xs) = true := List.any_eq_true.2 ⟨y, hy, by unfold notFit; rw [decide_eq_true hm]; rfl⟩
  rw [this] at h2
  cases h2
theorem below_refl' {B : Nat} {w : World} : Below B w w := Below.refl _ _
set_option maxRecDepth 100000 in
set_option maxHeartbeats 4000000 in
/-- Put, whatever Insert does as it should. -/
theorem put_of (w : World) (B a : Nat) (v : Value) (m k : Nat) (xs : List Li) (h : DocAt w B a v m k xs) (at' : Nat) (hat : at' ≤ xs.length) (p : Option Addr) (n c : Nat) (ls : List Li) (hn : ls.length = n) (hr : LiRow w p ls) (hf : ∀ x ∈ ls, LiOk x) (hnm : xs.length + n ≤ 3518437208883) (hk : k + (xs.length + n) < maxLen)
    (hI : ∀ W, Below w.heap.size w W → Calls Try.prog 32 #[v, .int .i64 at', .slice p n c] W (InsSays W B v (xs.length + n) (insL xs at' ls))) :
    Calls Try.prog 23 #[.pointer (some ⟨a, 0, none⟩), .int .i64 at', .slice p n c] w (PutSays w B a v m k xs ls at') := by
  have cT := takes_any w B a v m k xs h p n c ls hn (by unfold maxLen; omega) hr hf
  obtain ⟨hc0, hc1, hf0⟩ := blk_cells h.blk
  have hla := h.lta
  obtain ⟨pv, cv, hv⟩ : ∃ pv cv, v = .slice pv xs.length cv := by
    rcases row_shape rfl h.row with ⟨h1, h2⟩ | ⟨g, cap, h1, _⟩
    · exact ⟨none, 0, by rw [h1, h2]; rfl⟩
    · exact ⟨_, _, h1⟩
  have H := Lib.hid h
  have HI := Lib.hid hI
  have hok := Lib.hid (fun h => takes_ok (xs := xs) (ls := ls) h)
  have HF := Lib.hid hf
  have HN := Lib.hid hn
  obtain ⟨N, hN⟩ : ∃ N, xs.length = N := ⟨_, rfl⟩
  have HNN := Lib.hid hN
  rw [hN] at hat hnm hk hv HI
  have h1 : ¬ ((at' : Int) < 0) := by omega
  have h2 : ¬ ((N : Int) < (at' : Int)) := by omega
  have h3 : (0 : Int) ≤ (at' : Int) := by omega
  clear h hI hf hr hn hN
  cases htk : takesB xs ls with
  | false =>
    rw [htk] at cT
    subst hv
    have HTK := Lib.hid htk
    clear htk hok HI
    go_enter Try.func23, Try.ntmps23
    go_wp2_with (first | (go_at_call 31; refine cT.mono ?_; rintro e w1 ⟨rfl, hb1⟩))
    go_ret
    exact ⟨KeptBut.of_below hb1, .inr ⟨HTK.out, rfl, hb1⟩⟩
  | true =>
    rw [htk] at cT
    obtain ⟨hndl, hdis⟩ := hok.out htk
    have HND : Hid ((idsOf (insL xs at' ls)).Nodup) := by
      obtain ⟨f, _, hq⟩ := H.out.map
      exact ids_ins_nodup at' hq.nodup hndl hdis
    have HTK := Lib.hid htk
    clear htk hok hndl hdis
    subst hv
    go_enter Try.func23, Try.ntmps23
    go_wp2_with fail
    refine cT.mono ?_
    rintro e w1 ⟨rfl, hb1⟩
    have d1 : w1.cell? ⟨a, 0, none⟩ = some (.slice pv N cv) := (hb1.cell (p := ⟨a, 0, none⟩) hla).trans hc0
    have cI := HI.out w1 hb1
    have HB1 := Lib.hid hb1
    have hs1 := hb1.size
    clear cT HI hb1 hc0 hc1 hf0
    go_wp2_with fail
    refine cI.mono ?_
    rintro e w2 ⟨nv, rfl, hrow, hgr, hbk⟩
    obtain ⟨p2, c2, rfl⟩ : ∃ p2 c2, nv = .slice p2 (N + n) c2 := by
      rcases hrow.2 with ⟨hv, h0⟩ | ⟨g, cap, cur, hv, _⟩
      · exact ⟨none, 0, by rw [hv, h0]⟩
      · exact ⟨_, _, hv⟩
    have hD1 := H.out.later HB1.out
    have hla1 : a < w1.heap.size := by omega
    have hne : some a ≠ (Value.slice pv N cv).ownBlock := fun e => by
      rcases hD1.row.2 with ⟨hv, _⟩ | ⟨g', cap', cur, hv, _, hgg, _⟩
      · rw [hv] at e; cases e
      · rw [hv] at e
        injection e with e
        have hbb := hD1.blk
        rw [e, hgg] at hbb
        injection hbb with hbb
        injection hbb with _ hT _
        exact absurd hT (by decide)
    have hblk2 := (hgr.block a hla1 hne).trans hD1.blk
    obtain ⟨e0, e1, f0⟩ := blk_cells hblk2
    have HROW := Lib.hid hrow
    have hgr2 := hgr
    have HBK := Lib.hid hbk
    have HD1 := Lib.hid hD1
    have HBL2 := Lib.hid hblk2
    have HNE := Lib.hid hne
    clear cI d1 hrow hgr hbk hD1 hblk2 e1 hne
    have hs2 := hgr2.size
    go_wp2_with fail
    have hW3 : (w2.setCell ⟨a, 0, none⟩ (.slice p2 (N + n) c2)).heap[a]? = some (.cells #[.slice p2 (N + n) c2, .map (some m)] 55 (0, 0)) := heap_setCell_same w2 a 0 _ _ _ HBL2.out
    have hg3 : w2.grownBy (w2.setCell ⟨a, 0, none⟩ (.slice p2 (N + n) c2)) (some a) := ⟨rfl, rfl, rfl, by simp, fun k _ hk => heap_setCell_other w2 ⟨a, 0, none⟩ k _ (fun e => hk (by simp [e]))⟩
    have hva : (Value.slice p2 (N + n) c2).ownBlock = none ∨ (Value.slice p2 (N + n) c2).ownBlock ≠ some a := by
      refine .inr fun e => ?_
      rcases HROW.out.2 with ⟨hv, _⟩ | ⟨g', cap', cur, hv, _, hgg, _⟩
      · rw [hv] at e; cases e
      · rw [hv] at e
        injection e with e
        have hbb := HBL2.out
        rw [← e, hgg] at hbb
        injection hbb with hbb
        injection hbb with _ hT _
        exact absurd hT (by decide)
    have hrow3 := HROW.out.kept hg3 hva
    obtain ⟨f, hmp, hpt⟩ := HD1.out.map
    have hmg : some m ≠ (Value.slice pv N cv).ownBlock := fun e => by
      obtain ⟨D, ⟨es, clock, hb, _⟩, _⟩ := hmp
      rcases HD1.out.row.2 with ⟨hv, _⟩ | ⟨g', cap', cur, hv, _, hgg, _⟩
      · rw [hv] at e; cases e
      · rw [hv] at e
        injection e with e
        rw [e, hgg] at hb
        cases hb
    have hma : a ≠ m := cells_ne_map HD1.out.blk hmp
    have hmp3 : PlMap (w2.setCell ⟨a, 0, none⟩ (.slice p2 (N + n) c2)) m k f := hmp.keep ((hg3.block m (Nat.lt_of_lt_of_le hmp.lt hs2) (fun e => hma (by injection e with e; exact e.symm))).trans (hgr2.block m hmp.lt hmg))
    have hil : (insL xs at' ls).length = N + n := by rw [insL_len xs ls (by rw [HNN.out]; exact hat), HNN.out, HN.out]
    have hpi : Part f (insL xs at' ls) at' := by
      have := hpt.ins at' (by rw [HNN.out]; exact hat) ls
      exact this
    have hoki : ∀ x ∈ insL xs at' ls, LiOk x := fun x hx => by
      unfold insL at hx
      simp only [List.mem_append] at hx
      rcases hx with (hx | hx) | hx
      · exact HD1.out.ok x (List.mem_of_mem_take hx)
      · exact HF.out x hx
      · exact HD1.out.ok x (List.mem_of_mem_drop hx)
    have cP := place_any (w2.setCell ⟨a, 0, none⟩ (.slice p2 (N + n) c2)) B a (.slice p2 (N + n) c2) m k at' (insL xs at' ls) f hW3 HD1.out.ha (by rw [hil]; exact hrow3) HD1.out.hm hmp3 hpi HND.out hoki (by rw [hil]; omega) (by rw [hil]; exact hk)
    have HIL := Lib.hid hil
    have HHA := HD1.out.ha
    have HG3 := Lib.hid hg3
    have HOWN3 : Hid (∀ g, (Value.slice pv N cv).ownBlock = some g → w.heap.size ≤ g ∨ (docS a (Value.slice pv N cv) m g)) := fun g hg => .inr (.inr (.inl hg))
    clear hW3 hg3 hva hrow3 hmp hpt hmg hma hmp3 hil hpi hoki HROW HBL2 HND
    refine cP.mono ?_
    rintro e w4 ⟨rfl, hkb4, hD4⟩
    have HK4 := Lib.hid hkb4
    have HD4 := Lib.hid hD4
    clear cP hkb4 hD4 e0 f0
    go_wp2_with fail
    go_ret
    refine ⟨?_, .inl ⟨HTK.out, rfl, .slice p2 (N + n) c2, ?_, fun g hg => ?_⟩⟩
    · refine KeptBut.trans ?_ HK4.out (fun j hj => .inl (.inr (.inr hj)))
      refine KeptBut.grown ?_ HG3.out (fun g hg => .inl (.inl (by injection hg with hg; exact hg.symm)))
      refine KeptBut.grown ?_ hgr2 (fun g hg => .inl (.inr (.inl hg)))
      exact KeptBut.of_below HB1.out
    · have := HD4.out
      rw [HIL.out] at this
      rw [HNN.out, HN.out]
      exact this
    · rcases HBK.out g hg with h | h
      · exact .inl h
      · exact .inr (Nat.le_trans hs1 h)
theorem insL_end (xs ls : List Li) : insL xs xs.length ls = xs ++ ls := by simp [insL]
/-- Put at the end. -/
theorem put_end (w : World) (B a : Nat) (v : Value) (m k : Nat) (xs : List Li) (h : DocAt w B a v m k xs) (hB : B ≤ w.heap.size) (p : Option Addr) (n c : Nat) (ls : List Li) (hn : ls.length = n) (hr : LiRow w p ls) (hnil : p = none → n = 0 ∧ c = 0) (hf : ∀ x ∈ ls, LiOk x) (hnm : xs.length + n ≤ 3518437208883) (hk : k + (xs.length + n) < maxLen) :
    Calls Try.prog 23 #[.pointer (some ⟨a, 0, none⟩), .int .i64 (xs.length : Nat), .slice p n c] w (PutSays w B a v m k xs ls xs.length) :=
  put_of w B a v m k xs h xs.length (Nat.le_refl _) p n c ls hn hr hf hnm hk fun W hW => by
    rw [insL_end]
    exact insert_end W B v xs.length xs rfl (h.later hW).row (Nat.le_trans hB hW.size) p n c ls hn (hr.later hW) hnil hnm
end Go.Proofs.Ytfkkodcppaakjaa
