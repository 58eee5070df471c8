/- view.Of, view.Hidden, view.Places, by their contracts. -/
import Derived.Test.YtdpikdkhemhmdaaViThose
import Derived.Test.YtdpikdkhemhmdaaNumCopy
namespace Go.Proofs.Ytdpikdkhemhmdaa
open Go Go.RowKit Go.Shelf

attribute [local go_sem] Oper.semAt_some

/-- Lines handed out, in a row of the call's own. -/
def GivesLi (w : World) (ys : List Li) (e : Ending) (w' : World) : Prop := Below w.heap.size w w' ∧ ∃ p c, e = .returned (.slice p ys.length c) ∧ LiRow w' p ys ∧ w'.ownsRow w.heap.size 26 4 (.slice p ys.length c) ys.length (liCells ys)
theorem gives_of {w w' : World} {ys : List Li} {e : Ending} {B : Nat} (hB : w.heap.size ≤ B) (hb : Below w.heap.size w w') (h : ∃ v, e = .returned v ∧ w'.ownsRow B 26 4 v ys.length (liCells ys)) : GivesLi w ys e w' := by
  obtain ⟨v, he, ho⟩ := h
  obtain ⟨p, c, rfl, hr⟩ := li_owned rfl ho
  exact ⟨hb, p, c, he, hr, base_le ho hB⟩
theorem of_any (w : World) (p : Option Addr) (n c : Nat) (xs : List Li) (hn : xs.length = n) (hnm : n ≤ 3518437208883) (hr : LiRow w p xs) (hok : ∀ x ∈ xs, x.u < 18446744073709551616) (a : Nat) (ha : a < 18446744073709551616) :
    Calls Try.prog 12 #[.slice p n c, .int .u64 a] w (GivesLi w (xs.filter (seenB a))) := by
  have cS := seenBy_any a w
  have hb := (Below.refl w.heap.size w).alloc (Nat.le_refl _) (.cells #[.int .u64 a] 24)
  have hbx := Boxed.new w 24 (.int .u64 a)
  have cT := those_any (w.alloc (.cells #[.int .u64 a] 24)) p n c xs hn hnm (hr.later hb) hok 65 #[.pointer (some ⟨w.heap.size, 0, none⟩)] (seenB a) (fun W => Boxed W w.heap.size 24 (.int .u64 a)) eg_seen (fun W hW => (hW.block _ hbx.lt).trans hbx) (askSeen w.heap.size a ha)
  have HB := Lib.hid hb
  clear hn hr hok hb hbx
  go_enter Try.func12, Try.ntmps12
  go_wp2_with (first
    | (go_at_call 46; refine cS.mono ?_; rintro e w' ⟨rfl, rfl⟩)
    | (go_at_call 45; refine cT.mono ?_; rintro e w2 ⟨hb2, v, rfl, ho⟩))
  go_ret
  exact gives_of (B := (w.alloc (.cells #[.int .u64 a] 24)).heap.size) (by simp) (HB.out.trans (hb2.mono (by simp))) ⟨v, rfl, ho⟩
theorem hidden_any (w : World) (p : Option Addr) (n c : Nat) (xs : List Li) (hn : xs.length = n) (hnm : n ≤ 3518437208883) (hr : LiRow w p xs) (hok : ∀ x ∈ xs, x.u < 18446744073709551616) (a : Nat) (ha : a < 18446744073709551616) :
    Calls Try.prog 13 #[.slice p n c, .int .u64 a] w (GivesLi w (xs.filter fun x => !seenB a x)) := by
  have hb := (Below.refl w.heap.size w).alloc (Nat.le_refl _) (.cells #[.int .u64 a] 24)
  have hbx := Boxed.new w 24 (.int .u64 a)
  have cT := those_any (w.alloc (.cells #[.int .u64 a] 24)) p n c xs hn hnm (hr.later hb) hok 47 #[.pointer (some ⟨w.heap.size, 0, none⟩)] (fun x => !seenB a x) (fun W => Boxed W w.heap.size 24 (.int .u64 a)) eg_hidden (fun W hW => (hW.block _ hbx.lt).trans hbx) (askHidden w.heap.size a ha)
  have HB := Lib.hid hb
  clear hn hr hok hb hbx
  go_enter Try.func13, Try.ntmps13
  go_wp2_with (first
    | (go_at_call 45; refine cT.mono ?_; rintro e w2 ⟨hb2, v, rfl, ho⟩))
  go_ret
  exact gives_of (B := (w.alloc (.cells #[.int .u64 a] 24)).heap.size) (by simp) (HB.out.trans (hb2.mono (by simp))) ⟨v, rfl, ho⟩
theorem intInfo : (Try.prog.info? 3).map (fun i => (i.zero, i.size, i.bytes)) = some (some (.int .i64 0), 1, 8) := by kernel_rfl
/-- Numbers handed out, in a row of the call's own. -/
def GivesNums (w : World) (ps : List Int) (e : Ending) (w' : World) : Prop := Below w.heap.size w w' ∧ ∃ p c, e = .returned (.slice p ps.length c) ∧ NumRow .i64 w' p ps ∧ w'.ownsRow w.heap.size 3 1 (.slice p ps.length c) ps.length (nums .i64 ps)
set_option maxRecDepth 100000 in
set_option maxHeartbeats 4000000 in
theorem places_any (w : World) (p : Option Addr) (n c : Nat) (xs : List Li) (hn : xs.length = n) (hnm : n ≤ 3518437208883) (hr : LiRow w p xs) (hok : ∀ x ∈ xs, x.u < 18446744073709551616) (a : Nat) (ha : a < 18446744073709551616) :
    Calls Try.prog 14 #[.slice p n c, .int .u64 a] w (GivesNums w (places (seenB a) xs)) := by
  obtain ⟨i0, hi, hz0, hz1, hz2⟩ := info_parts intInfo
  have cS := fun W => seenBy_any a W
  have cW := fun W => where_any p n c 65 #[.pointer (some ⟨w.heap.size + 1, 0, none⟩)] W
  refine (callsIn_wide (n := 6)).1 ?_
  refine callsIn_of_wp_marks Try.func14 rfl trivial ?_ rfl
  simp only [Try.ntmps14, List.size_toArray, List.length_cons, List.length_nil, Nat.reduceAdd, Nat.reduceSub, Array.replicate_succ, Array.replicate_zero, List.push_toArray, List.append_toArray, List.nil_append, List.cons_append]
  have HN := Lib.hid hn
  have HR := Lib.hid hr
  have HK := Lib.hid hok
  clear hn hr hok
  gi_wp2
  refine ⟨trivial, (callsIn_wide.2 (cS _)).mono ?_⟩
  rintro e w1 ⟨rfl, rfl⟩
  clear cS
  simp only [World.size_alloc]
  gi_wp2
  refine ⟨trivial, (callsIn_wide.2 (cW _)).mono ?_⟩
  rintro e w1 ⟨rfl, rfl⟩
  clear cW
  have bO := (((Boxed.new w 28 (.slice none 0 0)).alloc (.cells #[.int .u64 a] 24)).alloc (.cells #[.slice p n c] 22)).alloc (.cells #[.func (.func 65) #[] #[.pointer (some ⟨w.heap.size + 1, 0, none⟩)]] 62)
  have bS := ((Boxed.new (w.alloc (.cells #[.slice none 0 0] 28)) 24 (.int .u64 a)).alloc (.cells #[.slice p n c] 22)).alloc (.cells #[.func (.func 65) #[] #[.pointer (some ⟨w.heap.size + 1, 0, none⟩)]] 62)
  have bL := (Boxed.new ((w.alloc (.cells #[.slice none 0 0] 28)).alloc (.cells #[.int .u64 a] 24)) 22 (.slice p n c)).alloc (.cells #[.func (.func 65) #[] #[.pointer (some ⟨w.heap.size + 1, 0, none⟩)]] 62)
  have bQ := Boxed.new (((w.alloc (.cells #[.slice none 0 0] 28)).alloc (.cells #[.int .u64 a] 24)).alloc (.cells #[.slice p n c] 22)) 62 (.func (.func 65) #[] #[.pointer (some ⟨w.heap.size + 1, 0, none⟩)])
  simp only [World.size_alloc] at bS bL bQ
  have hB0 : Below w.heap.size w ((((w.alloc (.cells #[.slice none 0 0] 28)).alloc (.cells #[.int .u64 a] 24)).alloc (.cells #[.slice p n c] 22)).alloc (.cells #[.func (.func 65) #[] #[.pointer (some ⟨w.heap.size + 1, 0, none⟩)]] 62)) := ((((Below.refl _ w).alloc (Nat.le_refl _) _).alloc (by simp) _).alloc (by simp; omega) _).alloc (by simp; omega) _
  have hsz : ((((w.alloc (.cells #[.slice none 0 0] 28)).alloc (.cells #[.int .u64 a] 24)).alloc (.cells #[.slice p n c] 22)).alloc (.cells #[.func (.func 65) #[] #[.pointer (some ⟨w.heap.size + 1, 0, none⟩)]] 62)).heap.size = w.heap.size + 4 := by simp
  simp only [World.size_alloc]
  gi_wp2
  obtain ⟨W0, hW0⟩ : ∃ W0, (((w.alloc (.cells #[.slice none 0 0] 28)).alloc (.cells #[.int .u64 a] 24)).alloc (.cells #[.slice p n c] 22)).alloc (.cells #[.func (.func 65) #[] #[.pointer (some ⟨w.heap.size + 1, 0, none⟩)]] 62) = W0 := ⟨_, rfl⟩
  rw [hW0] at bO bS bL bQ hB0 hsz ⊢
  clear hW0
  have hat : ∀ i (h : i < xs.length), ∃ b off, p = some ⟨b, off, none⟩ ∧ b < W0.heap.size ∧ b ≠ w.heap.size ∧ LiAt W0 b (off + i * 4) xs[i] := fun i hi => by
    obtain ⟨b, off, e, hlt, hc⟩ := HR.out i hi
    exact ⟨b, off, e, by omega, by omega, hc.below hB0 hlt⟩
  have hask : AsksL 65 #[.pointer (some ⟨w.heap.size + 1, 0, none⟩)] (seenB a) (KeepX w.heap.size W0.heap.size W0) := fun x W hx hW => askSeen (w.heap.size + 1) a ha x W hx ((hW.block (w.heap.size + 1) (by omega) (by omega)).trans bS)
  refine wpIn_rangeFunc_ownG (N := n) rfl (by decide) (gf := 66) (lb := #[.pointer (some ⟨w.heap.size + 1 + 1, 0, none⟩), .pointer (some ⟨w.heap.size + 1 + 1 + 1, 0, none⟩)]) rfl trivial (enters_of Try.func66 (by kernel_rfl) rfl)
    (where_stops 5 (by decide) (w.heap.size + 1 + 1) (w.heap.size + 1 + 1 + 1) p n c xs HN.out hnm 65 #[.pointer (some ⟨w.heap.size + 1, 0, none⟩)] (seenB a) w.heap.size W0 eg_seen hask HK.out bL.cell (by omega) bQ.cell (by omega) (by omega) hat) keepX_t (keepX_b (Nat.le_refl _)) (Below.refl _ _) (fun _ => rfl)
    (fun pre W => (∃ v, Boxed W w.heap.size 28 v ∧ W.ownsRow W0.heap.size 3 1 v pre.length (nums .i64 (pre.map (·.i))) ∧ True) ∧ Below w.heap.size W0 W)
    (fun _ _ _ => False)
    (OwnFrom.and (Own.from (holdsRow_own W0.heap.size w.heap.size 28 3 1 (fun pre : List Ent => pre.length) (fun pre => nums .i64 (pre.map (·.i))) (fun _ _ => True)) _) (ownFrom_below (by omega) (by omega)))
    (fun _ _ _ _ _ hs _ _ => hs)
    ⟨⟨_, bO, World.ownsRow_nil _ _ _ _, trivial⟩, Below.refl _ _⟩
    (fun y => { tmps := #[.slice p n c, .int .u64 a, undef, undef, .slice none 0 0, .pointer (some ⟨w.heap.size, 0, none⟩), .int .i64 y.i, .slice p n c, .int .u64 a, .func (.func 65) #[] #[.pointer (some ⟨w.heap.size + 1, 0, none⟩)], .func (.func 66) #[] #[.pointer (some ⟨w.heap.size + 1 + 1, 0, none⟩), .pointer (some ⟨w.heap.size + 1 + 1 + 1, 0, none⟩)], .int .i64 y.i, y.x.agg, undef, undef, undef, undef, undef], defers := [] })
    ?assign ?body ?done ?stop
  case assign =>
    intro l y W K hK
    unfold encE
    gi_wp2
    exact hK
  case body =>
    rintro l pre y W ⟨⟨v, hv, hrow, _⟩, hB⟩ hlt
    have hc := hv.cell
    have hBs := hB.size
    gi_wp2_with (gi_at_builtin; refine wpListIn_append_own _ rfl _ _ 28 rfl W0.heap.size 3 i0 (.int .i64 0) 1 8 Try.underlying28 hi hz0 hz1 hz2 rfl (by decide) _ _ _ rfl (hrow.alloc _) ⟨W.heap.size, 0, none⟩ 1 1 [.int .i64 y.i] rfl rfl (cell_one_new _ _ _) (by simp [Value.oneCell']) (by unfold maxLen; omega) (by omega) (by simp; omega) ?_; intro v' w1 hown' hgrow _; obtain ⟨g', cap', rfl⟩ := ownsRow_succ hown'; obtain ⟨hv1, hv2, hr2, hk2, hb2⟩ := hv.appended (by decide) (base_le hrow (show w.heap.size ≤ W0.heap.size by omega)) (by omega) (Nat.le_refl _) (base_le hown' (show w.heap.size ≤ W0.heap.size by omega)) hgrow; have hx2 := keepX_appended (B := w.heap.size) (u := .slice (some ⟨g', 0, none⟩) (pre.length + 1) cap') hgrow hrow hBs; have hc1 := hv1.cell; have hf1 := hv1.frozen)
    have hr3 := hown'.kept (grownBy_setCell' w1 w.heap.size (.slice (some ⟨g', 0, none⟩) (pre.length + 1) cap')) (.inr (hv1.not_row (by decide) hown').symm)
    refine ⟨hk2.from _, hx2, ⟨_, hv2, ?_, trivial⟩, hB.trans hb2⟩
    rw [List.map_append, List.map_cons, List.map_nil, List.length_append]
    unfold nums at hr3 ⊢
    rw [List.map_append]
    exact hr3
  case done =>
    rintro D ys W hD rfl ⟨⟨v, hv, hrow, _⟩, hB⟩ hK
    have hc := hv.cell
    gi_wp2
    refine ⟨by simp, .inl ⟨_, _, rfl, run_takeDeferred hK, ?_⟩⟩
    rw [show (entF (seenB a) xs).length = (places (seenB a) xs).length by unfold places; rw [List.length_map]] at hrow
    have hrow2 := ownsRow_putObj hrow (.deferred none) hK rfl
    obtain ⟨p1, c1, rfl⟩ := own_slice hrow2
    exact ⟨_, results_tmp rfl _ _ _, (hB0.trans hB).trans (belowK_b (w := w) (Nat.le_refl _) W D _ _ (by omega) hK rfl rfl), p1, c1, rfl, nums_row' hrow2, base_le hrow2 (by omega)⟩
  case stop =>
    rintro D c pre W _ _ h _
    exact h.elim
end Go.Proofs.Ytdpikdkhemhmdaa
