/- Texts of the proof, merged: PoAsk. -/
import Derived.Test.YtfkkodcppaakjaaGreatDoorRd15
import Derived.Test.YtfkkodcppaakjaaGreatDoorRd19
/- policy's Viewers, Below, Above, Erase, Clearance, names, by their contracts. -/
namespace Go.Proofs.YtfkkodcppaakjaaGreatDoor
open Go Go.RowKit Go.Maps

theorem askAll (w : World) : Asks 91 #[] (fun _ => true) w := fun a W _ _ => by
  show Calls Tryz.prog 91 #[.int .u64 a] W _
  go_enter Tryz.func91, Tryz.ntmps91
  go_wp2
  go_ret
  exact ⟨rfl, Below.refl _ _⟩
theorem askBelow (w : World) (B c : Nat) (hB : B < w.heap.size) (hc : w.cell? ⟨B, 0, none⟩ = some (.int .u64 c)) (h64 : c < 18446744073709551616) : Asks 135 #[.pointer (some ⟨B, 0, none⟩)] (fun a => belowB a c) w := fun a W ha hb => by
  show Calls Tryz.prog 135 #[.int .u64 a, .pointer (some ⟨B, 0, none⟩)] W _
  have h0 : W.cell? ⟨B, 0, none⟩ = some (.int .u64 c) := (hb.cell (p := ⟨B, 0, none⟩) hB).trans hc
  have cB := below_any a c W ha h64
  clear hb hc
  go_enter Tryz.func135, Tryz.ntmps135
  go_wp2_with (go_at_call 136; refine cB.mono ?_; rintro e w' ⟨rfl, rfl⟩)
  go_ret
  exact ⟨rfl, Below.refl _ _⟩
theorem askAbove (w : World) (B c : Nat) (hB : B < w.heap.size) (hc : w.cell? ⟨B, 0, none⟩ = some (.int .u64 c)) (h64 : c < 18446744073709551616) : Asks 137 #[.pointer (some ⟨B, 0, none⟩)] (fun a => belowB c a) w := fun a W ha hb => by
  show Calls Tryz.prog 137 #[.int .u64 a, .pointer (some ⟨B, 0, none⟩)] W _
  have h0 : W.cell? ⟨B, 0, none⟩ = some (.int .u64 c) := (hb.cell (p := ⟨B, 0, none⟩) hB).trans hc
  have cB := below_any c a W h64 ha
  clear hb hc
  go_enter Tryz.func137, Tryz.ntmps137
  go_wp2_with (go_at_call 136; refine cB.mono ?_; rintro e w' ⟨rfl, rfl⟩)
  go_ret
  exact ⟨rfl, Below.refl _ _⟩
theorem mkBelow_any (c : Nat) (w : World) : Calls Tryz.prog 93 #[.int .u64 c] w fun e w' => e = .returned (.func (.func 135) #[] #[.pointer (some ⟨w.heap.size, 0, none⟩)]) ∧ w' = w.alloc (.cells #[.int .u64 c] 23) := by
  go_enter Tryz.func93, Tryz.ntmps93
  go_wp2
  go_ret
  exact ⟨rfl, rfl⟩
theorem mkAbove_any (c : Nat) (w : World) : Calls Tryz.prog 95 #[.int .u64 c] w fun e w' => e = .returned (.func (.func 137) #[] #[.pointer (some ⟨w.heap.size, 0, none⟩)]) ∧ w' = w.alloc (.cells #[.int .u64 c] 23) := by
  go_enter Tryz.func95, Tryz.ntmps95
  go_wp2
  go_ret
  exact ⟨rfl, rfl⟩
/-- A list of viewers handed out. -/
def GivesVw (w : World) (l : List Vw) (e : Ending) (w' : World) : Prop := Below w.heap.size w w' ∧ ∃ p c, e = .returned (.slice p l.length c) ∧ VwRow w' p l ∧ w'.ownsRow w.heap.size 81 2 (.slice p l.length c) l.length (flat l)
/-- A list of names handed out. -/
def GivesNm (w : World) (ns : List (List UInt8)) (e : Ending) (w' : World) : Prop := Below w.heap.size w w' ∧ ∃ p c, e = .returned (.slice p ns.length c) ∧ NmRow w' p ns ∧ w'.ownsRow w.heap.size 9 1 (.slice p ns.length c) ns.length (nameVals ns)
theorem those_gives {g : Nat} {cb : Array Value} {f : Nat → Bool} {v : Value} {l : List Vw} {w : World} (hp : PolAt w v l) (eg : ∀ args W, (callFunc g args).run Tryz.prog W = .ok (.enter g args) W) (hf : Asks g cb f w) :
    Calls Tryz.prog 90 #[v, .func (.func g) #[] cb] w (GivesVw w (l.filter fun x => f x.c)) :=
  (those_any g cb f v l w hp eg hf).mono fun e w' ⟨u, he, hb, ho⟩ => by
    obtain ⟨p, c, hu, hr⟩ := vw_owned rfl ho
    exact ⟨hb, p, c, by rw [he, hu], hr, hu ▸ ho⟩
theorem eg_all : ∀ args W, (callFunc 91 args).run Tryz.prog W = .ok (.enter 91 args) W := enters_of Tryz.func91 (by kernel_rfl) rfl
theorem eg_below : ∀ args W, (callFunc 135 args).run Tryz.prog W = .ok (.enter 135 args) W := enters_of Tryz.func135 (by kernel_rfl) rfl
theorem eg_above : ∀ args W, (callFunc 137 args).run Tryz.prog W = .ok (.enter 137 args) W := enters_of Tryz.func137 (by kernel_rfl) rfl
theorem filter_all (l : List Vw) : (l.filter fun x => (fun _ => true) x.c) = l := by simp

theorem viewers_any (v : Value) (l : List Vw) (w : World) (hp : PolAt w v l) : Calls Tryz.prog 43 #[v] w (GivesVw w l) := by
  have cT := those_gives hp eg_all (askAll w)
  rw [filter_all] at cT
  obtain ⟨p, b, rfl, _⟩ := hp.at'
  clear hp
  go_enter Tryz.func43, Tryz.ntmps43
  go_wp2_with (go_at_call 90; refine cT.mono ?_; rintro e w1 ⟨hb, p1, c1, rfl, hr, ho⟩)
  go_ret
  exact ⟨hb, p1, c1, rfl, hr, ho⟩

set_option maxRecDepth 100000 in
set_option maxHeartbeats 2000000 in
theorem names_any (w : World) (p : Option Addr) (n c : Nat) (l : List Vw) (hn : l.length = n) (h64 : n ≤ 64) (hr : VwRow w p l) :
    Calls Tryz.prog 92 #[.slice p n c] w (GivesNm w (names l)) := by
  obtain ⟨i0, hi, hz0, hz1, hz2⟩ := info_parts strInfo
  have HN := Lib.hid hn
  clear hn
  go_enter Tryz.func92, Tryz.ntmps92
  go_wp2
  go_loopg [3, 8] n (fun g u vi wr => ∃ k : Nat, k + g = n ∧ vi = .int .i64 k ∧ Below w.heap.size w wr ∧ Hid (wr.ownsRow w.heap.size 9 1 u k (nameVals (names (l.take k)))))
  case atStart => exact ⟨0, by omega, rfl, Below.refl _ _, by rw [List.take_zero]; exact World.ownsRow_nil _ _ _ _⟩
  case round =>
    obtain ⟨k, hk, rfl, hbr, HO⟩ := hrel
    have hsr := hbr.size
    by_cases hlt : k < n
    · have hlt' : k < l.length := by rw [HN.out]; exact hlt
      obtain ⟨b1, o1, rfl, hb1, h1c⟩ := hr.at k hlt'
      obtain ⟨g1, g2⟩ := h1c wr hbr
      have hsn : Hid (nameVals (names (l.take (k + 1))) = nameVals (names (l.take k)) ++ [.string (bs l[k].s)]) := by
        show nameVals (names (l.take (k + 1))) = _
        rw [List.take_succ_eq_append_getElem hlt']
        unfold nameVals names
        rw [List.map_append, List.map_append]; rfl
      generalize l[k] = x at *
      have ho' := HO.out.alloc (.cells #[.string (bs x.s), .int .u64 x.c] 81)
      have HB := Lib.hid hbr
      clear h1c hbr HO
      go_wp2_with (first
        | (at_builtin; refine wpList_append_own _ rfl _ _ 75 rfl w.heap.size 9 i0 (.string ⟨#[]⟩) 1 16 Tryz.underlying75 hi hz0 hz1 hz2 rfl (by decide) _ _ _ rfl (ho'.alloc _) ⟨wr.heap.size + 1, 0, none⟩ 1 1 [.string (bs x.s)] rfl rfl ?c1 ?c2 ?c3 ?c4 ?c5 ?_))
      case c1 =>
        intro j u hj
        match j, hj with
        | 0, hj => simp at hj; subst hj; simp [Addr.add]
      case c2 => intro u hu; simp at hu; subst hu; rfl
      case c3 => unfold maxLen; omega
      case c4 => omega
      case c5 => simp; omega
      intro u' w3 hown' hgrow _
      have hb3 : Below w.heap.size w w3 := ((HB.out.alloc (by omega) _).alloc (by simp; omega) _).grown hgrow (by simp; omega) (fun g hg => (ho'.lt g hg).1)
      have HO2 : Hid (w3.ownsRow w.heap.size 9 1 u' (k + 1) (nameVals (names (l.take (k + 1))))) := by rw [hsn.out]; exact hown'
      clear ho' hown' hgrow hsn
      go_wp2_with fail
      go_roundg (gk - 1)
      case rel => exact ⟨k + 1, by omega, by go_num, hb3, HO2⟩
      case measure => omega
    · obtain rfl : k = n := by omega
      have hall : l.take k = l := by rw [← HN.out]; exact List.take_length
      have HO2 := Lib.hid HO.out
      rw [hall] at HO2
      have hnl : (names l).length = k := by unfold names; rw [List.length_map]; exact HN.out
      have HB := Lib.hid hbr
      have HL := Lib.hid hnl
      clear HO hbr hall hnl
      go_wp2_with fail
      go_ret
      obtain ⟨p1, c1, hu, hrow⟩ := nm_owned HL.out HO2.out
      have ho := HO2.out
      rw [hu] at ho ⊢
      refine ⟨HB.out, p1, c1, by rw [HL.out]; rfl, hrow, ?_⟩
      rw [HL.out]; exact ho

theorem polBelow_any (v : Value) (l : List Vw) (c : Nat) (w : World) (hp : PolAt w v l) (h64 : c < 18446744073709551616) : Calls Tryz.prog 48 #[v, .int .u64 c] w (GivesNm w (names (l.filter fun x => belowB x.c c))) := by
  have cT := fun W (h : PolAt W v l) B hB hc => those_gives h eg_below (askBelow W B c hB hc h64)
  have hp1 := hp.later ((Below.refl _ w).alloc (Nat.le_refl _) (.cells #[.int .u64 c] 23))
  have cT1 := cT _ hp1 w.heap.size (by simp) (by rw [World.cell?_alloc_mark]; rfl)
  have h64' := okL_filter hp.ok fun x => belowB x.c c
  have cN := fun W p c' hr => names_any W p _ c' (l.filter fun x => belowB x.c c) rfl h64'.1 hr
  obtain ⟨p, b, rfl, _⟩ := hp.at'
  have cM := mkBelow_any c w
  clear cT hp hp1 h64'
  generalize (l.filter fun x => belowB x.c c) = ys at *
  go_enter Tryz.func48, Tryz.ntmps48
  go_wp2_with (first
    | (go_at_call 93; refine cM.mono ?_; rintro e w1 ⟨rfl, rfl⟩)
    | (go_at_call 90; refine cT1.mono ?_; rintro e w2 ⟨hb2, p1, c1, rfl, hr, ho⟩)
    | (go_at_call 92; refine (cN _ _ _ hr).mono ?_; rintro e w3 ⟨hb3, p3, c3, rfl, hr3, ho3⟩))
  go_ret
  have hb1 : Below w.heap.size w w2 := ((Below.refl _ w).alloc (Nat.le_refl _) _).trans (hb2.mono (by simp))
  exact ⟨hb1.trans (hb3.mono hb1.size), p3, c3, rfl, hr3, base_le ho3 hb1.size⟩
theorem polAbove_any (v : Value) (l : List Vw) (c : Nat) (w : World) (hp : PolAt w v l) (h64 : c < 18446744073709551616) : Calls Tryz.prog 51 #[v, .int .u64 c] w (GivesNm w (names (l.filter fun x => belowB c x.c))) := by
  have cT := fun W (h : PolAt W v l) B hB hc => those_gives h eg_above (askAbove W B c hB hc h64)
  have hp1 := hp.later ((Below.refl _ w).alloc (Nat.le_refl _) (.cells #[.int .u64 c] 23))
  have cT1 := cT _ hp1 w.heap.size (by simp) (by rw [World.cell?_alloc_mark]; rfl)
  have h64' := okL_filter hp.ok fun x => belowB c x.c
  have cN := fun W p c' hr => names_any W p _ c' (l.filter fun x => belowB c x.c) rfl h64'.1 hr
  obtain ⟨p, b, rfl, _⟩ := hp.at'
  have cM := mkAbove_any c w
  clear cT hp hp1 h64'
  generalize (l.filter fun x => belowB c x.c) = ys at *
  go_enter Tryz.func51, Tryz.ntmps51
  go_wp2_with (first
    | (go_at_call 95; refine cM.mono ?_; rintro e w1 ⟨rfl, rfl⟩)
    | (go_at_call 90; refine cT1.mono ?_; rintro e w2 ⟨hb2, p1, c1, rfl, hr, ho⟩)
    | (go_at_call 92; refine (cN _ _ _ hr).mono ?_; rintro e w3 ⟨hb3, p3, c3, rfl, hr3, ho3⟩))
  go_ret
  have hb1 : Below w.heap.size w w2 := ((Below.refl _ w).alloc (Nat.le_refl _) _).trans (hb2.mono (by simp))
  exact ⟨hb1.trans (hb3.mono hb1.size), p3, c3, rfl, hr3, base_le ho3 hb1.size⟩
theorem fit_of {l : List Vw} (h : okL l) (k : Lo64 l) : Fit64 l := fun x hx => ⟨k x hx, by
  have hn := h.2.2 x hx
  unfold nameL at hn; simp only [Bool.and_eq_true, decide_eq_true_eq] at hn
  unfold maxLen; omega⟩
theorem look_mem {l : List Vw} (hn : (names l).Nodup) {x : Vw} (hx : x ∈ l) : look l x.s = some x.c := by
  unfold look
  induction l with
  | nil => simp at hx
  | cons y l ih =>
    unfold names at hn
    rw [List.map_cons, List.nodup_cons] at hn
    rw [List.find?_cons]
    by_cases e : y.s = x.s
    · rw [beq_iff_eq.2 e]
      rcases List.mem_cons.1 hx with rfl | hx
      · rfl
      · exact absurd (e ▸ List.mem_map_of_mem hx) hn.1
    · rw [beq_false_of_ne e]
      rcases List.mem_cons.1 hx with rfl | hx
      · exact absurd rfl e
      · exact ih hn.2 hx
theorem look_none {l : List Vw} {s : List UInt8} (h : s ∉ names l) : look l s = none := by
  unfold look
  rw [List.find?_eq_none.2]
  · rfl
  · intro x hx e
    exact h (by rw [← beq_iff_eq.1 e]; exact List.mem_map_of_mem hx)
/-- What Clearance answers. -/
def clrV (l : List Vw) (s : List UInt8) : Value := match look l s with
  | some c => .tuple #[.int .u64 c, .int .i64 0]
  | none => .tuple #[.int .u64 0, .int .i64 160]
theorem clearance_any (v : Value) (l : List Vw) (s : ByteArray) (w : World) (hp : PolAt w v l) (hs : s.size ≤ maxLen) : Calls Tryz.prog 40 #[v, .string s] w fun e w' => e = .returned (clrV l s.data.toList) ∧ w = w' := by
  obtain ⟨p, b, rfl, hpl, hc, n, D, _, hown, hD⟩ := hp.at'
  have hkey : keyOf Tryz.prog 9 (.string s) = some (.string s.data.toList) := Go.WideMaps.keyOf_string_mk (P := Tryz.prog) Tryz.underlying9 hs
  have hin := hD.has s.data.toList
  unfold clrV
  cases hh : Maps.has D (.string s.data.toList) with
  | true =>
    obtain ⟨x, hx, e⟩ := List.mem_map.1 (hin.1 hh)
    have hl := look_mem hp.ok.2.1 hx
    have hat := hD.at' x hx (.lit (.int .u64 0))
    rw [e] at hl hat
    rw [hl]
    have HT := Lib.hid hat
    clear hp hin hD hat hl hx
    go_enter Tryz.func40, Tryz.ntmps40
    go_wp2_with (first
      | (at_lookup; refine wpList_lookup_own_ok_int _ rfl _ _ 132 rfl 9 23 .u64 strLaw Tryz.underlying132 Tryz.underlying23 (zeroLab _) b n D rfl hown _ _ rfl hkey ?_; intro c hat hwc; rw [hh]; have HC := Lib.hid hat; clear hat hwc))
    go_ret2
    have e2 : c = (x.c : Int) := by have := HC.out.symm.trans HT.out; simpa using this
    exact ⟨by rw [e2]; rfl, rfl⟩
  | false =>
    have hl := look_none (l := l) (s := s.data.toList) (fun h => by have := hin.2 h; rw [hh] at this; cases this)
    rw [hl]
    clear hp hin hD hl
    go_enter Tryz.func40, Tryz.ntmps40
    go_wp2_with (first
      | (at_lookup; refine wpList_lookup_own_ok_int _ rfl _ _ 132 rfl 9 23 .u64 strLaw Tryz.underlying132 Tryz.underlying23 (zeroLab _) b n D rfl hown _ _ rfl hkey ?_; intro c hat hwc; rw [hh]; clear hat hwc))
    go_ret2
    exact ⟨rfl, rfl⟩
end Go.Proofs.YtfkkodcppaakjaaGreatDoor
