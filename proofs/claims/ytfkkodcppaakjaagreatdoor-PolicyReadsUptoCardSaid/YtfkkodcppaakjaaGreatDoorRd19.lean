/- Texts of the proof, merged: PoThose. -/
import Derived.Test.YtfkkodcppaakjaaGreatDoorRd6
import Derived.Test.YtfkkodcppaakjaaGreatDoorRd18
/- What goes through policy's one function, by its contract, whatever is asked of each. -/
namespace Go.Proofs.YtfkkodcppaakjaaGreatDoor
open Go Go.RowKit Go.Maps

/-- A look-up in a map that holds the viewer. -/
theorem wpList_look_vw {w : World} {ops : Array Oper} {rest : List Oper} {o : Oper} {a : Act} {Q : Exit → Act → World → Prop} (hg : o.guard = none) (m x : Operand) (hop : o.op = Op.lookup 132 m x false)
    (b n : Nat) (D : DataW Unit) (hm : a.eval m = .map (some b)) (hown : w.ownsMap Tryz.prog 9 (plainElem Tryz.prog 23) b n D) (key : Value) (kl : Lit) (hx : a.eval x = key) (hkey : keyOf Tryz.prog 9 key = some kl)
    (v : Int) (hat : ∀ z, D.atKey kl z = .lit (.int .u64 v)) (hK : wpList Tryz.prog ops Q rest (a.put o.dst (.int .u64 v)) w) : wpList Tryz.prog ops Q (o :: rest) a w := by
  refine wpList_lookup_own_int w hg m x 132 hop 9 23 .u64 strLaw Tryz.underlying132 Tryz.underlying23 (zeroLab w) b n D hm hown key kl hx hkey fun c hc _ => ?_
  rw [hat] at hc
  have e : v = c := by simpa using hc
  subst e
  exact hK
theorem filter_snoc {l : List Vw} {k : Nat} (hk : k < l.length) (f : Vw → Bool) : (l.take (k + 1)).filter f = (l.take k).filter f ++ (if f l[k] then [l[k]] else []) := by
  rw [List.take_succ_eq_append_getElem hk, List.filter_append]
  cases h : f l[k] <;> simp [h]
theorem take_filter_le (l : List Vw) (k : Nat) (f : Vw → Bool) : ((l.take k).filter f).length ≤ k := Nat.le_trans (List.length_filter_le _ _) (by rw [List.length_take]; omega)
theorem base_le {W : World} {base base' : Nat} {e : TypeId} {size : Nat} {v : Value} {k : Nat} {xs : List Value} (h : W.ownsRow base e size v k xs) (hb : base' ≤ base) : W.ownsRow base' e size v k xs := ownsRow_base_a h hb
/-- What is asked of a clearance by a function value that writes nothing of ours. -/
def Asks (g : Nat) (cb : Array Value) (f : Nat → Bool) (w : World) : Prop := ∀ (a : Nat) (W : World), a < 18446744073709551616 → Below w.heap.size w W → Calls Tryz.prog g (#[.int .u64 a] ++ cb) W fun e w' => e = .returned (.bool (f a)) ∧ Below W.heap.size W w'

set_option maxRecDepth 100000 in
set_option maxHeartbeats 4000000 in
theorem those_any (g : Nat) (cb : Array Value) (f : Nat → Bool) (v : Value) (l : List Vw) (w : World) (hp : PolAt w v l) (eg : ∀ args W, (callFunc g args).run Tryz.prog W = .ok (.enter g args) W) (hf : Asks g cb f w) :
    Calls Tryz.prog 90 #[v, .func (.func g) #[] cb] w fun e w' => ∃ u, e = .returned u ∧ Below w.heap.size w w' ∧
      w'.ownsRow w.heap.size 81 2 u (l.filter fun x => f x.c).length (flat (l.filter fun x => f x.c)) := by
  obtain ⟨p, b, rfl, hpl, hc, hm⟩ := hp.at'
  have h64 := hp.ok.1
  have cK := keys_any b
  have cS := fun Bm W => sorted_any b Bm l W
  have hm1 := fun o => hm.later ((Below.refl _ w).alloc (Nat.le_refl _) o)
  have cS1 := fun W h1 h2 h3 => sorted_any b w.heap.size l W h1 h2 h3 hp.up h64
  have hnm : (names l).length = l.length := by simp [names]
  obtain ⟨i0, hi, hz0, hz1, hz2⟩ := info_parts vwInfo
  have HF : Aside _ := hf
  have HM : Aside _ := hm
  have HP : Aside _ := hp
  clear hf hm hp cS
  have hkeyL : ∀ x ∈ l, keyOf Tryz.prog 9 (.string (bs x.s)) = some (.string x.s) := fun x hx => by
    have hn := HP.out.ok.2.2 x hx
    have h32 : x.s.length ≤ 32 := by unfold nameL at hn; simp only [Bool.and_eq_true, decide_eq_true_eq] at hn; exact hn.1.2
    have := Go.WideMaps.keyOf_string_mk (P := Tryz.prog) Tryz.underlying9 (s := bs x.s) (by rw [bs_size]; unfold maxLen; omega)
    rwa [bs_list] at this
  have HK : Aside _ := hkeyL
  clear hkeyL
  go_enter Tryz.func90, Tryz.ntmps90
  go_wp2_with (first
    | (go_at_call 134; refine (cK _).mono ?_; rintro e w' ⟨rfl, rfl⟩)
    | (go_at_call 133; refine (cS1 _ (hm1 _) (by simp) (by simp)).mono ?_; rintro e w1 ⟨vn, rfl, hrow, hb1⟩; obtain ⟨pn, cn, rfl, hnr⟩ := nm_owned hnm hrow))
  have hbw : Below w.heap.size w w1 := ((Below.refl _ w).alloc (Nat.le_refl _) _).trans (hb1.mono (by simp))
  have hs1 := hbw.size
  clear hb1 cK cS1 hm1 hrow
  obtain ⟨n, hn⟩ : ∃ n, l.length = n := ⟨_, rfl⟩
  rw [hn] at h64 ⊢
  have HN := Lib.hid hn
  clear hn hnm
  go_wp2_with fail
  go_loopg [5, 18] n (fun g u vi wr => ∃ k : Nat, k + g = n ∧ vi = .int .i64 k ∧ Below w1.heap.size w1 wr ∧ Hid (wr.ownsRow w1.heap.size 81 2 u ((l.take k).filter fun x => f x.c).length (flat ((l.take k).filter fun x => f x.c))))
  case atStart => exact ⟨0, by omega, rfl, Below.refl _ _, by rw [List.take_zero]; exact World.ownsRow_nil _ _ _ _⟩
  case round =>
    obtain ⟨k, hk, rfl, hbr, HO⟩ := hrel
    have hbrw : Below w.heap.size w wr := hbw.trans (hbr.mono hs1)
    have hsr := hbr.size
    by_cases hlt : k < n
    · have hlt' : k < l.length := by rw [HN.out]; exact hlt
      have hmem := List.getElem_mem hlt'
      obtain ⟨b1, o1, rfl, h1c⟩ := hnr.at k (by unfold names; rw [List.length_map]; exact hlt')
      have g1 := h1c wr hbr
      have hnk : (names l)[k]'(by unfold names; rw [List.length_map]; exact hlt') = l[k].s := by simp [names]
      rw [hnk] at g1
      have hkx := HK.out l[k] hmem
      obtain ⟨nn, D, _, hown, hD⟩ := MapAt.later (w := w) (b := b) (l := l) HM.out hbrw
      have hat := hD.at' l[k] hmem
      have hx64 := HP.out.lo l[k] hmem
      have cA := HF.out l[k].c wr hx64 hbrw
      have hcw : wr.cell? ⟨p, 0, none⟩ = some (.map (some b)) := (hbrw.cell (p := ⟨p, 0, none⟩) hpl).trans hc
      have hfs := Lib.hid (filter_snoc hlt' fun x => f x.c)
      have hle := take_filter_le l k fun x => f x.c
      generalize l[k] = x at *
      generalize (l.take k).filter (fun x => f x.c) = ys at *
      have HB := Lib.hid hbr
      have HBW := Lib.hid hbrw
      clear h1c hnk hD hbr hbrw hmem
      cases hfx : f x.c with
      | false =>
        rw [hfx] at cA hfs
        have hfs' : Hid ((l.take (k + 1)).filter (fun x => f x.c) = ys) := by have := hfs.out; rw [if_neg (by simp), List.append_nil] at this; exact this
        clear hfs
        go_wp2_with (first
          | (at_lookup; refine wpList_look_vw rfl _ _ rfl b nn D rfl hown _ _ rfl hkx _ hat ?_)
          | (go_at_fn g; refine cA.mono ?_; rintro e w2 ⟨rfl, hb2⟩))
        have hbe : Below w1.heap.size w1 w2 := HB.out.trans (hb2.mono hsr)
        have HO2 := Lib.hid (ownsAny_later HO.out hb2)
        clear cA hb2
        go_roundg (gk - 1)
        case rel => exact ⟨k + 1, by omega, by go_num, hbe, by rw [hfs'.out]; exact HO2.out⟩
        case measure => omega
      | true =>
        rw [hfx] at cA hfs
        have hfs' : Hid ((l.take (k + 1)).filter (fun x => f x.c) = ys ++ [x]) := by have := hfs.out; rw [if_pos rfl] at this; exact this
        clear hfs
        go_wp2_with (first
          | (at_lookup; refine wpList_look_vw rfl _ _ rfl b nn D rfl hown _ _ rfl hkx _ hat ?_)
          | (go_at_fn g; refine cA.mono ?_; rintro e w2 ⟨rfl, hb2⟩; have ho' := ownsAny_later HO.out hb2; have hsz2 := hb2.size)
          | (at_builtin; refine wpList_append_own _ rfl _ _ 28 rfl w1.heap.size 81 i0 (.agg #[.string ⟨#[]⟩, .int .u64 0]) 2 24 Tryz.underlying28 hi hz0 hz1 hz2 rfl (by decide) _ _ _ rfl (ho'.alloc _) ⟨w2.heap.size, 0, none⟩ 1 1 x.vals rfl rfl ?c1 ?c2 ?c3 ?c4 ?c5 ?_))
        case c1 =>
          intro j u hj
          match j, hj with
          | 0, hj => simp [Vw.vals] at hj; subst hj; simp [Addr.add]
          | 1, hj => simp [Vw.vals] at hj; subst hj; simp [Addr.add]
        case c2 => intro u hu; simp [Vw.vals] at hu; rcases hu with rfl | rfl <;> rfl
        case c3 => unfold maxLen; omega
        case c4 => omega
        case c5 => simp; omega
        intro u' w3 hown' hgrow _
        have hb3 : Below w1.heap.size w1 w3 := ((HB.out.trans (hb2.mono hsr)).alloc (by omega) _).grown hgrow (by simp; omega) (fun g hg => (ho'.lt g hg).1)
        have HO2 : Hid (w3.ownsRow w1.heap.size 81 2 u' (ys ++ [x]).length (flat (ys ++ [x]))) := by
          show w3.ownsRow _ _ _ _ _ _
          rw [flat_snoc, List.length_append]; exact hown'
        clear ho' hown' hgrow cA hb2
        go_wp2_with fail
        go_roundg (gk - 1)
        case rel => exact ⟨k + 1, by omega, by go_num, hb3, by rw [hfs'.out]; exact HO2.out⟩
        case measure => omega
    · obtain rfl : k = n := by omega
      have hall : l.take k = l := by rw [← HN.out]; exact List.take_length
      have HO2 := Lib.hid HO.out
      rw [hall] at HO2
      have HBW := Lib.hid hbrw
      clear HO hbr hbrw hall
      go_wp2_with fail
      go_ret
      exact ⟨_, rfl, HBW.out, base_le HO2.out hs1⟩
end Go.Proofs.YtfkkodcppaakjaaGreatDoor
