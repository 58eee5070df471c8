/- A region that draws its order, every order at once: each operation is looked at once, at the frame that the region leaves. Whatever fence, within a round too. No program. -/
import Derived.OrdersIn
import Derived.Deep.RegionHeld3
import Derived.Deep.Draws
namespace Go.Proofs.Ytdpikdkhemhmdaa
open Go

section
variable {F : Fence} {n : Nat} {P : Program} {Q : Exit → Act → World → Prop} {S : World → Prop} {ops : Array Oper}

/-- What an operation looks at comes from outside, or from one that it comes after; edges lead back. -/
def depsB (l : List Oper) : Bool := (List.range l.length).all fun i => match l[i]? with
  | none => true
  | some o => (o.looksAt l.toArray).all (fun x => (List.range l.length).all fun j => match l[j]? with
      | none => true
      | some oj => oj.dst != some x || o.after.toList.any fun e => Region.binds .any e && e.on == j) && o.after.toList.all (fun e => !Region.binds .any e || decide (e.on < i))
/-- The frame that the region leaves. -/
def fillT : List Oper → Array Value → Array Value → Array Value
  | [], _, t => t
  | o :: r, T, t => fillT r T (match o.dst with | some d => t.setIfInBounds d (T.getD d undef) | none => t)
theorem fillT_out : ∀ (l : List Oper) (T t : Array Value) (s : Nat), (∀ o ∈ l, o.dst ≠ some s) → (fillT l T t)[s]? = t[s]?
  | [], _, _, _, _ => rfl
  | o :: r, T, t, s, h => by
    rw [fillT, fillT_out r T _ s fun o' ho => h o' (by simp [ho])]
    have h0 := h o (by simp)
    cases hd : o.dst with
    | none => rfl
    | some d =>
      have hne : d ≠ s := fun e => h0 (by rw [hd, e])
      simp [Array.getElem?_setIfInBounds_ne hne]
theorem fillT_size : ∀ (l : List Oper) (T t : Array Value), (fillT l T t).size = t.size
  | [], _, _ => rfl
  | o :: r, T, t => by
    rw [fillT, fillT_size r T]
    cases o.dst <;> simp
/-- One operation, at the full frame. -/
def FullOp (F : Fence) (n : Nat) (P : Program) (ops : Array Oper) (S : World → Prop) (af : Act) (o : Oper) : Prop :=
  if Region.wanted o (yielded ops af.tmps) = true then ∀ w, S w → Oper.wpIn F n P o af w (fun a' w' => a' = af ∧ S w') (fun _ _ _ => False)
  else (∀ w f, o.about P w af.eval = some f → F.fn f) ∧ af.put o.dst undef = af
def FullL (F : Fence) (n : Nat) (P : Program) (ops : Array Oper) (S : World → Prop) (af : Act) : List Oper → Prop
  | [] => True
  | o :: r => FullOp F n P ops S af o ∧ FullL F n P ops S af r
theorem FullL.mem {af : Act} {l : List Oper} (h : FullL F n P ops S af l) (o : Oper) (ho : o ∈ l) : FullOp F n P ops S af o := by
  induction l with
  | nil => cases ho
  | cons x r ih =>
    rcases List.mem_cons.1 ho with e | ho
    · rw [e]; exact h.1
    · exact ih h.2 ho
/-- A frame on the way: what is done, and what the region does not write, is as in the full frame. -/
structure Way (ops : Array Oper) (af : Act) (listed : Array Bool) (b : Act) : Prop where
  defers : b.defers = af.defers
  size : b.tmps.size = af.tmps.size
  done : ∀ s, (∃ (j : Nat) (o : Oper), ops[j]? = some o ∧ o.dst = some s ∧ listed.getD j false = true) → b.tmps[s]? = af.tmps[s]?
  out : ∀ s, (∀ (j : Nat) (o : Oper), ops[j]? = some o → o.dst ≠ some s) → b.tmps[s]? = af.tmps[s]?

theorem eval_same {b af : Act} {o : Oper} (h : ∀ x ∈ o.looksAt ops, b.tmps[x]? = af.tmps[x]?) : ∀ x ∈ o.op.operands, b.eval x = af.eval x := fun x hx => by
  cases x with
  | tmp t =>
    have ht : t ∈ o.looksAt ops := List.mem_append_left _ (List.mem_filterMap.2 ⟨.tmp t, by simpa using hx, rfl⟩)
    have := h t ht
    simp only [Act.eval, Array.getD_eq_getD_getElem?, this]
  | _ => rfl
theorem wanted_same {b af : Act} {o : Oper} (h : ∀ x ∈ o.looksAt ops, b.tmps[x]? = af.tmps[x]?) : Region.wanted o (yielded ops b.tmps) = Region.wanted o (yielded ops af.tmps) := by
  unfold Region.wanted
  cases hg : o.guard with
  | none => rfl
  | some gw =>
    obtain ⟨g, want⟩ := gw
    have hy : yielded ops b.tmps g = yielded ops af.tmps g := by
      unfold yielded
      cases ht : (ops[g]?).bind (·.dst) with
      | none => rfl
      | some t => simp only [Option.bind_some, h t (by simp [Oper.looksAt, hg, ht])]
    simp only [hy]
theorem semAt_same {ro : Option Nat} {ρ ρ' : Operand → Value} (o : Oper) (hs : ∀ cs b, o.op ≠ .select cs b) (h : ∀ x ∈ o.op.operands, ρ x = ρ' x) : o.semAt ro ρ = o.semAt ro ρ' := by
  by_cases hd : ∃ c, o.op = .defer c
  · obtain ⟨c, hc⟩ := hd
    cases ro with
    | none => exact execOp_congr o hs h
    | some l =>
      unfold Oper.semAt
      rw [hc]
      simp only [resolve_congr c o.type (fun x hx => h x (by rw [hc]; simpa [Op.operands] using hx))]
  · rw [Oper.semAt_eq _ _ _ (fun c e => hd ⟨c, e⟩), Oper.semAt_eq _ _ _ (fun c e => hd ⟨c, e⟩)]
    exact execOp_congr o hs h
theorem wpIn_moved {af b : Act} {o : Oper} {w : World} {K : Act → World → Prop} (hsem : o.semAt F.round b.eval = o.semAt F.round af.eval) (hab : o.about P w b.eval = o.about P w af.eval)
    (h : Oper.wpIn F n P o af w (fun a' w' => a' = af ∧ S w') (fun _ _ _ => False)) (hK : ∀ v w', af.put o.dst v = af → S w' → K (b.put o.dst v) w') : Oper.wpIn F n P o b w K Q := by
  unfold Oper.wpIn at *
  rw [hsem, hab]
  refine ⟨h.1, ?_⟩
  have h := h.2
  generalize (o.semAt F.round af.eval).run P w = r at *
  cases r with
  | ok x w' =>
    cases x <;> simp only [Oper.uponIn] at h ⊢
    case value v => exact hK _ _ h.1 h.2
    case skip => exact hK _ _ h.1 h.2
    case defer d =>
      have h1 := congrArg Act.defers h.1
      cases hd : o.dst <;> simp [Act.put, hd] at h1
    case enter f args => exact ⟨h.1, CallsIn.mono h.2 fun e w'' he => by
      cases e with
      | returned v => exact hK _ _ he.1 he.2
      | panicked c => exact he.elim
      | outgrown => obtain ⟨_, _, h'⟩ := he; exact h'.elim⟩
    case row row args => exact ⟨h.1, RowsIn.mono h.2 fun v w'' he => hK _ _ he.1 he.2⟩
    case round l f tmps assign body => exact ⟨h.1, RoundIn.mono h.2 fun e w'' he => by
      cases e with
      | returned v => exact hK _ _ he.1 he.2
      | panicked c => exact he.elim
      | outgrown => obtain ⟨_, _, h'⟩ := he; exact h'.elim⟩
  | halt x w' => cases x <;> simp only [Oper.uponIn] at h

theorem put_way {af b : Act} {listed : Array Bool} {i : Nat} {o : Oper} {v : Value} (ho : ops[i]? = some o) (_hi : i < listed.size) (h : Way ops af listed b) (hv : af.put o.dst v = af) : Way ops af (listed.setIfInBounds i true) (b.put o.dst v) := by
  have hput : ∀ s, (b.put o.dst v).tmps[s]? = if o.dst = some s then af.tmps[s]? else b.tmps[s]? := by
    intro s
    cases hd : o.dst with
    | none => simp [Act.put]
    | some d =>
      rw [hd] at hv
      have h1 : af.tmps.setIfInBounds d v = af.tmps := congrArg Act.tmps hv
      show (b.tmps.setIfInBounds d v)[s]? = _
      by_cases hds : d = s
      · subst hds
        rw [if_pos rfl, ← h1]
        simp only [Array.getElem?_setIfInBounds, h.size, if_true]
      · rw [Array.getElem?_setIfInBounds_ne hds, if_neg (fun e => hds (Option.some.inj e))]
  refine ⟨by cases hd : o.dst <;> simp [Act.put, h.defers], ?_, fun s hs => ?_, fun s hs => ?_⟩
  · cases hd : o.dst <;> simp [Act.put, h.size]
  · rw [hput]
    by_cases hd : o.dst = some s
    · rw [if_pos hd]
    · rw [if_neg hd]
      obtain ⟨j, oj, hj, hdj, hl⟩ := hs
      have hne : i ≠ j := fun e => by subst e; rw [ho] at hj; cases hj; exact hd hdj
      exact h.done s ⟨j, oj, hj, hdj, by rwa [getD_set_ne false hne] at hl⟩
  · rw [hput, if_neg (hs i o ho)]
    exact h.out s hs

theorem deps_spec {l : List Oper} (h : depsB l = true) {i : Nat} {o : Oper} (ho : l.toArray[i]? = some o) :
    (∀ x ∈ o.looksAt l.toArray, ∀ j oj, l.toArray[j]? = some oj → oj.dst = some x → ∃ e ∈ o.after, Region.binds .any e = true ∧ e.on = j) ∧ (∀ e ∈ o.after, Region.binds .any e = true → e.on < i) := by
  rw [List.getElem?_toArray] at ho
  have hi : i < l.length := (List.getElem?_eq_some_iff.1 ho).1
  have h1 := List.all_eq_true.1 h i (List.mem_range.2 hi)
  rw [ho] at h1
  simp only [Bool.and_eq_true] at h1
  refine ⟨fun x hx j oj hj hd => ?_, fun e he hb => ?_⟩
  · rw [List.getElem?_toArray] at hj
    have h2 := List.all_eq_true.1 (List.all_eq_true.1 h1.1 x hx) j (List.mem_range.2 (List.getElem?_eq_some_iff.1 hj).1)
    rw [hj] at h2
    simp only [hd, Bool.or_eq_true, bne_self_eq_false, Bool.false_eq_true, false_or, List.any_eq_true, Bool.and_eq_true, beq_iff_eq] at h2
    obtain ⟨e, he, hb, ho'⟩ := h2
    exact ⟨e, by simpa using he, hb, ho'⟩
  · have h2 := List.all_eq_true.1 h1.2 e (by simpa using he)
    simpa [hb] using h2

theorem full_any {l : List Oper} {af : Act} (hsel : Region.noSelect l.toArray = true) (hdep : depsB l = true) (hops : ∀ o ∈ l, FullOp F n P l.toArray S af o) (hQ : ∀ w', S w' → Q .normal af w') :
    ∀ (fuel : Nat) (listed : Array Bool) (b : Act) (w : World), listed.size = l.length → listed.toList.count false ≤ fuel → Way l.toArray af listed b → S w → wpAnyIn F n P .any l.toArray Q fuel listed b w := by
  have hend : ∀ (listed : Array Bool) (b : Act), listed.size = l.length → Way l.toArray af listed b → Region.ready .any l.toArray listed = [] → b = af := by
    intro listed b hsz hw hr
    have hall : ∀ j, j < l.length → listed.getD j false = true := by
      intro j
      induction j using Nat.strongRecOn with
      | _ j ih =>
        intro hj
        have hg : listed.getD j false = listed.getD j true := by simp [Array.getElem?_eq_getElem (show j < listed.size by omega)]
        cases hc : listed.getD j true with
        | true => rw [hg, hc]
        | false =>
          have ho : l.toArray[j]? = some l[j] := by simp [List.getElem?_eq_getElem hj]
          have : j ∈ Region.ready .any l.toArray listed := mem_ready.2 ⟨hc, _, ho, fun e he hb => ih e.on ((deps_spec hdep ho).2 e he hb) (by have := (deps_spec hdep ho).2 e he hb; omega)⟩
          rw [hr] at this
          cases this
    have ht : b.tmps = af.tmps := by
      refine Array.ext_getElem? fun s => ?_
      by_cases hs : ∃ (j : Nat) (o : Oper), l.toArray[j]? = some o ∧ o.dst = some s
      · obtain ⟨j, o, hj, hd⟩ := hs
        have hlt : j < l.length := by have := (Array.getElem?_eq_some_iff.1 hj).1; simpa using this
        exact hw.done s ⟨j, o, hj, hd, hall j hlt⟩
      · exact hw.out s fun j o hj hd => hs ⟨j, o, hj, hd⟩
    have hdf := hw.defers
    cases b; cases af
    simp only at ht hdf
    rw [ht, hdf]
  have hstep : ∀ (listed : Array Bool) (b : Act) (w : World) (K : Act → World → Prop) (i : Nat), listed.size = l.length → Way l.toArray af listed b → S w → i ∈ Region.ready .any l.toArray listed →
      (∀ b' w', Way l.toArray af (listed.setIfInBounds i true) b' → S w' → K b' w') → wpOpIn F n P l.toArray Q i K b w := by
    intro listed b w K i hsz hw hS hi hK
    obtain ⟨hun, o, ho, hedges⟩ := mem_ready.1 hi
    have hlt : i < l.length := by have := (Array.getElem?_eq_some_iff.1 ho).1; simpa using this
    have hlooks : ∀ x ∈ o.looksAt l.toArray, b.tmps[x]? = af.tmps[x]? := by
      intro x hx
      by_cases hs : ∃ (j : Nat) (oj : Oper), l.toArray[j]? = some oj ∧ oj.dst = some x
      · obtain ⟨j, oj, hj, hd⟩ := hs
        obtain ⟨e, he, hb, rfl⟩ := (deps_spec hdep ho).1 x hx j oj hj hd
        exact hw.done x ⟨e.on, oj, hj, hd, hedges e he hb⟩
      · exact hw.out x fun j oj hj hd => hs ⟨j, oj, hj, hd⟩
    have hev := eval_same hlooks
    have hmem : o ∈ l := by rw [List.getElem?_toArray] at ho; exact List.mem_of_getElem? ho
    have hfull := hops o hmem
    unfold FullOp at hfull
    unfold wpOpIn
    rw [ho]
    simp only
    rw [wanted_same hlooks]
    have hab : ∀ w, o.about P w b.eval = o.about P w af.eval := fun w => about_congr o w hev
    by_cases hwant : Region.wanted o (yielded l.toArray af.tmps) = true
    · rw [if_pos hwant] at hfull ⊢
      exact wpIn_moved (semAt_same o (fun cs c => Region.noSelect_spec hsel i o cs c ho) hev) (hab w) (hfull w hS) fun v w' hv hS' => hK _ _ (put_way ho (by omega) hw hv) hS'
    · rw [if_neg hwant] at hfull ⊢
      exact ⟨fun f hf => hfull.1 w f (by rw [← hab]; exact hf), hK _ _ (put_way ho (by omega) hw hfull.2) hS⟩
  intro fuel
  induction fuel with
  | zero =>
    intro listed b w hsz hc hw hS
    have hr : Region.ready .any l.toArray listed = [] := by
      refine List.eq_nil_iff_forall_not_mem.2 fun i hi => ?_
      obtain ⟨hun, o, ho, _⟩ := mem_ready.1 hi
      have hlt : i < listed.size := by have := (Array.getElem?_eq_some_iff.1 ho).1; simp at this; omega
      have h0 : listed[i] = false := by simpa [Array.getElem?_eq_getElem hlt] using hun
      have : false ∈ listed.toList := by rw [← h0]; simp
      have := List.count_pos_iff.2 this
      omega
    refine ⟨hr, ?_⟩
    rw [hend listed b hsz hw hr]
    exact hQ w hS
  | succ fuel ih =>
    intro listed b w hsz hc hw hS
    refine ⟨fun hr => by rw [hend listed b hsz hw hr]; exact hQ w hS, fun i hi => hstep listed b w _ i hsz hw hS hi fun b' w' hw' hS' => ih _ b' w' (by simpa using hsz) ?_ hw' hS'⟩
    obtain ⟨hun, o, ho, _⟩ := mem_ready.1 hi
    have hlt : i < listed.size := by have := (Array.getElem?_eq_some_iff.1 ho).1; simp at this; omega
    have h0 : listed[i] = false := by simpa [Array.getElem?_eq_getElem hlt] using hun
    have hmem : false ∈ listed.toList := by rw [← h0]; simp
    have hp := List.count_pos_iff.2 hmem
    have e1 : (listed.setIfInBounds i true).toList.count false = listed.toList.count false - 1 := by
      rw [Array.toList_setIfInBounds, List.count_set (by simpa using hlt)]
      simp [h0]
    omega

/-- **A region that draws its order, in whatever order, within whatever fence.** -/
theorem region_full {l : List Oper} (S : World → Prop) (T : Array Value) {id : Nat} {a : Act} {w : World} (hm : P.follows .mixedOrders = true) (hsel : Region.noSelect l.toArray = true) (hdep : depsB l = true)
    (hT : fillT l T a.tmps = T) (hS : S w.drew) (hops : FullL F n P l.toArray S { a with tmps := T } l) (hQ : ∀ w', S w' → Q .normal { a with tmps := T } w') : (Code.region id l.toArray true).wpIn F n P Q a w := by
  refine wpIn_region_any hm ?_
  refine full_any (af := { a with tmps := T }) hsel hdep (fun o ho => hops.mem o ho) hQ _ _ a _ (by simp) ?_ ⟨rfl, ?_, ?_, ?_⟩ hS
  · simp only [Array.toList_replicate]
    exact Nat.le_trans List.count_le_length (by simp)
  · show a.tmps.size = T.size
    rw [← hT, fillT_size]
  · rintro s ⟨j, o, hj, _, hl⟩
    exfalso
    have hjl : j < l.length := by have := (Array.getElem?_eq_some_iff.1 hj).1; simpa using this
    simp [hjl] at hl
  · intro s hs
    show a.tmps[s]? = T[s]?
    rw [← hT]
    exact (fillT_out l T a.tmps s fun o ho => by
      obtain ⟨j, hj, rfl⟩ := List.getElem_of_mem ho
      exact hs j _ (by rw [List.getElem?_toArray]; exact List.getElem?_eq_getElem hj)).symm
theorem full_want {af : Act} {o : Oper} {r : List Oper} (hw : Region.wanted o (yielded ops af.tmps) = true) (h : ∀ w, S w → Oper.wpIn F n P o af w (fun a' w' => a' = af ∧ S w') (fun _ _ _ => False)) (hr : FullL F n P ops S af r) : FullL F n P ops S af (o :: r) :=
  ⟨by unfold FullOp; rw [if_pos hw]; exact h, hr⟩
theorem full_want_k {af : Act} {o : Oper} {r : List Oper} (hw : Region.wanted o (yielded ops af.tmps) = true)
    (h : ∀ w, S w → ∀ K : Act → World → Prop, Shut (∀ a' w', a' = af → S w' → K a' w') → Oper.wpIn F n P o af w K (fun _ _ _ => False)) (hr : FullL F n P ops S af r) : FullL F n P ops S af (o :: r) :=
  full_want hw (fun w hS => h w hS _ fun _ _ e hS' => ⟨e, hS'⟩) hr
theorem full_skip {af : Act} {o : Oper} {r : List Oper} (hw : Region.wanted o (yielded ops af.tmps) = false) (h : ∀ w f, o.about P w af.eval = some f → F.fn f) (hp : af.put o.dst undef = af) (hr : FullL F n P ops S af r) : FullL F n P ops S af (o :: r) :=
  ⟨by unfold FullOp; rw [if_neg (by rw [hw]; decide)]; exact ⟨h, hp⟩, hr⟩
end
end Go.Proofs.Ytdpikdkhemhmdaa
