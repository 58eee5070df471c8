/- label's own Highest, plainly; slices' functions over a closure, laid at this program. -/
import Derived.Test.YtglpkadpohbfmaaLbOps
import Derived.Test.YtglpkadpohbfmaaLattP
import Derived.Test.YtglpkadpohbfmaaLbIter
import Derived.Shelf.SlicesE.DeleteFunc
import Derived.Lib.OwnBridge
namespace Go.Proofs.Ytglpkadpohbfmaa
open Go.RowKit Go.Sort

instance : Inhabited Nat64 := ⟨⟨0, by decide⟩⟩
def encL (x : Nat64) : Value := .int .u64 (x.val : Nat)

def hiStep (h : List Nat64) (a : Nat64) : List Nat64 := if h.any (fun b => belowB a.val b.val) then h else (h.filter fun b => !belowB b.val a.val) ++ [a]
def hiAll (l : List Nat64) : List Nat64 := l.foldl hiStep []
theorem hi_step (l : List Nat64) (m : Nat) (x : Nat64) (h : l[m]? = some x) : hiAll (l.take (m + 1)) = hiStep (hiAll (l.take m)) x := by
  unfold hiAll
  rw [List.take_add_one, h, List.foldl_append]; rfl
theorem hi_len (l : List Nat64) (m : Nat) : (hiAll (l.take m)).length ≤ m := by
  induction m with
  | zero => simp [hiAll]
  | succ m ih =>
    cases h : l[m]? with
    | none => rw [List.take_add_one, h]; simp; omega
    | some x =>
      rw [hi_step l m x h]
      unfold hiStep
      split
      · omega
      · have := List.length_filter_le (fun b : Nat64 => !belowB b.val x.val) (hiAll (l.take m))
        simp; omega

/-- Each of the list is below one of the highest; none of these is below another. -/
def HiGood (l h : List Nat64) : Prop := (∀ a ∈ l, ∃ b ∈ h, belowB a.val b.val = true) ∧ h.Pairwise fun x y => belowB x.val y.val = false ∧ belowB y.val x.val = false
theorem hi_good (l : List Nat64) : HiGood l (hiAll l) := by
  suffices all : ∀ (r l h : List Nat64), HiGood l h → HiGood (l ++ r) (r.foldl hiStep h) by
    have := all l [] [] ⟨fun a ha => (List.not_mem_nil ha).elim, List.Pairwise.nil⟩
    simpa [hiAll] using this
  intro r
  induction r with
  | nil => intro l h hg; simpa using hg
  | cons x r ih =>
    intro l h hg
    have := ih (l ++ [x]) (hiStep h x) ?_
    · simpa using this
    · unfold hiStep
      split
      · rename_i hx
        obtain ⟨b, hb, hbx⟩ := List.any_eq_true.1 hx
        refine ⟨fun a ha => ?_, hg.2⟩
        rcases List.mem_append.1 ha with ha | ha
        · exact hg.1 a ha
        · rw [List.mem_singleton.1 ha]; exact ⟨b, hb, hbx⟩
      · rename_i hx
        have hno : ∀ b ∈ h, belowB x.val b.val = false := fun b hb => by
          cases e : belowB x.val b.val with
          | false => rfl
          | true => exact absurd (List.any_eq_true.2 ⟨b, hb, e⟩) hx
        refine ⟨fun a ha => ?_, ?_⟩
        · rcases List.mem_append.1 ha with ha | ha
          · obtain ⟨b, hb, hab⟩ := hg.1 a ha
            cases e : belowB b.val x.val with
            | true => exact ⟨x, by simp, below_trans _ _ _ hab e⟩
            | false => exact ⟨b, List.mem_append.2 (.inl (List.mem_filter.2 ⟨hb, by rw [e]; rfl⟩)), hab⟩
          · rw [List.mem_singleton.1 ha]; exact ⟨x, by simp, below_refl _⟩
        · refine List.pairwise_append.2 ⟨hg.2.filter _, List.pairwise_singleton _ _, fun b hb y hy => ?_⟩
          rw [List.mem_singleton.1 hy]
          obtain ⟨hb1, hb2⟩ := List.mem_filter.1 hb
          exact ⟨by simpa using hb2, hno b hb1⟩

def hi_ren : Go.Shelf.Ren := ⟨fun | 6 => 25 | 8 => 13 | 10 => 16 | n => n, fun | 0 => 0 | 3 => 3 | 4 => 4 | 22 => 23 | 23 => 25 | 25 => 42 | n => n, fun n => n⟩
theorem hi8 : SlLaysH.n8 Try.prog hi_ren where
  mixed := by kernel_rfl
  f6 := ⟨"slices.IndexFunc[[]scrim/api.Label,scrim/api.Label]", by decide, Try.func25.trans (congrArg some (by kernel_rfl))⟩
  f8 := ⟨"slices.ContainsFunc[[]scrim/api.Label,scrim/api.Label]", by decide, Try.func13.trans (congrArg some (by kernel_rfl))⟩
  t0 := Try.underlying0
  a0 := Try.isAgg0
  z0 := Try.sizeOf0
  v0 := Try.zeroValue0
  t3 := Try.underlying3
  a3 := Try.isAgg3
  z3 := Try.sizeOf3
  v3 := Try.zeroValue3
  t4 := Try.underlying4
  a4 := Try.isAgg4
  z4 := Try.sizeOf4
  v4 := Try.zeroValue4
  t22 := Try.underlying23
  a22 := Try.isAgg23
  z22 := Try.sizeOf23
  v22 := Try.zeroValue23
  a23 := Try.isAgg25
  z23 := Try.sizeOf25
  t25 := Try.underlying42
  a25 := Try.isAgg42
  z25 := Try.sizeOf42
  v25 := Try.zeroValue42
theorem hi6 : SlLaysH.n6 Try.prog hi_ren := { hi8 with }
theorem hi10 : SlLaysH.n10 Try.prog hi_ren := { hi8 with
  f10 := ⟨"slices.DeleteFunc[[]scrim/api.Label,scrim/api.Label]", by decide, Try.func16.trans (congrArg some (by kernel_rfl))⟩ }

/-- The two closures, in whatever world holds a in the captured variable's cell. -/
theorem hi_gives1 (a x : Nat64) (B : Nat) (W : World) (hc : W.cell? ⟨B, 0, none⟩ = some (encL a)) :
    FnGives Try.prog 14 #[.pointer (some ⟨B, 0, none⟩)] #[encL x] (.bool (belowB a.val x.val)) W := by
  show Calls Try.prog 14 #[.int .u64 (x.val : Nat), .pointer (some ⟨B, 0, none⟩)] W _
  have c := below_any a.val x.val W a.lt x.lt
  unfold encL at hc
  go_enter Try.func14, Try.ntmps14
  go_wp2_with (go_at_call 15; refine c.mono ?_; rintro e w' ⟨rfl, rfl⟩)
  go_ret
  exact ⟨rfl, 0, rfl⟩
theorem hi_gives2 (a x : Nat64) (B : Nat) (W : World) (hc : W.cell? ⟨B, 0, none⟩ = some (encL a)) :
    FnGives Try.prog 17 #[.pointer (some ⟨B, 0, none⟩)] #[encL x] (.bool (belowB x.val a.val)) W := by
  show Calls Try.prog 17 #[.int .u64 (x.val : Nat), .pointer (some ⟨B, 0, none⟩)] W _
  have c := below_any x.val a.val W x.lt a.lt
  unfold encL at hc
  go_enter Try.func17, Try.ntmps17
  go_wp2_with (go_at_call 15; refine c.mono ?_; rintro e w' ⟨rfl, rfl⟩)
  go_ret
  exact ⟨rfl, 0, rfl⟩
end Go.Proofs.Ytglpkadpohbfmaa
