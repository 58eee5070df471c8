/- label's own Highest, by its contract. -/
import Derived.Test.YtglpkadpohbfmaaLbHi
import Derived.Test.YtglpkadpohbfmaaOwnAppend
import Derived.Laws.OwnMore
namespace Go.Proofs.Ytglpkadpohbfmaa
open Go.RowKit Go.Sort

theorem encL_one : OneCell encL := fun _ => rfl

theorem hi_contains (a : Nat64) (B base : Nat) (H : List Nat64) (v : Value) (W : World) (hB : B < W.heap.size) (hc : W.cell? ⟨B, 0, none⟩ = some (encL a)) (ho : W.ownsRow base 25 1 v H.length (H.map encL)) (hl : H.length ≤ 1000) :
    Calls Try.prog 13 #[v, .func (.func 14) #[] #[.pointer (some ⟨B, 0, none⟩)]] W fun e w' => e = .returned (.bool (H.any fun b => belowB a.val b.val)) ∧ ∃ q, w' = W.drewN q := by
  by_cases hv : v = .slice none 0 0
  · subst hv
    have h0 : H = [] := by
      rcases ho.2 with ⟨_, h⟩ | ⟨g, cap, cur, h, _⟩
      · exact List.length_eq_zero_iff.1 h
      · cases h
    subst h0
    exact (AnyE.slices_ContainsFunc_empty hi8 none 0 _ W).mono fun e w' ⟨h1, h2⟩ => ⟨h1, 0, h2⟩
  · obtain ⟨g, cap, rfl, hb, hg, hn, hm, hlen, hH⟩ := Lib.holds_of_ownsRow ho hv
    have eg : ∀ args w, (callFunc 14 args).run Try.prog w = .ok (.enter 14 args) w := enters_of Try.func14 (by kernel_rfl) rfl
    have h := AnyE.slices_ContainsFunc hi8 encL (fun b => belowB a.val b.val) 14 #[.pointer (some ⟨B, 0, none⟩)] eg g 0 H.length cap H W (fun W' x hb' => hi_gives1 a x B W' ((hb'.cell (p := ⟨B, 0, none⟩) hB).trans hc)) (Nat.le_refl _) (by omega) (fun j hj => by
      have := (hH j (by simpa using hj)).1
      rw [this]
      simp [getElem!_pos, hj])
    rw [List.take_length] at h
    exact h

/-- slices.IndexFunc at nil, slices.DeleteFunc at nil. -/
theorem hi_delete_nil (fv : Value) (W : World) :
    Calls Try.prog 16 #[.slice none 0 0, fv] W fun e w' => e = .returned (.slice none 0 0) ∧ w' = W := by
  have c : Calls Try.prog 25 #[.slice none 0 0, fv] W fun e w' => e = .returned (.int .i64 (-1)) ∧ w' = W := AnyE.slices_IndexFunc_empty hi6 none 0 fv W
  go_enter Try.func16, Try.ntmps16
  go_wp2_with (go_at_call 25; refine c.mono ?_; rintro e w' ⟨rfl, rfl⟩)
  go_ret
  exact ⟨rfl, rfl⟩

theorem hi_delete (a : Nat64) (B base : Nat) (H : List Nat64) (v : Value) (w W : World) (hbw : Below base w W) (hB : B < W.heap.size) (hne : ∀ g, v.ownBlock = some g → g < B) (hc : W.cell? ⟨B, 0, none⟩ = some (encL a)) (ho : W.ownsRow base 25 1 v H.length (H.map encL)) (hl : H.length ≤ 1000) :
    Calls Try.prog 16 #[v, .func (.func 17) #[] #[.pointer (some ⟨B, 0, none⟩)]] W fun e w' => ∃ v', e = .returned v' ∧
      w'.ownsRow base 25 1 v' (H.filter fun b => !belowB b.val a.val).length ((H.filter fun b => !belowB b.val a.val).map encL) ∧ Below base w w' ∧ w'.cell? ⟨B, 0, none⟩ = some (encL a) ∧ w'.heap.size = W.heap.size := by
  by_cases hv : v = .slice none 0 0
  · subst hv
    have h0 : H = [] := by
      rcases ho.2 with ⟨_, h⟩ | ⟨g, cap, cur, h, _⟩
      · exact List.length_eq_zero_iff.1 h
      · cases h
    subst h0
    exact (hi_delete_nil _ W).mono fun e w' ⟨h1, h2⟩ => ⟨_, h1, by rw [h2]; exact ho, by rw [h2]; exact hbw, by rw [h2]; exact hc, by rw [h2]⟩
  · obtain ⟨g, cap, rfl, hb, hg, hn, hm, hlen, hH⟩ := Lib.holds_of_ownsRow ho hv
    have hgB : g < B := hne g rfl
    have eg : ∀ args w, (callFunc 17 args).run Try.prog w = .ok (.enter 17 args) w := enters_of Try.func17 (by kernel_rfl) rfl
    have h := AnyE.slices_DeleteFunc hi10 encL encL_one (fun b => belowB b.val a.val) 17 #[.pointer (some ⟨B, 0, none⟩)] eg ⟨0, by decide⟩ Try.zeroValue25 g 0 cap H.toArray W (fun W' x hb' => hi_gives2 a x B W' ((hb'.cell (p := ⟨B, 0, none⟩) hB).trans hc))
      (fun n os dk x _ => hi_gives2 a x B _ (by
        unfold sortWorld
        rw [cell?_grow _ _ _ (by show B < (putRow _ _ _ _ _).heap.size; rw [size_putRow]; exact hB), cell?_putRow_other _ _ g 0 _ _ (Or.inl (by show B ≠ g; omega))]
        exact hc)) hH (by simp; omega) (by simp; omega)
    have hk := List.length_filter_le (fun b : Nat64 => !belowB b.val a.val) H
    simp only [List.size_toArray] at h
    refine h.mono ?_
    rintro e w' ⟨rfl, q, rfl⟩
    refine ⟨_, rfl, ?_, Lib.below_putRow hbw hb, ?_, by rw [size_putRow]; rfl⟩
    · have h2 := Lib.ownsRow_putRow (q := q) (k := (H.filter fun b => !belowB b.val a.val).length) (ys := (H.filter fun b => !belowB b.val a.val) ++ List.replicate (H.length - (H.filter fun b => !belowB b.val a.val).length) (⟨0, by decide⟩ : Nat64)) ho (by simp; omega) hk
      rw [List.take_left'] at h2
      · exact h2
      · rfl
    · rw [cell?_putRow_other _ _ g 0 _ _ (Or.inl (by show B ≠ g; omega))]
      exact hc
end Go.Proofs.Ytglpkadpohbfmaa
