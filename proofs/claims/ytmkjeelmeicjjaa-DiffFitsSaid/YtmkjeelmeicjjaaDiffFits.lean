/- For any two lists of texts: the patch between them fits the one and makes the other of it, takes off and adds no more than stands between their common beginning and end, just what does not stay, and is none just if both are the same; the law returns true, its arguments reading as before. No condition. -/
import Derived.Test.YtmkjeelmeicjjaaDfFits
import Derived.Test.YtmkjeelmeicjjaaFrame
import Derived.Lib.SmallJoins
import Derived.SizedLaws
namespace Go.Proofs.Ytmkjeelmeicjjaa.diffFits
open Go Go.ChangeShapes Go.WideShapes Go.ChangeAt Go.RowKit Go.Joins
open Go.ChangeMaps (open_string)

theorem own : ownKnob Try.prog.godebug = none := by kernel_rfl
theorem laidOut : laidOutB Try.prog = true := by kernel_rfl

set_option maxRecDepth 100000 in
theorem lifted (os : Os) (started : os.Started) (H : Type) (enc : TypeId × Value → H) :
    ReturnsInHanded {} Try.checked os 7 .any (Rows.diffFitsSpec.pre6 enc Try.prog Try.f7 Rows.diffFitsRow.domain false) (Rows.diffFitsSpec.post enc Try.prog Try.f7 false true false false) := by
  refine returnsInHanded_of_change_sized (C := Try.checked) own started (by kernel_rfl) Try.func7
    (ChangeSpec.witness6 (enc := enc) (C := Try.checked) false ⟨#[], #[.slice none 0 0, .slice none 0 0], []⟩ 8 (by kernel_rfl) (by kernel_rfl) (by kernel_rfl) (by kernel_rfl)) ?_
  intro W base args ds gs before hval0 hW hcnd hsz0 _
  have hval : ∀ (j : Nat) t v, Try.f7.params[j]? = some t → args[j]? = some v → Value.okWide Try.prog W .any base t v := hval0
  have hsz : (DataW.weightsEach Try.prog (Try.f7.params.toList ++ Rows.diffFitsSpec.plain.varTypes Try.prog) (ds ++ gs)).all (· ≤ reachBytes) = true := hsz0
  have hW' := hW
  obtain ⟨p, q, hA0, hV, rfl, hfz, hnd⟩ := hW
  have hA : DataW.TrodAll enc Try.prog W 0 (fun _ => true) true Try.f7.params.toList args.toList ds p := hA0
  rw [Try.params7] at hA hval hsz
  obtain ⟨v0, v1, d0, d1, p0, p1, rfl, rfl, rfl, h0, h1⟩ := trodAll_two hA
  obtain ⟨rfl, rfl⟩ := trodVars_none hV
  have bytesStr : Try.prog.bytesOf 9 = 16 := by kernel_rfl
  obtain ⟨px, nx, cx, xs, rfl, hlx, hrx, hix, hcx, hzx, hwx⟩ := open_txs (hval 0 34 v0 rfl rfl) h0
  have hnx : nx ≤ 8796093021952 := by
    rcases hzx with rfl | ⟨elems, spare, rfl, hl⟩
    · omega
    · have h := sized_slice hsz (j := 0) (t := 34) (e := 9) rfl rfl Try.underlying34
      rw [bytesStr, hl] at h
      simp only [reachBytes] at h
      omega
  have hsx : ∀ t ∈ xs, t.size ≤ 140737488355328 := fun t ht => by
    have := sized_tx hsz (j := 0) rfl rfl (hwx t ht)
    simp only [reachBytes] at this
    omega
  obtain ⟨py, ny, cy, ys, rfl, hly, hry, hiy, hcy, hzy, hwy⟩ := open_txs (hval 1 34 v1 rfl rfl) h1
  have hny : ny ≤ 8796093021952 := by
    rcases hzy with rfl | ⟨elems, spare, rfl, hl⟩
    · omega
    · have h := sized_slice hsz (j := 1) (t := 34) (e := 9) rfl rfl Try.underlying34
      rw [bytesStr, hl] at h
      simp only [reachBytes] at h
      omega
  have hsy : ∀ t ∈ ys, t.size ≤ 140737488355328 := fun t ht => by
    have := sized_tx hsz (j := 1) rfl rfl (hwy t ht)
    simp only [reachBytes] at this
    omega
  refine (diffFits_any W px py nx ny cx cy xs ys hlx hly hnx hny hrx hry hix hiy hcx hcy hsx hsy).mono fun e W' ⟨he, bel⟩ => ⟨_, he, ?_⟩
  exact law_post (tb := 4) laidOut (by kernel_rfl) (by kernel_rfl) Try.underlying4 ⟨rfl, fun H ds hd => by
    match ds, hd with
    | [_, _], _ => exact ⟨rfl, rfl, rfl⟩⟩ hW' bel

theorem proved : Rows.DiffFitsSaid :=
  OpenClaim.holds_of_wide 7 Try.f7 rfl rfl rfl rfl rfl rfl rfl ⟨rfl, rfl, rfl, rfl, rfl⟩ rfl rfl rfl rfl rfl (by kernel_rfl) Try.func7 (by kernel_rfl)
    (of_decide_eq_true (by kernel_rfl)) (by unfold Func.isWrapper; first | (rw [if_pos (by decide +kernel)]; kernel_rfl) | (rw [if_neg (by decide +kernel)]; exact ⟨rfl, rfl⟩))
    (fun os started H enc _ => lifted os started H enc)
end Go.Proofs.Ytmkjeelmeicjjaa.diffFits
