/- For any two lists of texts and any text: with that text ahead of each of them, the patch between the lists stands at the same places and has as many texts, and the same stay; the law returns true, its arguments reading as before. No condition. -/
import Derived.Test.YtmkjeelmeicjjaaDfApart
import Derived.Test.YtmkjeelmeicjjaaFrame
import Derived.Lib.SmallJoins
import Derived.SizedLaws
namespace Go.Proofs.Ytmkjeelmeicjjaa.diffNamesApart
open Go Go.ChangeShapes Go.WideShapes Go.ChangeAt Go.RowKit Go.Joins
open Go.ChangeMaps (open_string)

theorem own : ownKnob Try.prog.godebug = none := by kernel_rfl
theorem laidOut : laidOutB Try.prog = true := by kernel_rfl

set_option maxRecDepth 100000 in
theorem lifted (os : Os) (started : os.Started) (H : Type) (enc : TypeId × Value → H) :
    ReturnsInHanded {} Try.checked os 9 .any (Rows.diffNamesApartSpec.pre6 enc Try.prog Try.f9 Rows.diffNamesApartRow.domain false) (Rows.diffNamesApartSpec.post enc Try.prog Try.f9 false true false false) := by
  refine returnsInHanded_of_change_sized (C := Try.checked) own started (by kernel_rfl) Try.func9
    (ChangeSpec.witness6 (enc := enc) (C := Try.checked) false ⟨#[], #[.slice none 0 0, .slice none 0 0, .string ByteArray.empty], []⟩ 8 (by kernel_rfl) (by kernel_rfl) (by kernel_rfl) (by kernel_rfl)) ?_
  intro W base args ds gs before hval0 hW hcnd hsz0 _
  have hval : ∀ (j : Nat) t v, Try.f9.params[j]? = some t → args[j]? = some v → Value.okWide Try.prog W .any base t v := hval0
  have hsz : (DataW.weightsEach Try.prog (Try.f9.params.toList ++ Rows.diffNamesApartSpec.plain.varTypes Try.prog) (ds ++ gs)).all (· ≤ reachBytes) = true := hsz0
  have hW' := hW
  obtain ⟨p, q, hA0, hV, rfl, hfz, hnd⟩ := hW
  have hA : DataW.TrodAll enc Try.prog W 0 (fun _ => true) true Try.f9.params.toList args.toList ds p := hA0
  rw [Try.params9] at hA hval hsz
  obtain ⟨v0, v1, v2, d0, d1, d2, p0, p1, p2, rfl, rfl, rfl, h0, h1, h2⟩ := trodAll_three hA
  obtain ⟨rfl, rfl⟩ := trodVars_none hV
  have bytesStr : Try.prog.bytesOf 9 = 16 := by kernel_rfl
  obtain ⟨px, nx, cx, xs, rfl, hlx, hrx, hix, hcx, hzx, hwx⟩ := open_txs (hval 0 34 v0 rfl rfl) h0
  have hnx : nx ≤ 8796093021952 := by
    rcases hzx with rfl | ⟨elems, spare, rfl, hl⟩
    · omega
    · have h := sized_slice hsz (j := 0) (t := 34) (e := 9) rfl rfl Try.underlying34
      rw [bytesStr, hl] at h
      simp only [reachBytes] at h
      omega
  have hsx : ∀ t ∈ xs, t.size ≤ 140737488355328 := fun t ht => by
    have := sized_tx hsz (j := 0) rfl rfl (hwx t ht)
    simp only [reachBytes] at this
    omega
  obtain ⟨py, ny, cy, ys, rfl, hly, hry, hiy, hcy, hzy, hwy⟩ := open_txs (hval 1 34 v1 rfl rfl) h1
  have hny : ny ≤ 8796093021952 := by
    rcases hzy with rfl | ⟨elems, spare, rfl, hl⟩
    · omega
    · have h := sized_slice hsz (j := 1) (t := 34) (e := 9) rfl rfl Try.underlying34
      rw [bytesStr, hl] at h
      simp only [reachBytes] at h
      omega
  have hsy : ∀ t ∈ ys, t.size ≤ 140737488355328 := fun t ht => by
    have := sized_tx hsz (j := 1) rfl rfl (hwy t ht)
    simp only [reachBytes] at this
    omega
  obtain ⟨u, rfl, rfl, rfl, wu⟩ := open_string Try.underlying9 (hval 2 9 v2 rfl rfl) h2
  have hu : u.size ≤ 140737488355328 := by
    have := sized_tx hsz (j := 2) (t := 9) (n := u.size) rfl rfl (by simp [DataW.weights])
    simp only [reachBytes] at this
    omega
  refine (diffApart_any W px py nx ny cx cy xs ys u hlx hly hnx hny hrx hry hix hiy hcx hcy hu hsx hsy).mono fun e W' ⟨he, bel⟩ => ⟨_, he, ?_⟩
  exact law_post (tb := 4) laidOut (by kernel_rfl) (by kernel_rfl) Try.underlying4 ⟨rfl, fun H ds hd => by
    match ds, hd with
    | [_, _, _], _ => exact ⟨rfl, rfl, rfl⟩⟩ hW' bel

theorem proved : Rows.DiffNamesApartSaid :=
  OpenClaim.holds_of_wide 9 Try.f9 rfl rfl rfl rfl rfl rfl rfl ⟨rfl, rfl, rfl, rfl, rfl⟩ rfl rfl rfl rfl rfl (by kernel_rfl) Try.func9 (by kernel_rfl)
    (of_decide_eq_true (by kernel_rfl)) (by unfold Func.isWrapper; first | (rw [if_pos (by decide +kernel)]; kernel_rfl) | (rw [if_neg (by decide +kernel)]; exact ⟨rfl, rfl⟩))
    (fun os started H enc _ => lifted os started H enc)
end Go.Proofs.Ytmkjeelmeicjjaa.diffNamesApart
