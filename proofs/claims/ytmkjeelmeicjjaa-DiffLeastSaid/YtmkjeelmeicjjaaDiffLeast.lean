/- For any two lists of texts and any pairs of places: of the lists' first hundred texts as many stay as the greatest rising list of equal pairs has, no pairs found at the places are more, and with the lists turned about, or the other way round, as many stay; the law returns true, its arguments reading as before. No condition. -/
import Derived.Test.YtmkjeelmeicjjaaDfLeast
import Derived.Test.YtmkjeelmeicjjaaDfNumOpen
import Derived.Test.YtmkjeelmeicjjaaFrame
import Derived.Lib.SmallJoins
import Derived.SizedLaws
namespace Go.Proofs.Ytmkjeelmeicjjaa.diffLeast
open Go Go.ChangeShapes Go.WideShapes Go.ChangeAt Go.RowKit Go.Joins
open Go.ChangeMaps (open_string)

theorem own : ownKnob Try.prog.godebug = none := by kernel_rfl
theorem laidOut : laidOutB Try.prog = true := by kernel_rfl

set_option maxRecDepth 100000 in
theorem lifted (os : Os) (started : os.Started) (H : Type) (enc : TypeId × Value → H) :
    ReturnsInHanded {} Try.checked os 8 .any (Rows.diffLeastSpec.pre6 enc Try.prog Try.f8 Rows.diffLeastRow.domain false) (Rows.diffLeastSpec.post enc Try.prog Try.f8 false true false false) := by
  refine returnsInHanded_of_change_sized (C := Try.checked) own started (by kernel_rfl) Try.func8
    (ChangeSpec.witness6 (enc := enc) (C := Try.checked) false ⟨#[], #[.slice none 0 0, .slice none 0 0, .slice none 0 0], []⟩ 8 (by kernel_rfl) (by kernel_rfl) (by kernel_rfl) (by kernel_rfl)) ?_
  intro W base args ds gs before hval0 hW hcnd hsz0 _
  have hval : ∀ (j : Nat) t v, Try.f8.params[j]? = some t → args[j]? = some v → Value.okWide Try.prog W .any base t v := hval0
  have hsz : (DataW.weightsEach Try.prog (Try.f8.params.toList ++ Rows.diffLeastSpec.plain.varTypes Try.prog) (ds ++ gs)).all (· ≤ reachBytes) = true := hsz0
  have hW' := hW
  obtain ⟨p, q, hA0, hV, rfl, hfz, hnd⟩ := hW
  have hA : DataW.TrodAll enc Try.prog W 0 (fun _ => true) true Try.f8.params.toList args.toList ds p := hA0
  rw [Try.params8] at hA hval hsz
  obtain ⟨v0, v1, v2, d0, d1, d2, p0, p1, p2, rfl, rfl, rfl, h0, h1, h2⟩ := trodAll_three hA
  obtain ⟨rfl, rfl⟩ := trodVars_none hV
  have bytesStr : Try.prog.bytesOf 9 = 16 := by kernel_rfl
  obtain ⟨px, nx, cx, xs, rfl, hlx, hrx, hix, hcx, hzx, hwx⟩ := open_txs (hval 0 34 v0 rfl rfl) h0
  have hnx : nx ≤ 8796093021952 := by
    rcases hzx with rfl | ⟨elems, spare, rfl, hl⟩
    · omega
    · have h := sized_slice hsz (j := 0) (t := 34) (e := 9) rfl rfl Try.underlying34
      rw [bytesStr, hl] at h
      simp only [reachBytes] at h
      omega
  have hsx : ∀ t ∈ xs, t.size ≤ 140737488355328 := fun t ht => by
    have := sized_tx hsz (j := 0) rfl rfl (hwx t ht)
    simp only [reachBytes] at this
    omega
  obtain ⟨py, ny, cy, ys, rfl, hly, hry, hiy, hcy, hzy, hwy⟩ := open_txs (hval 1 34 v1 rfl rfl) h1
  have hny : ny ≤ 8796093021952 := by
    rcases hzy with rfl | ⟨elems, spare, rfl, hl⟩
    · omega
    · have h := sized_slice hsz (j := 1) (t := 34) (e := 9) rfl rfl Try.underlying34
      rw [bytesStr, hl] at h
      simp only [reachBytes] at h
      omega
  have hsy : ∀ t ∈ ys, t.size ≤ 140737488355328 := fun t ht => by
    have := sized_tx hsz (j := 1) rfl rfl (hwy t ht)
    simp only [reachBytes] at this
    omega
  obtain ⟨pk, nk, ck, ks, rfl, hlk, hrk, _, _, hak⟩ := open_nums Try.underlying55 Try.underlying3 (by kernel_rfl) (hval 2 55 v2 rfl rfl) h2
  have hnk : nk ≤ 140737488355328 := by
    rcases hak with rfl | ⟨elems, spare, rfl, hl⟩
    · omega
    · have h := sized_slice hsz (j := 2) (t := 55) (e := 3) rfl rfl Try.underlying55
      rw [show Try.prog.bytesOf 3 = 8 by kernel_rfl, hl] at h
      simp only [reachBytes] at h
      omega
  refine (diffLeast_any W px py pk nx ny nk cx cy ck xs ys ks hlx hly hlk hnx hny hnk hrx hry hrk hix hiy hcx hcy (fun t ht => by unfold maxLen; exact (List.mem_append.1 ht).elim (fun h => by have := hsx t h; omega) (fun h => by have := hsy t h; omega))).mono fun e W' ⟨he, bel⟩ => ⟨_, he, ?_⟩
  exact law_post (tb := 4) laidOut (by kernel_rfl) (by kernel_rfl) Try.underlying4 ⟨rfl, fun H ds hd => by
    match ds, hd with
    | [_, _, _], _ => exact ⟨rfl, rfl, rfl⟩⟩ hW' bel

theorem proved : Rows.DiffLeastSaid :=
  OpenClaim.holds_of_wide 8 Try.f8 rfl rfl rfl rfl rfl rfl rfl ⟨rfl, rfl, rfl, rfl, rfl⟩ rfl rfl rfl rfl rfl (by kernel_rfl) Try.func8 (by kernel_rfl)
    (of_decide_eq_true (by kernel_rfl)) (by unfold Func.isWrapper; first | (rw [if_pos (by decide +kernel)]; kernel_rfl) | (rw [if_neg (by decide +kernel)]; exact ⟨rfl, rfl⟩))
    (fun os started H enc _ => lifted os started H enc)
end Go.Proofs.Ytmkjeelmeicjjaa.diffLeast
