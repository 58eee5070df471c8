/- For any two lists of hunks and any number: sizes, touches, touched lines and likeness are told as the document has them, in new memory; the law returns true, its arguments reading as before. No condition. -/
import Derived.Test.YtjmnbnlhahbcjaaHuCounts
import Derived.Test.YtjmnbnlhahbcjaaHuOpenH
import Derived.Test.YtjmnbnlhahbcjaaFrame
import Derived.Lib.SmallJoins
import Derived.SizedLaws
namespace Go.Proofs.Ytjmnbnlhahbcjaa.hunkCounts
open Go Go.ChangeShapes Go.WideShapes Go.ChangeAt Go.RowKit Go.Joins
open Go.ChangeMaps (open_string)

theorem own : ownKnob Try.prog.godebug = none := by kernel_rfl
theorem laidOut : laidOutB Try.prog = true := by kernel_rfl

set_option maxRecDepth 100000 in
theorem lifted (os : Os) (started : os.Started) (H : Type) (enc : TypeId × Value → H) :
    ReturnsInHanded {} Try.checked os 8 .any (Rows.hunkCountsSpec.pre6 enc Try.prog Try.f8 Rows.hunkCountsRow.domain false) (Rows.hunkCountsSpec.post enc Try.prog Try.f8 false true false false) := by
  refine returnsInHanded_of_change_sized (C := Try.checked) own started (by kernel_rfl) Try.func8
    (ChangeSpec.witness6 (enc := enc) (C := Try.checked) false ⟨#[], #[.slice none 0 0, .slice none 0 0, .int .i64 0], []⟩ 8 (by kernel_rfl) (by kernel_rfl) (by kernel_rfl) (by kernel_rfl)) ?_
  intro W base args ds gs before hval0 hW hcnd hsz0 _
  have hval : ∀ (j : Nat) t v, Try.f8.params[j]? = some t → args[j]? = some v → Value.okWide Try.prog W .any base t v := hval0
  have hsz : (DataW.weightsEach Try.prog (Try.f8.params.toList ++ Rows.hunkCountsSpec.plain.varTypes Try.prog) (ds ++ gs)).all (· ≤ reachBytes) = true := hsz0
  have hW' := hW
  obtain ⟨p, q, hA0, hV, rfl, hfz, hnd⟩ := hW
  have hA : DataW.TrodAll enc Try.prog W 0 (fun _ => true) true Try.f8.params.toList args.toList ds p := hA0
  rw [Try.params8] at hA hval hsz
  obtain ⟨v0, v1, v2, d0, d1, d2, p0, p1, p2, rfl, rfl, rfl, h0, h1, h2⟩ := trodAll_three hA
  obtain ⟨rfl, rfl⟩ := trodVars_none hV
  have bytesHk : Try.prog.bytesOf 47 = 56 := by kernel_rfl
  obtain ⟨px, nx, cx, xs, rfl, hlx, hrx, hzx, hwx, hkx⟩ := open_hus (hval 0 40 v0 rfl rfl) h0
  have hnx : nx ≤ 2513169434843 := by
    rcases hzx with rfl | ⟨elems, spare, rfl, hl⟩
    · omega
    · have h := sized_slice hsz (j := 0) (t := 40) (e := 47) rfl rfl Try.underlying40
      rw [bytesHk, hl] at h
      simp only [reachBytes] at h
      omega
  have hbx : HuB xs := fun y hy => (hwx y hy).le fun n hn => sized_tx hsz (j := 0) rfl rfl hn
  obtain ⟨py, ny, cy, ys, rfl, hly, hry, hzy, hwy, hky⟩ := open_hus (hval 1 40 v1 rfl rfl) h1
  have hny : ny ≤ 2513169434843 := by
    rcases hzy with rfl | ⟨elems, spare, rfl, hl⟩
    · omega
    · have h := sized_slice hsz (j := 1) (t := 40) (e := 47) rfl rfl Try.underlying40
      rw [bytesHk, hl] at h
      simp only [reachBytes] at h
      omega
  have hby : HuB ys := fun y hy => (hwy y hy).le fun n hn => sized_tx hsz (j := 1) rfl rfl hn
  obtain ⟨k, rfl, rfl, rfl, wk⟩ := open_int Try.underlying3 (hval 2 3 v2 rfl rfl) h2
  refine (hunkCounts_any W px nx cx xs py ny cy ys k hlx (by omega) hrx hbx hly (by omega) hry hby).mono fun e W' ⟨he, bel⟩ => ⟨_, he, ?_⟩
  exact law_post (tb := 4) laidOut (by kernel_rfl) (by kernel_rfl) Try.underlying4 ⟨rfl, fun H ds hd => by
    match ds, hd with
    | [_, _, _], _ => exact ⟨rfl, rfl, rfl⟩⟩ hW' bel

theorem proved : Rows.HunkCountsSaid :=
  OpenClaim.holds_of_wide 8 Try.f8 rfl rfl rfl rfl rfl rfl rfl ⟨rfl, rfl, rfl, rfl, rfl⟩ rfl rfl rfl rfl rfl (by kernel_rfl) Try.func8 (by kernel_rfl)
    (of_decide_eq_true (by kernel_rfl)) (by unfold Func.isWrapper; first | (rw [if_pos (by decide +kernel)]; kernel_rfl) | (rw [if_neg (by decide +kernel)]; exact ⟨rfl, rfl⟩))
    (fun os started H enc _ => lifted os started H enc)
end Go.Proofs.Ytjmnbnlhahbcjaa.hunkCounts
