/- For any hunks: what undoes them is told as the document has it, or the refusal, in new memory, each list; what was answered may be written over and grown; the law returns true, its argument reading as before. No condition. -/
import Derived.Test.YtjmnbnlhahbcjaaHuInverts
import Derived.Test.YtjmnbnlhahbcjaaHuOpenH
import Derived.Test.YtjmnbnlhahbcjaaFrame
import Derived.Lib.SmallJoins
import Derived.SizedLaws
namespace Go.Proofs.Ytjmnbnlhahbcjaa.hunkInverts
open Go Go.ChangeShapes Go.WideShapes Go.ChangeAt Go.RowKit Go.Joins
open Go.ChangeMaps (open_string)

theorem own : ownKnob Try.prog.godebug = none := by kernel_rfl
theorem laidOut : laidOutB Try.prog = true := by kernel_rfl

set_option maxRecDepth 100000 in
theorem lifted (os : Os) (started : os.Started) (H : Type) (enc : TypeId × Value → H) :
    ReturnsInHanded {} Try.checked os 7 .any (Rows.hunkInvertsSpec.pre6 enc Try.prog Try.f7 Rows.hunkInvertsRow.domain false) (Rows.hunkInvertsSpec.post enc Try.prog Try.f7 false true false false) := by
  refine returnsInHanded_of_change_sized (C := Try.checked) own started (by kernel_rfl) Try.func7
    (ChangeSpec.witness6 (enc := enc) (C := Try.checked) false ⟨#[], #[.slice none 0 0], []⟩ 8 (by kernel_rfl) (by kernel_rfl) (by kernel_rfl) (by kernel_rfl)) ?_
  intro W base args ds gs before hval0 hW hcnd hsz0 _
  have hval : ∀ (j : Nat) t v, Try.f7.params[j]? = some t → args[j]? = some v → Value.okWide Try.prog W .any base t v := hval0
  have hsz : (DataW.weightsEach Try.prog (Try.f7.params.toList ++ Rows.hunkInvertsSpec.plain.varTypes Try.prog) (ds ++ gs)).all (· ≤ reachBytes) = true := hsz0
  have hW' := hW
  obtain ⟨p, q, hA0, hV, rfl, hfz, hnd⟩ := hW
  have hA : DataW.TrodAll enc Try.prog W 0 (fun _ => true) true Try.f7.params.toList args.toList ds p := hA0
  rw [Try.params7] at hA hval hsz
  obtain ⟨v0, d0, rfl, rfl, h0⟩ := trodAll_one hA
  obtain ⟨rfl, rfl⟩ := trodVars_none hV
  have bytesHk : Try.prog.bytesOf 47 = 56 := by kernel_rfl
  obtain ⟨px, nx, cx, xs, rfl, hlx, hrx, hzx, hwx, hkx⟩ := open_hus (hval 0 40 v0 rfl rfl) h0
  have hnx : nx ≤ 2513169434843 := by
    rcases hzx with rfl | ⟨elems, spare, rfl, hl⟩
    · omega
    · have h := sized_slice hsz (j := 0) (t := 40) (e := 47) rfl rfl Try.underlying40
      rw [bytesHk, hl] at h
      simp only [reachBytes] at h
      omega
  have hbx : HuB xs := fun y hy => (hwx y hy).le fun n hn => sized_tx hsz (j := 0) rfl rfl hn
  refine (hunkInverts_any W px nx cx xs hlx (by omega) hrx hbx).mono fun e W' ⟨he, bel⟩ => ⟨_, he, ?_⟩
  exact law_post (tb := 4) laidOut (by kernel_rfl) (by kernel_rfl) Try.underlying4 ⟨rfl, fun H ds hd => by
    match ds, hd with
    | [_], _ => exact ⟨rfl, rfl, rfl⟩⟩ hW' bel

theorem proved : Rows.HunkInvertsSaid :=
  OpenClaim.holds_of_wide 7 Try.f7 rfl rfl rfl rfl rfl rfl rfl ⟨rfl, rfl, rfl, rfl, rfl⟩ rfl rfl rfl rfl rfl (by kernel_rfl) Try.func7 (by kernel_rfl)
    (of_decide_eq_true (by kernel_rfl)) (by unfold Func.isWrapper; first | (rw [if_pos (by decide +kernel)]; kernel_rfl) | (rw [if_neg (by decide +kernel)]; exact ⟨rfl, rfl⟩))
    (fun os started H enc _ => lifted os started H enc)
end Go.Proofs.Ytjmnbnlhahbcjaa.hunkInverts
