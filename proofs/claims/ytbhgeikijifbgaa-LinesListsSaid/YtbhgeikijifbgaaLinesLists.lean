/- For any two lists of lines and any number: the lines are told by their texts and compared as the document says, nothing that was handed in is written to, and the law returns true. No condition. -/
import Derived.Test.YtbhgeikijifbgaaListsWalk
import Derived.Test.YtbhgeikijifbgaaLnOpen
import Derived.Test.YtbhgeikijifbgaaFrame
import Derived.SizedLaws
namespace Go.Proofs.Ytbhgeikijifbgaa.linesLists
open Go Go.ChangeShapes Go.WideShapes Go.ChangeAt Go.RowKit Go.Joins

theorem own : ownKnob Try.prog.godebug = none := by kernel_rfl
theorem laidOut : laidOutB Try.prog = true := by kernel_rfl
theorem bytesLine : Try.prog.bytesOf 25 = 40 := by kernel_rfl

set_option maxRecDepth 100000 in
theorem lifted (os : Os) (started : os.Started) (H : Type) (enc : TypeId × Value → H) :
    ReturnsInHanded {} Try.checked os 4 .any (Rows.linesListsSpec.pre6 enc Try.prog Try.f4 Rows.linesListsRow.domain false) (Rows.linesListsSpec.post enc Try.prog Try.f4 false true false false) := by
  refine returnsInHanded_of_change_sized (C := Try.checked) own started (by kernel_rfl) Try.func4
    (ChangeSpec.witness6 (enc := enc) (C := Try.checked) false ⟨#[], #[.slice none 0 0, .slice none 0 0, .int .i64 0], []⟩ 8 (by kernel_rfl) (by kernel_rfl) (by kernel_rfl) (by kernel_rfl)) ?_
  intro W base args ds gs before hval0 hW hcnd hsz0 _
  have hval : ∀ (j : Nat) t v, Try.f4.params[j]? = some t → args[j]? = some v → Value.okWide Try.prog W .any base t v := hval0
  have hsz : (DataW.weightsEach Try.prog (Try.f4.params.toList ++ Rows.linesListsSpec.plain.varTypes Try.prog) (ds ++ gs)).all (· ≤ reachBytes) = true := hsz0
  have hW' := hW
  obtain ⟨p, q, hA0, hV, rfl, hfz, hnd⟩ := hW
  have hA : DataW.TrodAll enc Try.prog W 0 (fun _ => true) true Try.f4.params.toList args.toList ds p := hA0
  rw [Try.params4] at hA hval hsz
  obtain ⟨v0, v1, v2, d0, d1, d2, p0, p1, p2, rfl, rfl, rfl, h0, h1, h2⟩ := trodAll_three hA
  obtain ⟨rfl, rfl⟩ := trodVars_none hV
  obtain ⟨pa, na, ca, xs, rfl, hn, hxs, hnil, _, ha⟩ := open_lines (hval 0 30 v0 rfl rfl) h0
  obtain ⟨pb, nb, cb, ys, rfl, hnb, hys, _, _, _⟩ := open_lines (hval 1 30 v1 rfl rfl) h1
  obtain ⟨n, rfl, rfl, rfl, wn⟩ := open_int Try.underlying3 (hval 2 3 v2 rfl rfl) h2
  obtain ⟨n0, n1⟩ := bounds_i64 wn
  have hna : na ≤ 3518437208883 := by
    rcases ha with rfl | ⟨elems, spare, rfl, hl⟩
    · omega
    · have h := sized_slice hsz (j := 0) (t := 30) (e := 25) rfl rfl Try.underlying30
      rw [bytesLine, hl] at h
      simp only [reachBytes] at h
      omega
  refine (linesLists_any W pa pb na nb ca cb xs ys n hxs hys hn hnb hna hnil n0 n1).mono fun e W' ⟨he, bel⟩ => ⟨_, he, ?_⟩
  exact law_post (tb := 4) laidOut (by kernel_rfl) (by kernel_rfl) Try.underlying4 ⟨rfl, fun H ds hd => by
    match ds, hd with
    | [_, _, _], _ => exact ⟨rfl, rfl, rfl⟩⟩ hW' bel

theorem proved : Rows.LinesListsSaid :=
  OpenClaim.holds_of_wide 4 Try.f4 rfl rfl rfl rfl rfl rfl rfl ⟨rfl, rfl, rfl, rfl, rfl⟩ rfl rfl rfl rfl rfl (by kernel_rfl) Try.func4 (by kernel_rfl)
    (of_decide_eq_true (by kernel_rfl)) (by unfold Func.isWrapper; first | (rw [if_pos (by decide +kernel)]; kernel_rfl) | (rw [if_neg (by decide +kernel)]; exact ⟨rfl, rfl⟩))
    (fun os started H enc _ => lifted os started H enc)
end Go.Proofs.Ytbhgeikijifbgaa.linesLists
