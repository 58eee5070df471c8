/- For any two lists of lines and any clearance: lines are put in the place of those that are seen, or refused, as the document has it; labels are told; likeness is told; in new memory; the law returns true, its arguments reading as before. No condition. -/
import Derived.Test.YtdpikdkhemhmdaaViPutsW
import Derived.Test.YtdpikdkhemhmdaaIdOpen
import Derived.Test.YtdpikdkhemhmdaaFrame
import Derived.Lib.SmallJoins
import Derived.SizedLaws
namespace Go.Proofs.Ytdpikdkhemhmdaa.viewPuts
open Go Go.ChangeShapes Go.WideShapes Go.ChangeAt Go.RowKit Go.Joins
open Go.ChangeMaps (open_string)

theorem own : ownKnob Try.prog.godebug = none := by kernel_rfl
theorem laidOut : laidOutB Try.prog = true := by kernel_rfl

set_option maxRecDepth 100000 in
theorem lifted (os : Os) (started : os.Started) (H : Type) (enc : TypeId × Value → H) :
    ReturnsInHanded {} Try.checked os 6 .any (Rows.viewPutsSpec.pre6 enc Try.prog Try.f6 Rows.viewPutsRow.domain false) (Rows.viewPutsSpec.post enc Try.prog Try.f6 false true false false) := by
  refine returnsInHanded_of_change_sized (C := Try.checked) own started (by kernel_rfl) Try.func6
    (ChangeSpec.witness6 (enc := enc) (C := Try.checked) false ⟨#[], #[.slice none 0 0, .slice none 0 0, .int .u64 0], []⟩ 8 (by kernel_rfl) (by kernel_rfl) (by kernel_rfl) (by kernel_rfl)) ?_
  intro W base args ds gs before hval0 hW hcnd hsz0 _
  have hval : ∀ (j : Nat) t v, Try.f6.params[j]? = some t → args[j]? = some v → Value.okWide Try.prog W .any base t v := hval0
  have hsz : (DataW.weightsEach Try.prog (Try.f6.params.toList ++ Rows.viewPutsSpec.plain.varTypes Try.prog) (ds ++ gs)).all (· ≤ reachBytes) = true := hsz0
  have hW' := hW
  obtain ⟨p, q, hA0, hV, rfl, hfz, hnd⟩ := hW
  have hA : DataW.TrodAll enc Try.prog W 0 (fun _ => true) true Try.f6.params.toList args.toList ds p := hA0
  rw [Try.params6] at hA hval hsz
  obtain ⟨v0, v1, v2, d0, d1, d2, p0, p1, p2, rfl, rfl, rfl, h0, h1, h2⟩ := trodAll_three hA
  obtain ⟨rfl, rfl⟩ := trodVars_none hV
  have bytesLine : Try.prog.bytesOf 26 = 40 := by kernel_rfl
  obtain ⟨pa, na, ca, xs, rfl, hna0, hxs, hnil0, hok0, ha0⟩ := open_lis (hval 0 22 v0 rfl rfl) h0
  have hna : na ≤ 3518437208780 := by
    rcases ha0 with rfl | ⟨elems, spare, rfl, hl⟩
    · omega
    · have h := sized_slice hsz (j := 0) (t := 22) (e := 26) rfl rfl Try.underlying22
      rw [bytesLine, hl] at h
      simp only [reachBytes] at h
      omega
  obtain ⟨pb, nb, cb, ys, rfl, hnb0, hys, hnil1, hok1, ha1⟩ := open_lis (hval 1 22 v1 rfl rfl) h1
  have hnb : nb ≤ 3518437208780 := by
    rcases ha1 with rfl | ⟨elems, spare, rfl, hl⟩
    · omega
    · have h := sized_slice hsz (j := 1) (t := 22) (e := 26) rfl rfl Try.underlying22
      rw [bytesLine, hl] at h
      simp only [reachBytes] at h
      omega
  obtain ⟨a0, rfl, rfl, rfl, wa⟩ := open_int Try.underlying23 (hval 2 23 v2 rfl rfl) h2
  obtain ⟨a, rfl, ha⟩ := lab_nat wa
  refine (viewPuts_any W pa pb na nb ca cb xs ys a hna0 hnb0 hna hnb hxs hys hnil0 hnil1 hok0 hok1 ha).mono fun e W' ⟨he, bel⟩ => ⟨_, he, ?_⟩
  exact law_post (tb := 4) laidOut (by kernel_rfl) (by kernel_rfl) Try.underlying4 ⟨rfl, fun H ds hd => by
    match ds, hd with
    | [_, _, _], _ => exact ⟨rfl, rfl, rfl⟩⟩ hW' bel

theorem proved : Rows.ViewPutsSaid :=
  OpenClaim.holds_of_wide 6 Try.f6 rfl rfl rfl rfl rfl rfl rfl ⟨rfl, rfl, rfl, rfl, rfl⟩ rfl rfl rfl rfl rfl (by kernel_rfl) Try.func6 (by kernel_rfl)
    (of_decide_eq_true (by kernel_rfl)) (by unfold Func.isWrapper; first | (rw [if_pos (by decide +kernel)]; kernel_rfl) | (rw [if_neg (by decide +kernel)]; exact ⟨rfl, rfl⟩))
    (fun os started H enc _ => lifted os started H enc)
end Go.Proofs.Ytdpikdkhemhmdaa.viewPuts
