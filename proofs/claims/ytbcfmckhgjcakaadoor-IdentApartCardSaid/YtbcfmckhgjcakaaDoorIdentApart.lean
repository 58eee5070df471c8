/- For any lines, any row of labels that are asked and any label: what Next tells of that label is what counters tell that began with that label's lines alone and are asked of it alone, and the law returns true, its arguments reading as before; the card ties the library's tables to the program's text. No condition. -/
import Derived.Test.YtbcfmckhgjcakaaDoorIdApartW
import Derived.Test.YtbcfmckhgjcakaaDoorLbLaid
import Derived.SizedLaws
import Derived.Test.YtbcfmckhgjcakaaDoorFrame
import Derived.Test.YtbcfmckhgjcakaaDoorCards
import Derived.Test.YtbcfmckhgjcakaaDoorTie
import Derived.OpenShut
import Derived.Lay
namespace Go.Proofs.YtbcfmckhgjcakaaDoor.identApart
open Go Go.ChangeShapes Go.WideShapes Go.ChangeAt Go.RowKit
open Go.ChangeMaps (open_string)

theorem own : ownKnob Tryd.prog.godebug = none := by kernel_rfl
theorem laidOut : laidOutB Tryd.prog = true := by kernel_rfl

set_option maxRecDepth 100000 in
theorem contract (H : Type) (enc : TypeId × Value → H) (W : World) (base : Nat) (args : Array Value) (ds gs : List (DataW H)) (before : List MemPlace)
    (hval : ∀ (j : Nat) t v, Tryd.f4.params[j]? = some t → args[j]? = some v → Value.okWide Tryd.prog W .any base t v)
    (hW : DataW.Whole enc Tryd.prog Tryd.f4.params.toList Rows.identApartSpec.vars false W args.toList ds gs before) (hL : laidMetH Tryd.prog Rows.identApartRow.laid W) (_hsh : W.ShapedOpen Tryd.prog)
    (_hk : ∀ k, (OpenSpec.ofChange Rows.identApartSpec).cond = some k → k H (ds ++ gs) = true)
    (hsz : (DataW.weightsEach Tryd.prog (Tryd.f4.params.toList ++ (OpenSpec.ofChange Rows.identApartSpec).bare.plain.varTypes Tryd.prog) (ds ++ gs)).all (· ≤ reachBytes) = true) :
    Calls Tryd.prog 4 args W fun e W' => ∃ v, e = .returned v ∧ Rows.identApartSpec.post enc Tryd.prog Tryd.f4 false true false false W args v W' := by
  have hW' := hW
  obtain ⟨p, q, hA0, hV, rfl, hfz, hnd⟩ := hW
  have hA : DataW.TrodAll enc Tryd.prog W 0 (fun _ => true) true Tryd.f4.params.toList args.toList ds p := hA0
  rw [Tryd.params4] at hA hval hsz
  obtain ⟨v0, v1, v2, d0, d1, d2, p0, p1, p2, rfl, rfl, rfl, h0, h1, h2⟩ := trodAll_three hA
  obtain ⟨rfl, rfl⟩ := trodVars_none hV
  obtain ⟨pa, na, ca, xs, rfl, hn, hxs, hnil, hok, hda⟩ := open_lis (hval 0 31 v0 rfl rfl) h0
  obtain ⟨pk, nk, ck, ks, rfl, hnk, hks, _, hlt, hdk⟩ := open_nums Tryd.underlying32 Tryd.underlying22 (by kernel_rfl) (hval 1 32 v1 rfl rfl) h1
  obtain ⟨z, rfl, rfl, rfl, wz⟩ := open_int Tryd.underlying22 (hval 2 22 v2 rfl rfl) h2
  obtain ⟨a, rfl, wa⟩ := lab_nat wz
  have bytesLine : Tryd.prog.bytesOf 25 = 40 := by kernel_rfl
  have bytesNum : Tryd.prog.bytesOf 22 = 8 := by kernel_rfl
  have hna : na ≤ 3518437208780 := by
    rcases hda with rfl | ⟨elems, spare, rfl, hl⟩
    · omega
    · have h := sized_slice hsz (j := 0) (t := 31) (e := 25) rfl rfl Tryd.underlying31
      rw [bytesLine, hl] at h
      simp only [reachBytes] at h
      omega
  have hnka : nk ≤ 9223372036854775807 := by
    rcases hdk with rfl | ⟨elems, spare, rfl, hl⟩
    · omega
    · have h := sized_slice hsz (j := 1) (t := 32) (e := 22) rfl rfl Tryd.underlying32
      rw [bytesNum, hl] at h
      simp only [reachBytes] at h
      omega
  refine (identApart_any W pa pk na ca nk ck a xs ks (btab_of (l := Rows.identApartRow.laid) (by kernel_rfl) hL) wa hn hna hxs hok hnk hks hlt hnka).mono fun e W' ⟨he, bel⟩ => ⟨_, he, ?_⟩
  exact law_post (tb := 4) laidOut (by kernel_rfl) (by kernel_rfl) Tryd.underlying4 ⟨rfl, fun H ds hd => by
    match ds, hd with
    | [_, _, _], _ => exact ⟨rfl, rfl, rfl⟩⟩ hW' bel

set_option maxRecDepth 100000 in
theorem lifted (os : Os) (started : os.Started) (H : Type) (enc : TypeId × Value → H) (F : Stop.Interp) :
    ReturnsInHanded {} Tryd.checked os 4 .any ((OpenSpec.ofChange Rows.identApartSpec).preRow enc Tryd.prog Tryd.f4 Rows.identApartRow.domain false Rows.identApartRow.laid) (((OpenSpec.ofChange Rows.identApartSpec).at F).post enc Tryd.prog Tryd.f4 false true false false) := by
  obtain ⟨places, hx⟩ : ∃ places, DataW.whole enc Tryd.prog ((World.laidAll Tryd.prog os Rows.identApartRow.laid).forCall (fun _ _ => 0) ⟨#[], #[.slice none 0 0, .slice none 0 0, .int .u64 0], []⟩).memory Tryd.f4.params.toList Rows.identApartSpec.vars false (#[.slice none 0 0, .slice none 0 0, .int .u64 0] : Array Value).toList 8 = some ([.nil, .nil, .lit (.int .u64 0)], [], places) := ⟨[], by kernel_rfl⟩
  refine returnsInHanded_of_row (C := Tryd.checked) (s := (OpenSpec.ofChange Rows.identApartSpec)) own started (by kernel_rfl) Tryd.func4
    (witness_row_at (enc := enc) (C := Tryd.checked) false (World.laidAll Tryd.prog os Rows.identApartRow.laid) #[.slice none 0 0, .slice none 0 0, .int .u64 0] (World.laidAll_os _ _ _) (by kernel_rfl) (by kernel_rfl) (by kernel_rfl)
      (OpenSpec.preRow_of_cond 8 hx (by kernel_rfl) (fun k hk => by cases hk) (by kernel_rfl)
        (by rw [MakeChecks.laidMetH_plain _ _ _ (by kernel_rfl)]; exact laidMet_laidAll _ (by kernel_rfl) (by kernel_rfl)))) ?_
  intro W base args ds gs before hval hW _ hk hsz hL hsh _
  exact contract H enc W base args ds gs before hval hW hL hsh hk hsz

theorem said : Rows.IdentApartSaid :=
  OpenClaim.holds_of_cond 4 Tryd.f4 rfl rfl rfl rfl rfl rfl rfl ⟨rfl, rfl, rfl, rfl, rfl⟩ rfl rfl rfl rfl rfl (by kernel_rfl) Tryd.func4 (by kernel_rfl)
    (of_decide_eq_true (by kernel_rfl)) (by unfold Func.isWrapper; first | (rw [if_pos (by decide +kernel)]; kernel_rfl) | (rw [if_neg (by decide +kernel)]; exact ⟨rfl, rfl⟩))
    (fun os started H enc _ F => by rw [OpenClaim.pre_eq_preRow]; exact lifted os started H enc F)

theorem plain (f : FuncId) (fn : Func) (hf : Tryd.pinned.checked.prog.funcNamed "scrim/scrimlaw04.IdentApart" = some f) (hfn : Tryd.pinned.checked.prog.funcs[f]? = some fn) :
    true = Tryd.pinned.checked.prog.looks [] ∧ ∀ (j : Nat) t, fn.params[j]? = some t → Tryd.pinned.checked.prog.wantsStandIn t = false := by
  obtain rfl : f = 4 := Option.some.inj ((show Tryd.prog.funcNamed "scrim/scrimlaw04.IdentApart" = some 4 by kernel_rfl).symm.trans hf) |>.symm
  obtain rfl : fn = Tryd.f4 := (Option.some.inj (Tryd.func4.symm.trans hfn)).symm
  refine ⟨by kernel_rfl, fun j t ht => ?_⟩
  have hall : (Tryd.f4.params.toList.all fun u => !Tryd.prog.wantsStandIn u) = true := by kernel_rfl
  exact (show Tryd.prog.wantsStandIn t = false by simpa using List.all_eq_true.1 hall t (Array.mem_def.1 (Array.mem_of_getElem? ht)))

theorem card : Rows.IdentApartCardSaid :=
  Claim7.holds_tied_plain_at .later [] _ _ _ _ said (fun _ h => by cases h) (by kernel_rfl) (fun _ h => by cases h) identApart_row_tie rfl ⟨rfl, rfl⟩ (by kernel_rfl) rfl plain (by kernel_rfl)
end Go.Proofs.YtbcfmckhgjcakaaDoor.identApart
