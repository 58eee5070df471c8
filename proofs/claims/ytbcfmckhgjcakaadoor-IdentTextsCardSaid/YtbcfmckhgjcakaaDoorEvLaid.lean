/- What a row's listed variables give: strconv's two errors are values of the interface. -/
import Derived.Test.YtbcfmckhgjcakaaDoorLbLaid
import Derived.Test.YtbcfmckhgjcakaaDoorLbAtoi
namespace Go.Proofs.YtbcfmckhgjcakaaDoor
open Go.RowKit

theorem iface_of_trod {H : Type} {enc : TypeId × Value → H} {P : Program} {w : World} {base : Nat} {spare : Nat → Bool} {held : Bool} {fuel : Nat} {t : TypeId} {cs : List Value} {x : DataW H × List MemPlace} {ms}
    (ht : P.underlying t = some (.interface ms)) (h : DataW.trod enc P w base spare held fuel t cs = some x) : cs = [.nilIface] ∨ ∃ u v, cs = [.iface u v] := by
  cases fuel with
  | zero => simp [DataW.trod] at h
  | succ n =>
    unfold DataW.trod at h
    rw [ht] at h
    split at h <;> simp_all

theorem ev_of_head {W : World} {name : String} {d : DataW Unit} {g : Nat} {t : TypeId} {ms} (hg : Tryd.prog.globalNamed name = some g) (hty : (Tryd.prog.globals[g]?).map (·.type) = some t) (ht : Tryd.prog.underlying t = some (.interface ms))
    (h : laidMet Tryd.prog [(name, d)] W) : EvAt g W := by
  obtain ⟨ps, ⟨g', t', cs, fuel, p, q, hg', ht', hvar, hd, _, _⟩, _⟩ := h
  obtain rfl := Option.some.inj (hg.symm.trans hg')
  obtain rfl := Option.some.inj (hty.symm.trans ht')
  have hc := World.var?_cell hg hvar 0
  rcases iface_of_trod ht hd with h1 | ⟨u, v, h1⟩
  · exact ⟨.nilIface, by rw [hc, ← Array.getElem?_toList, h1]; rfl, Or.inl rfl⟩
  · exact ⟨.iface u v, by rw [hc, ← Array.getElem?_toList, h1]; rfl, Or.inr ⟨u, v, rfl⟩⟩

theorem gEs : Tryd.prog.globalNamed "strconv.ErrSyntax" = some 1 := by kernel_rfl
theorem gEsT : (Tryd.prog.globals[1]?).map (·.type) = some 52 := by kernel_rfl
theorem gEr : Tryd.prog.globalNamed "strconv.ErrRange" = some 2 := by kernel_rfl
theorem gErT : (Tryd.prog.globals[2]?).map (·.type) = some 52 := by kernel_rfl

/-- Out of whatever list that has the two. -/
theorem evw_of {W : World} {l : List (String × DataW Unit)} (hs : (l.filter fun x => x.1 == "strconv.ErrSyntax") = [("strconv.ErrSyntax", Rows.laid_strconv_ErrSyntax)]) (hr : (l.filter fun x => x.1 == "strconv.ErrRange") = [("strconv.ErrRange", Rows.laid_strconv_ErrRange)]) (h : laidMetH Tryd.prog l W) : EvW W := by
  have h1 := h.filter (fun x => x.1 == "strconv.ErrSyntax")
  have h2 := h.filter (fun x => x.1 == "strconv.ErrRange")
  rw [hs, MakeChecks.laidMetH_plain _ _ _ (by kernel_rfl)] at h1
  rw [hr, MakeChecks.laidMetH_plain _ _ _ (by kernel_rfl)] at h2
  exact ⟨ev_of_head gEs gEsT Tryd.underlying52 h1, ev_of_head gEr gErT Tryd.underlying52 h2⟩
end Go.Proofs.YtbcfmckhgjcakaaDoor
