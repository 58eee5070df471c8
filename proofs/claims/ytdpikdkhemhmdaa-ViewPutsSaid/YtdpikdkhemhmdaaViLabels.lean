/- view.Labels: by contract. -/
import Derived.Test.YtdpikdkhemhmdaaViTold
import Derived.Test.YtdpikdkhemhmdaaPoCmp
import Derived.Test.YtdpikdkhemhmdaaViLabP
namespace Go.Proofs.Ytdpikdkhemhmdaa
open Go Go.RowKit Go.Lib

/-- A list of labels handed out. -/
def GivesLab (w : World) (cs : List Nat) (e : Ending) (w' : World) : Prop := Below w.heap.size w w' ∧ ∃ p c, e = .returned (.slice p cs.length c) ∧ LabRow w' p cs ∧ w'.ownsRow w.heap.size 24 1 (.slice p cs.length c) cs.length (labVals cs)
def labsOf (xs : List Li) : List Nat := xs.map (·.u)
theorem labs_len (xs : List Li) : (labsOf xs).length = xs.length := by simp [labsOf]
theorem labs_nums (xs : List Li) : nums .u64 (xs.map (fun x => (x.u : Int))) = labVals (labsOf xs) := by
  unfold nums labVals labsOf
  rw [List.map_map, List.map_map]; rfl
set_option maxRecDepth 100000 in
set_option maxHeartbeats 2000000 in
theorem labelsOf_any (w : World) (p : Option Addr) (n c : Nat) (xs : List Li) (hn : xs.length = n) (hnm : n ≤ 3518437208883) (hr : LiRow w p xs) :
    Calls Try.prog 29 #[.slice p n c] w (GivesLab w (onceC (labsOf xs))) := by
  have cT := toldL_any w p n c xs hn hnm hr
  have hlen := labs_len xs
  have cS := fun W v ho => sortOwn_any w.heap.size (labsOf xs) v n W (by rw [hlen, hn]) (by omega) ho
  have cC := fun W v ho => compOwn_any w.heap.size (Sort.sort ltL (labsOf xs).toArray).toList v n W (by rw [(sortL_perm _).length_eq]; simp [hlen, hn]) (by omega) ho
  have hfin := Lib.hid (show compactUpTo (Sort.sort ltL (labsOf xs).toArray) n = onceC (labsOf xs) from by
    have := compact_sorted (labsOf xs)
    rw [hlen, hn] at this
    exact this)
  rw [Array.toArray_toList] at cC
  rw [hfin.out] at cC
  have CS : Aside _ := cS
  have CC : Aside _ := cC
  have HN := Lib.hid hn
  clear cS cC hn hlen hr
  go_enter Try.func29, Try.ntmps29
  go_wp2_with fail
  refine cT.mono ?_
  rintro e w1 ⟨hb1, p1, c1, rfl, _, ho1⟩
  rw [labs_nums, List.length_map, HN.out] at ho1
  rw [List.length_map, HN.out]
  have c2 := CS.out w1 _ ho1
  have HB1 := Lib.hid hb1
  clear hb1 ho1 cT
  go_wp2_with fail
  refine c2.mono ?_
  rintro e w2 ⟨rfl, ho2, hb2⟩
  have c3 := CC.out w2 _ ho2
  have HB2 := Lib.hid (hb2 _ HB1.out)
  clear hb2 ho2 c2
  go_wp2_with fail
  refine c3.mono ?_
  rintro e w3 ⟨p3, c3', k3, rfl, hk3, ho3, hb3⟩
  have HB3 := Lib.hid (hb3 _ HB2.out)
  have HO3 := Lib.hid ho3
  have HK := Lib.hid hk3
  clear hb3 ho3 hk3 c3
  go_wp2_with fail
  go_ret
  have hK := HK.out
  subst hK
  obtain ⟨p8, c8, e8, hrow⟩ := lab_owned rfl HO3.out
  injection e8 with e1 _ e3
  subst e1; subst e3
  exact ⟨HB3.out, _, _, rfl, hrow, HO3.out⟩
end Go.Proofs.Ytdpikdkhemhmdaa
