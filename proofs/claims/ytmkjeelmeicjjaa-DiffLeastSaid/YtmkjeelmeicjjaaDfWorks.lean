/- What each statement asks first: two small lists held against each other. -/
import Derived.Test.YtmkjeelmeicjjaaDfLines
import Derived.Test.YtmkjeelmeicjjaaDfSize
namespace Go.Proofs.Ytmkjeelmeicjjaa
open Go Go.RowKit

theorem lit1 (w : World) (x : Tx) (T : TypeId) : StrRow (w.alloc (.cells #[.string x] T)) (some ⟨w.heap.size, 0, none⟩) [x] := fun i hi => by
  have : i = 0 := by simp at hi; omega
  subst this
  exact ⟨w.heap.size, 0, rfl, by simp, by simp⟩
theorem lit3 (w : World) (x y z : Tx) (T : TypeId) : StrRow (w.alloc (.cells #[.string x, .string y, .string z] T)) (some ⟨w.heap.size, 0, none⟩) [x, y, z] := fun i hi => by
  have : i = 0 ∨ i = 1 ∨ i = 2 := by simp at hi; omega
  rcases this with rfl | rfl | rfl <;> exact ⟨w.heap.size, 0, rfl, by simp, by simp⟩
theorem sz_of {w : World} {p : Option Addr} {hs : List (Hk Tx)} (h : HkRow w p hs) : SzRow w p (hs.map fun x => (x.old.length, x.new.length)) := fun i hi => by
  have hi' : i < hs.length := by simpa using hi
  obtain ⟨b, off, e, hlt, h0, ⟨p1, c1, h1, _⟩, p2, c2, h2, _⟩ := h i hi'
  refine ⟨b, off, _, p1, c1, p2, c2, e, hlt, h0, ?_⟩
  simp only [List.getElem_map]
  exact ⟨h1, h2⟩
theorem sumI_small (l : List Nat) (h : l.sum ≤ 4611686018427387904) : sumI l = (l.sum : Int) := by
  have key : ∀ (l : List Nat) (s : Nat), s + l.sum ≤ 4611686018427387904 → l.foldl (fun (s : Int) (n : Nat) => wrap64 (s + (n : Int))) (s : Int) = ((s + l.sum : Nat) : Int) := by
    intro l
    induction l with
    | nil => intro s _; simp
    | cons n l ih =>
      intro s hs
      rw [List.sum_cons] at hs ⊢
      rw [List.foldl_cons, Go.IntWalk.wrap64_in _ ⟨by omega, by omega⟩, ← Int.natCast_add, ih (s + n) (by omega)]
      omega
  have := key l 0 (by omega)
  simpa [sumI] using this
def tA : Tx := ⟨#[97]⟩
def tB : Tx := ⟨#[98]⟩
def tC : Tx := ⟨#[99]⟩
def tX : Tx := ⟨#[120]⟩
theorem w_pre : pre [tA, tB, tC] [tA, tX, tC] = 1 := by decide
theorem w_suf : suf [tA, tB, tC] [tA, tX, tC] = 1 := by decide
theorem w_comm : comm [tA, tB, tC] [tA, tX, tC] = [(0, 0), (2, 2)] := by
  unfold comm
  rw [w_pre, w_suf]
  have hm : midPairs (mid [tA, tB, tC] 1 1) (mid [tA, tX, tC] 1 1) = [] := by
    show midPairs [tB] [tX] = []
    unfold midPairs
    split
    · rw [wlk_cons, if_neg (by decide)]
      split
      · exact wlk_nil' _ _ _
      · exact wlk_nil _ _ _
    · rfl
  rw [hm]; rfl
theorem w_patch : patch [tA, tB, tC] [tA, tX, tC] = [⟨1, [tB], [tX]⟩] := by
  unfold patch
  rw [w_comm]; rfl
theorem w_one : comm [tA] [tA] = [(0, 0)] := by
  unfold comm
  have h1 : pre [tA] [tA] = 1 := by decide
  have h2 : suf [tA] [tA] = 0 := by decide
  rw [h1, h2]
  have hm : midPairs (mid [tA] 1 0) (mid [tA] 1 0) = [] := by
    show midPairs [] [] = []
    unfold midPairs
    split
    · exact wlk_nil _ _ _
    · rfl
  rw [hm]; rfl
set_option maxRecDepth 100000 in
set_option maxHeartbeats 4000000 in
theorem works_any (w : World) : Calls Try.prog 19 #[] w fun e w' => e = .returned (.bool true) ∧ Below w.heap.size w w' := by
  have hsz : ∀ t ∈ ([tA, tB, tC] ++ [tA, tX, tC] : List Tx), t.size ≤ maxLen := by decide
  have hsz1 : ∀ t ∈ ([tA] ++ [tA] : List Tx), t.size ≤ maxLen := by decide
  have cL := fun W p q (hp : StrRow W (some p) [tA, tB, tC]) (hq : StrRow W (some q) [tA, tX, tC]) => lines_any W (some p) (some q) 3 3 3 3 [tA, tB, tC] [tA, tX, tC] rfl rfl (by omega) (by omega) hp hq (fun e => by cases e) (fun e => by cases e) (Nat.le_refl _) (Nat.le_refl _) hsz
  have cE := fun W p q (hp : StrRow W (some p) [tA, tB, tC]) (hq : StrRow W (some q) [tA, tX, tC]) => edges_any W (some p) (some q) 3 3 3 3 [tA, tB, tC] [tA, tX, tC] rfl rfl (by omega) (by omega) hp hq
  have cC := fun W p q (hp : StrRow W (some p) [tA]) (hq : StrRow W (some q) [tA]) => common_any W (some p) (some q) 1 1 1 1 [tA] [tA] rfl rfl (by omega) (by omega) hp hq (fun e => by cases e) (fun e => by cases e) (Nat.le_refl _) (Nat.le_refl _) hsz1
  rw [w_patch] at cL
  rw [w_pre, w_suf] at cE
  rw [w_one] at cC
  clear hsz hsz1
  go_enter Try.func19, Try.ntmps19
  go_wp2_with fail
  have ra := (lit3 w tA tB tC 9).later ((Below.refl _ _).alloc (Nat.le_refl _) (.cells #[.string tA, .string tX, .string tC] 9))
  have rb := lit3 (w.alloc (.cells #[.string tA, .string tB, .string tC] 9)) tA tX tC 9
  refine (cL _ ⟨w.heap.size, 0, none⟩ ⟨w.heap.size + 1, 0, none⟩ ra (by simpa using rb)).mono ?_
  rintro e w2 ⟨hb2, ph, ch, us, rfl, hrh, _⟩
  have hB2 : Below w.heap.size w w2 := (((Below.refl _ w).alloc (Nat.le_refl _) (.cells #[.string tA, .string tB, .string tC] 9)).alloc (by simp) (.cells #[.string tA, .string tX, .string tC] 9)).trans (hb2.mono (by simp; omega))
  have hs2 := hB2.size
  have HB2 := Lib.hid hB2
  have hne : Hid (∃ b off p1 c1 p2 c2 b1 o1 b2 o2, ph = some ⟨b, off, none⟩ ∧ p1 = some ⟨b1, o1, none⟩ ∧ p2 = some ⟨b2, o2, none⟩ ∧ ∀ W, Below w2.heap.size w2 W → W.cell? ⟨b, off, none⟩ = some (.int .i64 1) ∧ W.cell? ⟨b, off + 1, none⟩ = some (.slice p1 1 c1) ∧ W.cell? ⟨b, off + 2, none⟩ = some (.slice p2 1 c2) ∧ W.cell? ⟨b1, o1, none⟩ = some (.string tB) ∧ W.cell? ⟨b2, o2, none⟩ = some (.string tX)) := by
    obtain ⟨b, off, p1, c1, p2, c2, e, r1, r2, hc⟩ := hrh.at 0 (by simp)
    obtain ⟨b1, o1, e1, g1⟩ := r1.at 0 (by simp)
    obtain ⟨b2, o2, e2, g2⟩ := r2.at 0 (by simp)
    refine ⟨b, off, p1, c1, p2, c2, b1, o1, b2, o2, e, e1, e2, fun W hW => ?_⟩
    obtain ⟨h0, h1, h2⟩ := hc W hW
    exact ⟨h0, h1, h2, g1 W hW, g2 W hW⟩
  have cZ := fun W (hb : Below w2.heap.size w2 W) => size_sz W ph 1 ch _ rfl (by omega) (sz_of (hrh.later hb))
  have hsum1 : sumI ((([⟨1, [tB], [tX]⟩] : List (Hk Tx)).map fun x => (x.old.length, x.new.length)).map (·.1)) = 1 := sumI_small _ (by decide)
  have hsum2 : sumI ((([⟨1, [tB], [tX]⟩] : List (Hk Tx)).map fun x => (x.old.length, x.new.length)).map (·.2)) = 1 := sumI_small _ (by decide)
  rw [hsum1, hsum2] at cZ
  clear hb2 hB2 ra rb hrh cL hsum1 hsum2
  go_wp2_with fail
  have ra2 := (lit3 w2 tA tB tC 9).later ((Below.refl _ _).alloc (Nat.le_refl _) (.cells #[.string tA, .string tX, .string tC] 9))
  have rb2 := lit3 (w2.alloc (.cells #[.string tA, .string tB, .string tC] 9)) tA tX tC 9
  refine (cE _ ⟨w2.heap.size, 0, none⟩ ⟨w2.heap.size + 1, 0, none⟩ ra2 (by simpa using rb2)).mono ?_
  rintro e w3 ⟨rfl, hb3⟩
  have hB3 : Below w2.heap.size w2 w3 := (((Below.refl _ w2).alloc (Nat.le_refl _) (.cells #[.string tA, .string tB, .string tC] 9)).alloc (by simp) (.cells #[.string tA, .string tX, .string tC] 9)).trans (hb3.mono (by simp; omega))
  have HB3 := Lib.hid hB3
  have cZ3 := cZ w3 hB3
  clear hb3 hB3 ra2 rb2 cE cZ
  go_wp2_with fail
  refine cZ3.mono ?_
  rintro e w4 ⟨rfl, hb4⟩
  have hB4 := HB3.out.trans (hb4.mono HB3.out.size)
  have hs4 := hB4.size
  obtain ⟨b, off, p1, c1, p2, c2, b1, o1, b2, o2, rfl, rfl, rfl, hc⟩ := hne.out
  obtain ⟨h0, h1, h2, h3, h4⟩ := hc w4 hB4
  have HB4 := Lib.hid hB4
  have t1 : (ByteArray.toList tB == [98]) = true := by rw [ByteArray.toList_eq]; decide
  have t2 : (ByteArray.toList tX == [120]) = true := by rw [ByteArray.toList_eq]; decide
  clear hc hne hb4 hB4 cZ3 HB3
  go_wp2_with fail
  have ra4 := (lit1 w4 tA 9).later ((Below.refl _ _).alloc (Nat.le_refl _) (.cells #[.string tA] 9))
  have rb4 := lit1 (w4.alloc (.cells #[.string tA] 9)) tA 9
  refine (cC _ ⟨w4.heap.size, 0, none⟩ ⟨w4.heap.size + 1, 0, none⟩ ra4 (by simpa using rb4)).mono ?_
  rintro e w5 ⟨hb5, pc, cc, rfl, _, _⟩
  have hB5 := HB2.out.trans ((HB4.out.trans ((((Below.refl _ w4).alloc (Nat.le_refl _) (.cells #[.string tA] 9)).alloc (by simp) (.cells #[.string tA] 9)).trans (hb5.mono (by simp; omega)) |>.mono HB4.out.size)).mono hs2)
  have HB5 := Lib.hid hB5
  clear hb5 hB5 ra4 rb4 cC
  go_wp2_with fail
  go_ret
  exact ⟨rfl, HB5.out⟩
end Go.Proofs.Ytmkjeelmeicjjaa
