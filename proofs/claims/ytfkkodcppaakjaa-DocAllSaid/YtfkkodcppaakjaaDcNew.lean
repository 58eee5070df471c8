/- doc.New, Find, by contracts. -/
import Derived.Test.YtfkkodcppaakjaaDcPut
namespace Go.Proofs.Ytfkkodcppaakjaa
open Go Go.RowKit Go.Maps

theorem DocAt.mono {w : World} {B a : Nat} {v : Value} {m k k' : Nat} {xs : List Li} (h : DocAt w B a v m k xs) (hk : k ≤ k') : DocAt w B a v m k' xs := by
  obtain ⟨f, ⟨D, ho, hp⟩, hq⟩ := h.map
  exact ⟨h.blk, h.ha, h.row, h.hm, ⟨f, ⟨D, ho.mono hk, hp⟩, hq⟩, h.ok⟩
/-- What New answers. -/
def NewSays (ls : List Li) (w : World) (e : Ending) (w' : World) : Prop := Below w.heap.size w w' ∧
  ((takesB [] ls = true ∧ ∃ a v m, e = .returned (.tuple #[.pointer (some ⟨a, 0, none⟩), .int .i64 0]) ∧ DocAt w' w.heap.size a v m ls.length ls) ∨
   (takesB [] ls = false ∧ e = .returned (.tuple #[.pointer none, .int .i64 50])))
theorem newWorld (w : World) : DocAt ((w.alloc (.map #[] 0)).alloc (.cells #[.slice none 0 0, .map (some w.heap.size)] 55)) w.heap.size (w.heap.size + 1) (.slice none 0 0) w.heap.size 0 [] := by
  have hs : (w.alloc (.map #[] 0)).heap.size = w.heap.size + 1 := by simp
  refine ⟨?_, by omega, World.ownsRow_nil _ _ _ _, Nat.le_refl _, ⟨fun _ => Option.none, ⟨.map [], (World.ownsMap_made _ _ _ _).alloc _, pl_nil⟩, part_nil⟩, fun x hx => by simp at hx⟩
  have := heap_alloc_new (w.alloc (.map #[] 0)) (.cells #[.slice none 0 0, .map (some w.heap.size)] 55)
  rw [hs] at this
  exact this
set_option maxRecDepth 100000 in
set_option maxHeartbeats 2000000 in
theorem dNew_any (w : World) (p : Option Addr) (n c : Nat) (ls : List Li) (hn : ls.length = n) (hr : LiRow w p ls) (hnil : p = none → n = 0 ∧ c = 0) (hf : ∀ x ∈ ls, LiOk x) (hnm : n ≤ 3518437208883) :
    Calls Try.prog 14 #[.slice p n c] w (NewSays ls w) := by
  have hD := newWorld w
  have hb0 : Below w.heap.size w ((w.alloc (.map #[] 0)).alloc (.cells #[.slice none 0 0, .map (some w.heap.size)] 55)) := ((Below.refl _ _).alloc (Nat.le_refl _) _).alloc (by simp) _
  have hs0 : ((w.alloc (.map #[] 0)).alloc (.cells #[.slice none 0 0, .map (some w.heap.size)] 55)).heap.size = w.heap.size + 2 := by simp
  have cP := put_end _ w.heap.size (w.heap.size + 1) (.slice none 0 0) w.heap.size 0 [] hD (by rw [hs0]; omega) p n c ls hn (hr.later hb0) hnil hf (by rw [List.length_nil, Nat.zero_add]; exact hnm) (by rw [List.length_nil, Nat.zero_add, Nat.zero_add]; unfold maxLen; omega)
  have HB0 := Lib.hid hb0
  have HS0 := Lib.hid hs0
  have HN := Lib.hid hn
  have hmk := dMapHint (n : Int)
  have e1 : (w.alloc (.map #[] 0)).heap.size = w.heap.size + 1 := by simp
  clear hD hb0 hs0 hr hnil hf hn
  go_enter Try.func14, Try.ntmps14
  go_wp2_with fail
  clear hmk
  refine cP.mono ?_
  rintro e w1 ⟨hkb, ⟨htk, rfl, v', hD, _⟩ | ⟨htk, rfl, _⟩⟩
  · have hb1 : Below w.heap.size w w1 := hkb.below HB0.out (by rw [HS0.out]; omega) (fun j hj => by
      rcases hj with rfl | hj | rfl
      · omega
      · cases hj
      · exact Nat.le_refl _)
    have HTK := Lib.hid htk
    have HD1 := Lib.hid hD
    have HB1 := Lib.hid hb1
    clear cP hkb htk hD hb1
    go_wp2_with fail
    go_ret2
    refine ⟨HB1.out, .inl ⟨HTK.out, w.heap.size + 1, v', w.heap.size, rfl, ?_⟩⟩
    have := HD1.out
    rw [show insL [] ([] : List Li).length ls = ls by simp [insL]] at this
    exact this.mono (by simp)
  · have hb1 : Below w.heap.size w w1 := hkb.below HB0.out (by rw [HS0.out]; omega) (fun j hj => by
      rcases hj with rfl | hj | rfl
      · omega
      · cases hj
      · exact Nat.le_refl _)
    have HTK := Lib.hid htk
    have HB1 := Lib.hid hb1
    clear cP hkb htk hb1
    go_wp2_with fail
    go_ret2
    exact ⟨HB1.out, .inr ⟨HTK.out, rfl⟩⟩

/-- Where an identity stands. -/
def posOf (xs : List Li) (u : Nat) (n : Int) : Option Nat := xs.findIdx? fun x => x.id == (u, n)
theorem pos_some {xs : List Li} {u : Nat} {n : Int} {i : Nat} (h : posOf xs u n = some i) : ∃ hi : i < xs.length, xs[i].id = (u, n) := by
  unfold posOf at h
  rw [List.findIdx?_eq_some_iff_getElem] at h
  obtain ⟨hi, he, _⟩ := h
  exact ⟨hi, by simpa using he⟩
theorem pos_none {xs : List Li} {u : Nat} {n : Int} (h : posOf xs u n = none) : (u, n) ∉ idsOf xs := by
  unfold posOf at h
  rw [List.findIdx?_eq_none_iff] at h
  intro hm
  obtain ⟨x, hx, e⟩ := List.mem_map.1 hm
  have := h x hx
  simp [e] at this
theorem pos_part {f : Nat × Int → Option Nat} {xs : List Li} (h : Part f xs xs.length) (u : Nat) (n : Int) : f (u, n) = posOf xs u n := by
  cases hp : posOf xs u n with
  | none => exact h.none _ (pos_none hp)
  | some i =>
    obtain ⟨hi, e⟩ := pos_some hp
    rw [← e]
    exact h.at' i hi hi
/-- What Find answers. -/
def findV (xs : List Li) (u : Nat) (n : Int) : Value := match posOf xs u n with
  | some i => .tuple #[.int .i64 (i : Nat), .int .i64 0]
  | none => .tuple #[.int .i64 0, .int .i64 5]
set_option maxRecDepth 100000 in
set_option maxHeartbeats 2000000 in
theorem find_any (w : World) (B a : Nat) (v : Value) (m k : Nat) (xs : List Li) (h : DocAt w B a v m k xs) (u : Nat) (n : Int) (hu : u < 18446744073709551616) (hn : (Lit.int .i64 n).wf = true) :
    Calls Try.prog 27 #[.pointer (some ⟨a, 0, none⟩), .int .u64 u, .int .i64 n] w fun e w' => e = .returned (findV xs u n) ∧ w = w' := by
  obtain ⟨hc0, hc1, _⟩ := blk_cells h.blk
  obtain ⟨f, ⟨D, hown, hpl⟩, hpart⟩ := h.map
  have hkey := dId_key hu hn
  have hp := pos_part hpart u n
  have hhas := hpl.has u n hu hn
  have hat := fun k => hpl.at' u n k hu hn
  rw [hp] at hhas hat
  obtain ⟨pv, cv, hv⟩ : ∃ pv cv, v = .slice pv xs.length cv := by
    rcases row_shape rfl h.row with ⟨h1, h2⟩ | ⟨g, cap, h1, _⟩
    · exact ⟨none, 0, by rw [h1, h2]; rfl⟩
    · exact ⟨_, _, h1⟩
  subst hv
  unfold findV
  cases hq : posOf xs u n with
  | none =>
    rw [hq] at hhas
    have hh : Maps.has D (idLit u n) = false := hhas
    clear hhas hat hp hq hpart hpl h
    go_enter Try.func27, Try.ntmps27
    go_wp2_with (at_lookup; refine wpList_lookup_own_ok_int _ rfl _ _ 53 rfl 65 3 .i64 dIdLaw Try.underlying53 Try.underlying3 (dZeroInt _) m k D rfl hown _ _ rfl hkey ?_; intro cv2 hat2 hwc2; rw [hh]; clear hat2 hwc2)
    go_ret2
    exact ⟨rfl, rfl⟩
  | some i =>
    rw [hq] at hhas
    have hh : Maps.has D (idLit u n) = true := hhas
    have hai := Lib.hid (hat i hq)
    obtain ⟨hil, _⟩ := pos_some hq
    have hiI : ¬ ((xs.length : Int) ≤ (i : Int)) := by omega
    clear hhas hat hp hq hpart hpl h
    obtain ⟨N, hN⟩ : ∃ N, xs.length = N := ⟨_, rfl⟩
    rw [hN] at hiI hc0
    clear hN
    go_enter Try.func27, Try.ntmps27
    go_wp2_with (at_lookup; refine wpList_lookup_own_ok_int _ rfl _ _ 53 rfl 65 3 .i64 dIdLaw Try.underlying53 Try.underlying3 (dZeroInt _) m k D rfl hown _ _ rfl hkey ?_; intro cv2 hat2 hwc2; rw [hh]; have e2 : cv2 = (i : Int) := (by have := hat2.symm.trans hai.out; simpa using this); subst e2; clear hat2 hwc2)
    go_ret2
    exact ⟨rfl, rfl⟩
end Go.Proofs.Ytfkkodcppaakjaa
