/- Whether two identities are one; whether two lines are: ident.Same, view.Alike's closure, scrimref06.Lines on any two rows: by contracts. -/
import Derived.Test.YtdpikdkhemhmdaaViLines
import Derived.Test.YtdpikdkhemhmdaaRegFull
import Derived.Maps.OwnSet
import Derived.DeepKeys4
import Derived.OwnWalkIn
import Derived.TacticsInMore
import Derived.Sort.CutIn
namespace Go.Proofs.Ytdpikdkhemhmdaa
open Go Go.RowKit Go.Maps

/-! ### Keys -/
theorem labLaw : Keyed Try.prog 24 := int_keyed Try.underlying24
theorem lab_key {a : Nat} (h : a < 18446744073709551616) : keyOf Try.prog 24 (.int .u64 (a : Int)) = some (.int .u64 (a : Int)) :=
  keyOf_int_mk Try.underlying24 (wf_lab h)
/-- What an identity reads as, as a map's key. -/
def idLit (u : Nat) (n : Int) : Lit := .string (keyBytes [.int .u64 u, .int .i64 n])
theorem idDeep : Try.prog.keyTypeAt (Try.prog.types.size + 1) 82 = true := by kernel_rfl
theorem idLaw : Keyed Try.prog 82 := Keyed.of_law (deep_law_laid (P := Try.prog) (by kernel_rfl) (m := 2) (by omega) (of_decide_eq_true (by kernel_rfl)) (by kernel_rfl) (by kernel_rfl))
theorem idCells : Try.prog.cellsOf 82 = 2 := by kernel_rfl
theorem id_key {u : Nat} {n : Int} (hu : u < 18446744073709551616) (hn : (Lit.int .i64 n).wf = true) : keyOf Try.prog 82 (.agg #[.int .u64 u, .int .i64 n]) = some (idLit u n) := by
  have hw := wf_lab hu
  obtain ⟨m, hm⟩ : ∃ m, Try.prog.types.size = m + 1 := ⟨Try.prog.types.size - 1, by have : Try.prog.types.size ≠ 0 := of_decide_eq_true (by kernel_rfl); omega⟩
  have hk : Try.prog.keyType 82 = true := idDeep
  have hl : Try.prog.keyLits (Try.prog.types.size + 1) 82 [.int .u64 u, .int .i64 n] = some [.int .u64 u, .int .i64 n] := by
    rw [hm]
    have e1 : Try.prog.cellsOf 24 = 1 := by kernel_rfl
    have e2 : Try.prog.cellsOf 3 = 1 := by kernel_rfl
    simp [Program.keyLits, Try.underlying82, idCells, Try.underlying24, Try.underlying3, e1, e2, hw, hn]
  unfold keyOf
  rw [Try.underlying82]
  simp only [hk, Value.formed, Try.underlying82]
  rw [show (Value.agg #[Value.int .u64 (u : Int), Value.int .i64 n]).cells.toList = [Value.int .u64 (u : Int), Value.int .i64 n] from rfl, hl]
  simp [idCells, idLit]
theorem id_inj {u u' : Nat} {n n' : Int} (hu : u < 18446744073709551616) (hn : (Lit.int .i64 n).wf = true) (hu' : u' < 18446744073709551616) (hn' : (Lit.int .i64 n').wf = true) (e : idLit u n = idLit u' n') : (u, n) = (u', n') := by
  have h1 := id_key hu hn
  have h2 := id_key hu' hn'
  rw [← e] at h2
  have := idLaw.inj h1 h2
  simp at this
  obtain ⟨e1, e2⟩ := this
  rw [show u = u' by omega, e2]
theorem idOf_any (x : Li) (w : World) : Calls Try.prog 64 #[x.agg] w fun e w' => e = .returned (.agg #[.int .u64 x.u, .int .i64 x.n]) ∧ Below w.heap.size w w' := by
  unfold Li.agg
  go_enter Try.func64, Try.ntmps64
  go_wp2
  refine bodyPost_ret (v := .agg #[.int .u64 x.u, .int .i64 x.n]) (by simp [results, Try.results64, go_sem]) rfl ⟨rfl, ((Below.refl _ _).alloc (Nat.le_refl _) _).alloc (by simp) _⟩

theorem idWide : (match Try.prog.underlying 82 with | some (.array _ _) | some (.struct _) => true | _ => false) = true := by kernel_rfl
theorem idKeyAt : Try.prog.keyTypeAt 2 82 = true := by kernel_rfl
set_option maxRecDepth 100000 in
theorem eqlId {x y : Li} (hx : LiOk x) (hy : LiOk y) (w : World) : (binOp .eql 82 (.agg #[.int .u64 x.u, .int .i64 x.n]) (.agg #[.int .u64 y.u, .int .i64 y.n])).run Try.prog w = .ok (.bool (decide (x.id = y.id))) w := by
  obtain ⟨r, h1, h2⟩ := run_equal_deep w (m := 2) (by omega) idKeyAt idWide (id_key hx.u hx.n) (id_key hy.u hy.n)
  have hr : r = decide (x.id = y.id) := by
    rw [Bool.eq_iff_iff, h2, decide_eq_true_eq]
    constructor
    · intro e; exact id_inj hx.u hx.n hy.u hy.n e
    · intro e
      obtain ⟨e1, e2⟩ := Prod.mk.inj (show (x.u, x.n) = (y.u, y.n) from e)
      rw [e1, e2]
  subst hr
  simp only [binOp]
  simp [h1, Result.andThen]
theorem idGuard : Try.prog.eqGuardType Try.prog.depth 82 = false := by kernel_rfl
/-- Are two lines the same, field by field? -/
def idB (x y : Li) : Bool := decide (x.id = y.id)
def oneLi (x y : Li) : Bool := idB x y && x.r == y.r && x.s.toList == y.s.toList
def sameLi : List Li → List Li → Bool
  | [], [] => true
  | x :: xs, y :: ys => oneLi x y && sameLi xs ys
  | _, _ => false
theorem oneLi_refl (x : Li) : oneLi x x = true := by simp [oneLi, idB]
theorem sameLi_refl : ∀ xs : List Li, sameLi xs xs = true
  | [] => rfl
  | x :: xs => by rw [sameLi, oneLi_refl, sameLi_refl xs]; rfl
theorem sameLi_len : ∀ (xs ys : List Li), xs.length ≠ ys.length → sameLi xs ys = false
  | [], [], h => absurd rfl h
  | [], _ :: _, _ => rfl
  | _ :: _, [], _ => rfl
  | x :: xs, y :: ys, h => by rw [sameLi, sameLi_len xs ys (fun e => h (by simp [e])), Bool.and_false]
theorem sameLi_hit : ∀ (xs ys : List Li) (k : Nat) (h : k < xs.length) (h' : k < ys.length), oneLi xs[k] ys[k] = false → sameLi xs ys = false
  | x :: xs, y :: ys, 0, _, _, e => by rw [sameLi]; simp only [List.getElem_cons_zero] at e; rw [e]; rfl
  | x :: xs, y :: ys, k + 1, h, h', e => by
    rw [sameLi, sameLi_hit xs ys k (Nat.lt_of_succ_lt_succ h) (Nat.lt_of_succ_lt_succ h') e, Bool.and_false]
theorem sameLi_all : ∀ (xs ys : List Li), xs.length = ys.length → (∀ (k : Nat) (h : k < xs.length) (h' : k < ys.length), oneLi xs[k] ys[k] = true) → sameLi xs ys = true
  | [], [], _, _ => rfl
  | [], _ :: _, h, _ => by simp at h
  | _ :: _, [], h, _ => by simp at h
  | x :: xs, y :: ys, h, e => by
    have h0 := e 0 (by simp) (by simp)
    simp only [List.getElem_cons_zero] at h0
    rw [sameLi, h0, sameLi_all xs ys (by simpa using h) (fun k hk hk' => e (k + 1) (Nat.succ_lt_succ hk) (Nat.succ_lt_succ hk'))]; rfl
set_option maxRecDepth 100000 in
set_option maxHeartbeats 4000000 in
theorem idSame_any (x y : Li) (w : World) (hx : LiOk x) (hy : LiOk y) : Calls Try.prog 41 #[.agg #[.int .u64 x.u, .int .i64 x.n, .int .i64 x.r, .string x.s], .agg #[.int .u64 y.u, .int .i64 y.n, .int .i64 y.r, .string y.s]] w fun e w' => e = .returned (.bool (idB x y)) ∧ Below w.heap.size w w' := by
  have cX := fun W => idOf_any x W
  have cY := fun W => idOf_any y W
  unfold Li.agg at cX cY
  have hE := fun W => eqlId hx hy W
  have hgI := idGuard
  refine (callsIn_wide (n := 3)).1 ?_
  refine callsIn_of_wp Try.func41 rfl trivial ?_ rfl
  simp only [Try.ntmps41, List.size_toArray, List.length_cons, List.length_nil, Nat.reduceAdd, Nat.reduceSub, Array.replicate_succ, Array.replicate_zero, List.push_toArray, List.append_toArray, List.nil_append, List.cons_append]
  gi_upto_region 1 with fail
  have hB0 : Below w.heap.size w ((w.alloc (.cells #[.int .u64 x.u, .int .i64 x.n, .int .i64 x.r, .string x.s] 26)).alloc (.cells #[.int .u64 y.u, .int .i64 y.n, .int .i64 y.r, .string y.s] 26)) := ((Below.refl _ w).alloc (Nat.le_refl _) _).alloc (by simp) _
  change ∀ W, (binOp .eql 82 (.agg #[.int .u64 x.u, .int .i64 x.n]) (.agg #[.int .u64 y.u, .int .i64 y.n])).run Try.prog W = .ok (.bool (idB x y)) W at hE
  refine region_full (fun V : World => LiAt V w.heap.size 0 x ∧ LiAt V (w.heap.size + 1) 0 y ∧ Hid (Below (w.heap.size + 2) ((w.alloc (.cells #[.int .u64 x.u, .int .i64 x.n, .int .i64 x.r, .string x.s] 26)).alloc (.cells #[.int .u64 y.u, .int .i64 y.n, .int .i64 y.r, .string y.s] 26)) V)) (((.agg #[.int .u64 x.u, .int .i64 x.n, .int .i64 x.r, .string x.s]) :: (.agg #[.int .u64 y.u, .int .i64 y.n, .int .i64 y.r, .string y.s]) :: (.pointer (some ⟨w.heap.size, 0, none⟩)) :: (.pointer (some ⟨w.heap.size + 1, 0, none⟩)) :: (.bool (idB x y)) :: (.agg #[.int .u64 x.u, .int .i64 x.n, .int .i64 x.r, .string x.s]) :: (.agg #[.int .u64 x.u, .int .i64 x.n]) :: (.agg #[.int .u64 y.u, .int .i64 y.n, .int .i64 y.r, .string y.s]) :: (.agg #[.int .u64 y.u, .int .i64 y.n]) :: (.bool (idB x y)) :: [] : List Value).toArray) (by kernel_rfl) (by kernel_rfl) (by kernel_rfl) (by kernel_rfl) ?_ ?_ ?_
  · refine ⟨four_cells (T := 26) ?_, four_cells (T := 26) ?_, Below.drew (Below.refl _ _)⟩
    · exact (Below.heap_alloc (w.alloc (.cells #[.int .u64 x.u, .int .i64 x.n, .int .i64 x.r, .string x.s] 26)) _ _ (by simp)).trans (World.alloc_heap_new w _)
    · have := World.alloc_heap_new (w.alloc (.cells #[.int .u64 x.u, .int .i64 x.n, .int .i64 x.r, .string x.s] 26)) (.cells #[.int .u64 y.u, .int .i64 y.n, .int .i64 y.r, .string y.s] 26)
      rw [World.size_alloc] at this
      exact this
  · refine full_want_k (by kernel_rfl) (fun V hV K hK => ?_) ?_; focus (obtain ⟨⟨d0, d1, d2, d3⟩, ⟨e0, e1, e2, e3⟩, hbV⟩ := hV; unfold Oper.wpIn; refine ⟨fun _ _ => trivial, ?_⟩; rw [Oper.semAt_eq _ _ _ (by intro c h; cases h)]; go_simp; exact hK.out _ _ (by first | with_reducible rfl | (simp; done) | (simp; omega)) ⟨⟨d0, d1, d2, d3⟩, ⟨e0, e1, e2, e3⟩, hbV⟩)
    refine full_want_k (by kernel_rfl) (fun V hV K hK => ?_) ?_; focus (unfold Oper.wpIn; refine ⟨fun _ _ => trivial, ?_⟩; rw [Oper.semAt_eq _ _ _ (by intro c h; cases h)]; go_simp; refine (callsIn_wide.2 (cX V)).mono ?_; rintro e V' ⟨rfl, hbV'⟩; dsimp only; obtain ⟨d, e, hbV⟩ := hV; have hsV := hbV.out.size; simp only [World.size_alloc] at hsV; refine hK.out _ _ (by first | with_reducible rfl | (simp; omega)) ⟨d.below hbV' (by omega), e.below hbV' (by omega), hbV.out.trans (hbV'.mono (by omega))⟩)
    refine full_want_k (by kernel_rfl) (fun V hV K hK => ?_) ?_; focus (obtain ⟨⟨d0, d1, d2, d3⟩, ⟨e0, e1, e2, e3⟩, hbV⟩ := hV; unfold Oper.wpIn; refine ⟨fun _ _ => trivial, ?_⟩; rw [Oper.semAt_eq _ _ _ (by intro c h; cases h)]; go_simp; exact hK.out _ _ (by first | with_reducible rfl | (simp; done) | (simp; omega)) ⟨⟨d0, d1, d2, d3⟩, ⟨e0, e1, e2, e3⟩, hbV⟩)
    refine full_want_k (by kernel_rfl) (fun V hV K hK => ?_) ?_; focus (unfold Oper.wpIn; refine ⟨fun _ _ => trivial, ?_⟩; rw [Oper.semAt_eq _ _ _ (by intro c h; cases h)]; go_simp; refine (callsIn_wide.2 (cY V)).mono ?_; rintro e V' ⟨rfl, hbV'⟩; dsimp only; obtain ⟨d, e, hbV⟩ := hV; have hsV := hbV.out.size; simp only [World.size_alloc] at hsV; refine hK.out _ _ (by first | with_reducible rfl | (simp; omega)) ⟨d.below hbV' (by omega), e.below hbV' (by omega), hbV.out.trans (hbV'.mono (by omega))⟩)
    refine full_want_k (by kernel_rfl) (fun V hV K hK => ?_) ?_; focus (obtain ⟨⟨d0, d1, d2, d3⟩, ⟨e0, e1, e2, e3⟩, hbV⟩ := hV; unfold Oper.wpIn; refine ⟨fun _ _ => trivial, ?_⟩; rw [Oper.semAt_eq _ _ _ (by intro c h; cases h)]; go_simp; exact hK.out _ _ (by first | with_reducible rfl | (simp; done) | (simp; omega)) ⟨⟨d0, d1, d2, d3⟩, ⟨e0, e1, e2, e3⟩, hbV⟩)
    refine full_want_k (by kernel_rfl) (fun V hV K hK => ?_) ?_; focus (obtain ⟨⟨d0, d1, d2, d3⟩, ⟨e0, e1, e2, e3⟩, hbV⟩ := hV; unfold Oper.wpIn; refine ⟨fun _ _ => trivial, ?_⟩; rw [Oper.semAt_eq _ _ _ (by intro c h; cases h)]; go_simp; exact hK.out _ _ (by first | with_reducible rfl | (simp; done) | (simp; omega)) ⟨⟨d0, d1, d2, d3⟩, ⟨e0, e1, e2, e3⟩, hbV⟩)
    exact trivial
  · intro V hV
    have hV2 := Lib.hid hV.2.2
    clear hV hE
    gi_wp2
    go_ret
    exact ⟨rfl, hB0.trans (hV2.out.out.mono (by omega))⟩
end Go.Proofs.Ytdpikdkhemhmdaa
