/- slices.Delete of one line out of an own row, by its contract. -/
import Derived.Test.YtfkkodcppaakjaaDcNew
import Derived.Laws.IdiomCopy
import Derived.Deep.RegionLaw
namespace Go.Proofs.Ytfkkodcppaakjaa
open Go Go.RowKit Go.Maps

/-- Cells laid over a block that is known whole. -/
theorem setCells_blk {g : Nat} {T : TypeId} : ∀ (vs : List Value) (o : Nat) (W : World) (cur : Array Value), W.heap[g]? = some (.cells cur T (0, 0)) → o + vs.length ≤ cur.size →
    ∃ cur', (W.setCells g o vs).heap[g]? = some (.cells cur' T (0, 0)) ∧ cur'.toList = cur.toList.take o ++ vs ++ cur.toList.drop (o + vs.length)
  | [], o, W, cur, h, _ => ⟨cur, h, by simp⟩
  | v :: r, o, W, cur, h, hl => by
    rw [List.length_cons] at hl
    have h1 := heap_setCell_same W g o cur T v h
    obtain ⟨cur', h2, h3⟩ := setCells_blk r (o + 1) (W.setCell ⟨g, o, none⟩ v) _ h1 (by simp; omega)
    refine ⟨cur', h2, ?_⟩
    rw [h3]
    have e1 : (cur.setIfInBounds o v).toList = cur.toList.set o v := by simp
    have ho : o < cur.toList.length := by rw [Array.length_toList]; omega
    first | rw [e1] | skip
    have hs : cur.toList.set o v = (cur.toList.take o ++ [v]) ++ cur.toList.drop (o + 1) := by
      have : cur.toList.set o v = cur.toList.take o ++ v :: cur.toList.drop (o + 1) := List.set_eq_take_append_cons_drop .. |>.trans (by rw [if_pos ho])
      rw [this]; simp
    have hlt : (cur.toList.take o ++ [v]).length = o + 1 := by rw [List.length_append, List.length_take, List.length_singleton]; omega
    rw [hs, List.take_left' hlt, ← List.drop_drop, List.drop_left' hlt, List.drop_drop, List.length_cons]
    rw [show o + 1 + r.length = o + (r.length + 1) by omega]
    simp
theorem setCells_grown (g : Nat) : ∀ (vs : List Value) (o : Nat) (W : World), W.grownBy (W.setCells g o vs) (some g)
  | [], _, W => ⟨rfl, rfl, rfl, Nat.le_refl _, fun _ _ _ => rfl⟩
  | v :: r, o, W => by
    have h1 : W.grownBy (W.setCell ⟨g, o, none⟩ v) (some g) := ⟨rfl, rfl, rfl, by simp, fun k _ hk => heap_setCell_other W ⟨g, o, none⟩ k v (fun e => hk (by simp [e]))⟩
    have h2 := setCells_grown g r (o + 1) (W.setCell ⟨g, o, none⟩ v)
    exact ⟨h2.os.trans h1.os, h2.tape.trans h1.tape, h2.output.trans h1.output, Nat.le_trans h1.size h2.size, fun k hk hne => (h2.block k (Nat.lt_of_lt_of_le hk h1.size) hne).trans (h1.block k hk hne)⟩
theorem zeroLine (w : World) : (zeroValue 26).run Try.prog w = .ok (.agg #[.int .u64 0, .int .i64 0, .int .i64 0, .string ⟨#[]⟩]) w := by kernel_rfl
def zeroL : List Value := [.int .u64 0, .int .i64 0, .int .i64 0, .string ⟨#[]⟩]
theorem clear_one (w : World) (ty b o c : Nat) (hc : ∀ j, j < 4 → (w.cell? ⟨b, o + j, none⟩).isSome = true) (hf : ∀ j, j < 4 → w.frozen? ⟨b, o + j, none⟩ = false) :
    (Builtin.clear_ #[22] ty #[.slice (some ⟨b, o, none⟩) 1 c]).run Try.prog w = .ok (.tuple #[]) (w.setCells b o zeroL) := by
  have hst := run_storeCells_cells (P := Try.prog) b o zeroL 0 w (by simpa [zeroL] using hc) (by simpa [zeroL] using hf) (by intro v hv; simp [zeroL] at hv; rcases hv with rfl | rfl | rfl | rfl <;> rfl)
  simp only [Nat.add_zero] at hst
  have hzc : (Builtin.zeroCells (Value.agg #[.int .u64 0, .int .i64 0, .int .i64 0, .string ⟨#[]⟩]).cells 1).toList = zeroL := by kernel_rfl
  simp [Builtin.clear_, run_underlying Try.underlying22, hzc, hst]
theorem lineInfo4 : (Try.prog.info? 26).map (fun i => i.size) = some 4 := by kernel_rfl
set_option maxRecDepth 100000 in
set_option maxHeartbeats 4000000 in
theorem delete_run (w : World) (g n cap i : Nat) (news : List Value) (hin : i < n) (hcap : n ≤ cap) (hcm : cap ≤ maxLen) (hnl : news.length = (n - (i + 1)) * 4) (h1 : ∀ u ∈ news, u.oneCell' = true)
    (hsrc : ∀ t u, news[t]? = some u → w.cell? ⟨g, (i + 1) * 4 + t, none⟩ = some u) (hc : ∀ j, j < cap * 4 → (w.cell? ⟨g, j, none⟩).isSome = true) (hf : ∀ j, w.frozen? ⟨g, j, none⟩ = false) :
    Calls Try.prog 28 #[.slice (some ⟨g, 0, none⟩) n cap, .int .i64 i, .int .i64 ((i : Int) + 1)] w fun e w' => e = .returned (.slice (some ⟨g, 0, none⟩) (n - 1) cap) ∧ w' = ((w.drew.setCells g (i * 4) news).setCells g ((n - 1) * 4) zeroL) := by
  obtain ⟨i0, hi0, hz0, hz1, hz2⟩ := info_parts lineInfo
  unfold maxLen at hcm
  have hi0' : (0 : Int) ≤ (i : Int) := by omega
  have hi1 : (i : Int) + 1 ≤ (n : Int) := by omega
  have hne : ((i : Int) == (i : Int) + 1) = false := beq_false_of_ne (by omega)
  have htn : ((i : Int) + 1).toNat = i + 1 := by omega
  have hii : (i : Int) ≤ (i : Int) + 1 := by omega
  have hi01 : (0 : Int) ≤ (i : Int) + 1 := by omega
  have hicap : (i : Int) ≤ (cap : Int) := by omega
  have hicap1 : (i : Int) + 1 ≤ (cap : Int) := by omega
  obtain ⟨W1, hW1⟩ : ∃ W1, W1 = w.drew.setCells g (i * 4) news := ⟨_, rfl⟩
  have hc1 : ∀ j, j < cap * 4 → (W1.cell? ⟨g, j, none⟩).isSome = true := fun j hj => by
    rw [hW1]
    by_cases hin' : i * 4 ≤ j ∧ j < i * 4 + news.length
    · have := World.cell?_setCells_in g news (i * 4) w.drew (fun t ht => hc _ (by omega)) (j - i * 4) (by omega)
      rw [show i * 4 + (j - i * 4) = j by omega] at this
      rw [this]; rfl
    · rw [World.cell?_setCells_out g news (i * 4) w.drew ⟨g, j, none⟩ (fun _ _ => by show j < i * 4 ∨ i * 4 + news.length ≤ j; omega)]
      exact hc j hj
  have hf1 : ∀ j, W1.frozen? ⟨g, j, none⟩ = false := fun j => by rw [hW1, World.frozen?_setCells]; exact hf j
  have hcl := fun ty c => clear_one W1 ty g ((n - 1) * 4) c (fun j hj => hc1 _ (by omega)) (fun j _ => hf1 _)
  have HW : Hid (W1 = w.drew.setCells g (i * 4) news) := hW1
  have HC := Lib.hid hc
  have HF := Lib.hid hf
  have HS := Lib.hid hsrc
  rw [← hW1]
  have hsub : i + (n - (i + 1)) = n - 1 := by omega
  have hone : n - (n - 1) = 1 := by omega
  clear hW1 hc1 hf1 hc hf hsrc
  by_cases hci : cap = i + 1
  · have hni : n = i + 1 := by omega
    subst hni
    have hn0 : news = [] := List.eq_nil_of_length_eq_zero (by rw [hnl, Nat.sub_self])
    subst hci
    have hsp : Hid (∀ j, j < news.length → (w.drew.cell? ⟨g, 0 + i * 4 + j, none⟩).isSome = true ∧ w.drew.frozen? ⟨g, 0 + i * 4 + j, none⟩ = false) := fun j hj => by rw [hn0] at hj; exact absurd hj (Nat.not_lt_zero _)
    have hsr : Hid (∀ j u, news[j]? = some u → w.drew.cell? ((⟨g, 0, none⟩ : Addr).add j) = some u) := fun j u hj => by rw [hn0] at hj; cases hj
    have e1 : i + 1 - 1 = i := Nat.add_sub_cancel i 1
    rw [e1] at hcl ⊢
    go_enter Try.func28, Try.ntmps28
    go_wp2_with fail
    go_region_law (refine step_append_room rfl (.tmp 22) (.tmp 25) 22 rfl 26 i0 4 Try.underlying22 hi0 hz1 g 0 i (i + 1) (by simp [Act.eval, Act.put]) ⟨g, 0, none⟩ 0 0 news (by simp [Act.eval, Act.put]) (by rw [hn0]; rfl) hsr.out h1 (by omega) hsp.out ?_; rw [show 0 + i * 4 = i * 4 from Nat.zero_add _, ← HW.out])
    have hcn : ¬ (i + 1 = i) := by omega
    clear hsub hone HW hsr hsp
    go_wp2
    go_ret
    exact ⟨rfl, rfl⟩
  · have hsp : Hid (∀ j, j < news.length → (w.drew.cell? ⟨g, 0 + i * 4 + j, none⟩).isSome = true ∧ w.drew.frozen? ⟨g, 0 + i * 4 + j, none⟩ = false) := fun j hj => by
      rw [Nat.zero_add]
      exact ⟨HC.out _ (by omega), HF.out _⟩
    have hsr : Hid (∀ j u, news[j]? = some u → w.drew.cell? ((⟨g, (i + 1) * 4, none⟩ : Addr).add j) = some u) := fun j u hj => by rw [addrAdd]; exact HS.out j u hj
    go_enter Try.func28, Try.ntmps28
    go_wp2_with fail
    go_region_law (refine step_append_room rfl (.tmp 22) (.tmp 25) 22 rfl 26 i0 4 Try.underlying22 hi0 hz1 g 0 i cap (by simp [Act.eval, Act.put]) ⟨g, (i + 1) * 4, none⟩ (n - (i + 1)) (cap - (i + 1)) news (by simp [Act.eval, Act.put]) hnl hsr.out h1 (by omega) hsp.out ?_; rw [show 0 + i * 4 = i * 4 from Nat.zero_add _, ← HW.out])
    have hcn : ¬ (cap = n - 1) := by omega
    have hnI : ((n - 1 : Nat) : Int) ≤ (n : Int) := by omega
    have hnI0 : (0 : Int) ≤ ((n - 1 : Nat) : Int) := by omega
    clear HW hsr hsp
    go_wp2
    go_ret
    exact ⟨rfl, rfl⟩
end Go.Proofs.Ytfkkodcppaakjaa
