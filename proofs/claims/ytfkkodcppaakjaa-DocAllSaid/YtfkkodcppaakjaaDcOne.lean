/- The document's One: are two lines the same? By its contract. -/
import Derived.Test.YtfkkodcppaakjaaDcBase
namespace Go.Proofs.Ytfkkodcppaakjaa
open Go.RowKit

def oneL (x y : Li) : Bool := x.u == y.u && x.n == y.n && x.r == y.r && x.s.toList == y.s.toList
theorem oneL_refl (x : Li) : oneL x x = true := by simp [oneL]
set_option maxHeartbeats 1000000 in
theorem one_any (x y : Li) (w : World) : Calls Try.prog 18 #[x.agg, y.agg] w fun e w' => e = .returned (.bool (oneL x y)) ∧ Below w.heap.size w w' := by
  obtain ⟨u, n, r, s⟩ := x
  obtain ⟨u', n', r', s'⟩ := y
  unfold Li.agg
  by_cases h1 : u = u'
  · subst h1
    by_cases h2 : n = n'
    · subst h2
      by_cases h3 : r = r'
      · subst h3
        have e : oneL ⟨u, n, r, s⟩ ⟨u, n, r, s'⟩ = (s.toList == s'.toList) := by simp [oneL]
        rw [e]; clear e
        go_enter Try.func18, Try.ntmps18
        go_wp2
        go_ret
        exact ⟨rfl, ((Below.refl _ _).alloc (Nat.le_refl _) _).alloc (by simp) _⟩
      · have e : oneL ⟨u, n, r, s⟩ ⟨u, n, r', s'⟩ = false := by simp [oneL, h3]
        have hb : (r == r') = false := beq_false_of_ne h3
        rw [e]; clear e h3
        go_enter Try.func18, Try.ntmps18
        go_wp2
        go_ret
        exact ⟨rfl, ((Below.refl _ _).alloc (Nat.le_refl _) _).alloc (by simp) _⟩
    · have e : oneL ⟨u, n, r, s⟩ ⟨u, n', r', s'⟩ = false := by simp [oneL, h2]
      have hb : (n == n') = false := beq_false_of_ne h2
      rw [e]; clear e h2
      go_enter Try.func18, Try.ntmps18
      go_wp2
      go_ret
      exact ⟨rfl, ((Below.refl _ _).alloc (Nat.le_refl _) _).alloc (by simp) _⟩
  · have e : oneL ⟨u, n, r, s⟩ ⟨u', n', r', s'⟩ = false := by simp [oneL, h1]
    have hb : ((u : Int) == (u' : Int)) = false := beq_false_of_ne (by omega)
    rw [e]; clear e h1
    go_enter Try.func18, Try.ntmps18
    go_wp2
    go_ret
    exact ⟨rfl, ((Below.refl _ _).alloc (Nat.le_refl _) _).alloc (by simp) _⟩

end Go.Proofs.Ytfkkodcppaakjaa
