/- Going over all that lies between two sets, plainly: no program. -/
import Derived.Test.YtglpkadpohbfmaaLbPop
namespace Go.Proofs.Ytglpkadpohbfmaa
open Go

/-- The j-th of the sets whose compartments are f's. -/
def dep : Nat → Nat → Nat → Nat
  | 0, _, _ => 0
  | m + 1, f, j => if f % 2 = 1 then j % 2 + 2 * dep m (f / 2) (j / 2) else 2 * dep m (f / 2) j
def pcn : Nat → Nat → Nat
  | 0, _ => 0
  | m + 1, f => f % 2 + pcn m (f / 2)
theorem land2 (x y p q : Nat) (hp : p < 2) (hq : q < 2) : (2 * x + p) &&& (2 * y + q) = 2 * (x &&& y) + (p &&& q) := by
  have h1 : ((2 * x + p) &&& (2 * y + q)) % 2 ^ 1 = (2 * x + p) % 2 ^ 1 &&& (2 * y + q) % 2 ^ 1 := Nat.and_mod_two_pow ..
  have h2 : ((2 * x + p) &&& (2 * y + q)) / 2 ^ 1 = (2 * x + p) / 2 ^ 1 &&& (2 * y + q) / 2 ^ 1 := Nat.and_div_two_pow ..
  have e1 : (2 * x + p) % 2 ^ 1 = p := by omega
  have e2 : (2 * y + q) % 2 ^ 1 = q := by omega
  have e3 : (2 * x + p) / 2 ^ 1 = x := by omega
  have e4 : (2 * y + q) / 2 ^ 1 = y := by omega
  rw [e1, e2] at h1
  rw [e3, e4] at h2
  omega
theorem lor2 (x y p q : Nat) (hp : p < 2) (hq : q < 2) : (2 * x + p) ||| (2 * y + q) = 2 * (x ||| y) + (p ||| q) := by
  have h1 : ((2 * x + p) ||| (2 * y + q)) % 2 ^ 1 = (2 * x + p) % 2 ^ 1 ||| (2 * y + q) % 2 ^ 1 := Nat.or_mod_two_pow ..
  have h2 : ((2 * x + p) ||| (2 * y + q)) / 2 ^ 1 = (2 * x + p) / 2 ^ 1 ||| (2 * y + q) / 2 ^ 1 := Nat.or_div_two_pow ..
  have e1 : (2 * x + p) % 2 ^ 1 = p := by omega
  have e2 : (2 * y + q) % 2 ^ 1 = q := by omega
  have e3 : (2 * x + p) / 2 ^ 1 = x := by omega
  have e4 : (2 * y + q) / 2 ^ 1 = y := by omega
  rw [e1, e2] at h1
  rw [e3, e4] at h2
  omega
theorem bit2 (p : Nat) (hp : p < 2) : p &&& 1 = p ∧ p &&& 0 = 0 := by
  have : p = 0 ∨ p = 1 := by omega
  rcases this with rfl | rfl <;> exact ⟨rfl, rfl⟩
theorem dep_le : ∀ m f j, f < 2 ^ m → dep m f j ≤ f
  | 0, f, j, h => by simp [dep]
  | m + 1, f, j, h => by
    have h' : f / 2 < 2 ^ m := by rw [Nat.pow_succ] at h; omega
    rw [dep]
    split
    · have := dep_le m (f / 2) (j / 2) h'; omega
    · have := dep_le m (f / 2) j h'; omega
theorem dep_and : ∀ m f j, f < 2 ^ m → dep m f j &&& f = dep m f j
  | 0, f, j, h => by simp [dep]
  | m + 1, f, j, h => by
    have h' : f / 2 < 2 ^ m := by rw [Nat.pow_succ] at h; omega
    rw [dep]
    split
    · rename_i h1
      have ef : f = 2 * (f / 2) + 1 := by omega
      have ih := dep_and m (f / 2) (j / 2) h'
      conv => lhs; rw [ef]
      rw [show 2 * (f / 2) + 1 = 2 * (f / 2) + 1 from rfl, Nat.add_comm (j % 2), land2 _ _ _ _ (Nat.mod_lt _ (by decide)) (by decide), show (2 * (f / 2) + 1) / 2 = f / 2 by omega, ih, (bit2 _ (Nat.mod_lt _ (by decide))).1, Nat.add_comm]
    · have ef : f = 2 * (f / 2) + 0 := by omega
      have ih := dep_and m (f / 2) j h'
      conv => lhs; rw [ef]
      rw [show 2 * dep m ((2 * (f / 2) + 0) / 2) j = 2 * dep m ((2 * (f / 2) + 0) / 2) j + 0 from rfl, land2 _ _ _ _ (by decide) (by decide), show (2 * (f / 2) + 0) / 2 = f / 2 by omega, ih]
      rfl
theorem dep_not : ∀ m f j, f < 2 ^ m → (dep m f j + (2 ^ m - 1 - f)) &&& f = dep m f j
  | 0, f, j, h => by simp [dep]
  | m + 1, f, j, h => by
    have h' : f / 2 < 2 ^ m := by rw [Nat.pow_succ] at h; omega
    rw [dep]
    split
    · rename_i h1
      have ih := dep_not m (f / 2) (j / 2) h'
      have e : j % 2 + 2 * dep m (f / 2) (j / 2) + (2 ^ (m + 1) - 1 - f) = 2 * (dep m (f / 2) (j / 2) + (2 ^ m - 1 - f / 2)) + j % 2 := by rw [Nat.pow_succ]; omega
      have ef : f = 2 * (f / 2) + 1 := by omega
      rw [e]
      generalize dep m (f / 2) (j / 2) + (2 ^ m - 1 - f / 2) = X at *
      generalize dep m (f / 2) (j / 2) = Y at *
      rw [ef, land2 _ _ _ _ (Nat.mod_lt _ (by decide)) (by decide), ih, (bit2 _ (Nat.mod_lt _ (by decide))).1]
      omega
    · have ih := dep_not m (f / 2) j h'
      have e : 2 * dep m (f / 2) j + (2 ^ (m + 1) - 1 - f) = 2 * (dep m (f / 2) j + (2 ^ m - 1 - f / 2)) + 1 := by rw [Nat.pow_succ]; omega
      have ef : f = 2 * (f / 2) + 0 := by omega
      rw [e]
      generalize dep m (f / 2) j + (2 ^ m - 1 - f / 2) = X at *
      generalize dep m (f / 2) j = Y at *
      rw [ef, land2 _ _ _ _ (by decide) (by decide), ih]
      rfl
/-- To take f away is to count by one in f's bits. -/
theorem dep_step : ∀ m f j, f < 2 ^ m → ((dep m f j + (2 ^ m - 1 - f) + 1) % 2 ^ m) &&& f = dep m f (j + 1)
  | 0, f, j, h => by simp [dep]
  | m + 1, f, j, h => by
    have h' : f / 2 < 2 ^ m := by rw [Nat.pow_succ] at h; omega
    have hp : 0 < 2 ^ m := Nat.two_pow_pos m
    rw [dep, dep]
    split
    · rename_i h1
      have ef : f = 2 * (f / 2) + 1 := by omega
      by_cases hj : j % 2 = 1
      · have ih := dep_step m (f / 2) (j / 2) h'
        have e : j % 2 + 2 * dep m (f / 2) (j / 2) + (2 ^ (m + 1) - 1 - f) + 1 = 2 * (dep m (f / 2) (j / 2) + (2 ^ m - 1 - f / 2) + 1) := by rw [Nat.pow_succ]; omega
        have e2 : (j + 1) % 2 = 0 := by omega
        have e3 : (j + 1) / 2 = j / 2 + 1 := by omega
        rw [e, e2, e3, ← ih]
        generalize dep m (f / 2) (j / 2) + (2 ^ m - 1 - f / 2) + 1 = X
        have e4 : 2 * X % 2 ^ (m + 1) = 2 * (X % 2 ^ m) + 0 := by rw [Nat.pow_succ, Nat.mul_comm (2 ^ m) 2, Nat.mul_mod_mul_left]; rfl
        rw [e4]
        conv => lhs; rw [ef]
        rw [land2 _ _ _ _ (by decide) (by decide)]
        show 2 * _ + 0 = 0 + 2 * _
        omega
      · have ih := dep_not m (f / 2) (j / 2) h'
        have hle := dep_le m (f / 2) (j / 2) h'
        have e2 : (j + 1) % 2 = 1 := by omega
        have e3 : (j + 1) / 2 = j / 2 := by omega
        have e : j % 2 + 2 * dep m (f / 2) (j / 2) + (2 ^ (m + 1) - 1 - f) + 1 = 2 * (dep m (f / 2) (j / 2) + (2 ^ m - 1 - f / 2)) + 1 := by rw [Nat.pow_succ]; omega
        have hX : dep m (f / 2) (j / 2) + (2 ^ m - 1 - f / 2) < 2 ^ m := by omega
        rw [e, e2, e3]
        generalize dep m (f / 2) (j / 2) + (2 ^ m - 1 - f / 2) = X at *
        generalize dep m (f / 2) (j / 2) = Y at *
        have e4 : (2 * X + 1) % 2 ^ (m + 1) = 2 * X + 1 := Nat.mod_eq_of_lt (by rw [Nat.pow_succ]; omega)
        rw [e4]
        conv => lhs; rw [ef]
        rw [land2 _ _ _ _ (by decide) (by decide), ih]
        show 2 * Y + 1 = _
        omega
    · have ih := dep_step m (f / 2) j h'
      have e : 2 * dep m (f / 2) j + (2 ^ (m + 1) - 1 - f) + 1 = 2 * (dep m (f / 2) j + (2 ^ m - 1 - f / 2) + 1) := by rw [Nat.pow_succ]; omega
      have ef : f = 2 * (f / 2) + 0 := by omega
      rw [e, ← ih]
      generalize dep m (f / 2) j + (2 ^ m - 1 - f / 2) + 1 = X
      have e4 : 2 * X % 2 ^ (m + 1) = 2 * (X % 2 ^ m) + 0 := by rw [Nat.pow_succ, Nat.mul_comm (2 ^ m) 2, Nat.mul_mod_mul_left]; rfl
      rw [e4]
      conv => lhs; rw [ef]
      rw [land2 _ _ _ _ (by decide) (by decide)]
      rfl
theorem dep_zero : ∀ m f, dep m f 0 = 0
  | 0, _ => rfl
  | m + 1, f => by
    rw [dep]
    split
    · rw [show 0 / 2 = 0 from rfl, dep_zero m]
    · rw [dep_zero m]
theorem dep_last : ∀ m f, f < 2 ^ m → dep m f (2 ^ pcn m f - 1) = f
  | 0, f, h => by simp [dep]; omega
  | m + 1, f, h => by
    have h' : f / 2 < 2 ^ m := by rw [Nat.pow_succ] at h; omega
    have ih := dep_last m (f / 2) h'
    have hp : 0 < 2 ^ pcn m (f / 2) := Nat.two_pow_pos _
    rw [dep]
    split
    · rename_i h1
      have e : 2 ^ pcn (m + 1) f = 2 * 2 ^ pcn m (f / 2) := by rw [pcn, h1, Nat.add_comm, Nat.pow_succ, Nat.mul_comm]
      have e1 : (2 ^ pcn (m + 1) f - 1) % 2 = 1 := by omega
      have e2 : (2 ^ pcn (m + 1) f - 1) / 2 = 2 ^ pcn m (f / 2) - 1 := by omega
      rw [e1, e2, ih]; omega
    · rename_i h1
      have e : pcn (m + 1) f = pcn m (f / 2) := by rw [pcn]; omega
      rw [e, ih]; omega
theorem dep_mono : ∀ m f j k, j < k → k < 2 ^ pcn m f → dep m f j < dep m f k
  | 0, f, j, k, h1, h2 => by simp [pcn] at h2; omega
  | m + 1, f, j, k, h1, h2 => by
    rw [dep, dep]
    split
    · rename_i h
      have e : 2 ^ pcn (m + 1) f = 2 * 2 ^ pcn m (f / 2) := by rw [pcn, h, Nat.add_comm, Nat.pow_succ, Nat.mul_comm]
      by_cases hjk : j / 2 < k / 2
      · have := dep_mono m (f / 2) (j / 2) (k / 2) hjk (by omega)
        omega
      · have e2 : j / 2 = k / 2 := by omega
        rw [e2]; omega
    · rename_i h
      have e : pcn (m + 1) f = pcn m (f / 2) := by rw [pcn]; omega
      rw [e] at h2
      have := dep_mono m (f / 2) j k h1 h2
      omega
theorem listTo_succ (f m : Nat) : listTo f (m + 1) = (if f % 2 = 1 then [0] else []) ++ (listTo (f / 2) m).map (· + 1) := by
  unfold listTo
  rw [List.range_succ_eq_map, List.filter_cons, List.filter_map, Nat.testBit_zero]
  have e : (fun i => f.testBit i) ∘ Nat.succ = fun i => (f / 2).testBit i := by
    funext i
    show f.testBit (i + 1) = _
    rw [Nat.testBit_succ]
  rw [e]
  by_cases h : f % 2 = 1
  · rw [if_pos h, if_pos (by simpa using h)]; rfl
  · rw [if_neg h, if_neg (by simpa using h)]; rfl
theorem pcn_cnt : ∀ m f, pcn m f = (listTo f m).length
  | 0, f => rfl
  | m + 1, f => by
    rw [pcn, listTo_succ, List.length_append, List.length_map, pcn_cnt m]
    by_cases h : f % 2 = 1
    · rw [if_pos h, h]; rfl
    · rw [if_neg h, show f % 2 = 0 by omega]; rfl
/-- As the document makes them: compartment by compartment. -/
def subs : List Nat → Nat → Nat
  | [], _ => 0
  | c :: fs, j => j % 2 * 2 ^ c + subs fs (j / 2)
theorem subs_up : ∀ l j, subs (l.map (· + 1)) j = 2 * subs l j
  | [], _ => rfl
  | c :: l, j => by
    rw [List.map_cons, subs, subs, subs_up l, Nat.pow_succ, Nat.mul_add]
    rw [Nat.mul_comm (2 ^ c) 2, ← Nat.mul_assoc, Nat.mul_comm (j % 2) 2, Nat.mul_assoc]
theorem subs_dep : ∀ m f j, subs (listTo f m) j = dep m f j
  | 0, _, _ => rfl
  | m + 1, f, j => by
    rw [listTo_succ, dep]
    by_cases h : f % 2 = 1
    · rw [if_pos h, if_pos h, List.singleton_append, subs, subs_up, subs_dep m]; simp
    · rw [if_neg h, if_neg h, List.nil_append, subs_up, subs_dep m]
theorem subs_snoc : ∀ xs c j, subs (xs ++ [c]) j = subs xs j + j / 2 ^ xs.length % 2 * 2 ^ c
  | [], c, j => by simp [subs]
  | x :: xs, c, j => by
    rw [List.cons_append, subs, subs, subs_snoc xs, List.length_cons, Nat.pow_succ, Nat.mul_comm (2 ^ xs.length) 2, Nat.div_div_eq_div_mul]
    omega
theorem subs_hi : ∀ xs j, subs xs (2 ^ xs.length + j) = subs xs j
  | [], _ => rfl
  | x :: xs, j => by
    rw [subs, subs, List.length_cons, Nat.pow_succ]
    have e1 : (2 ^ xs.length * 2 + j) % 2 = j % 2 := by omega
    have e2 : (2 ^ xs.length * 2 + j) / 2 = 2 ^ xs.length + j / 2 := by omega
    rw [e1, e2, subs_hi xs]
/-- Where nothing is in both, to join is to add. -/
theorem or_add : ∀ m a b, a < 2 ^ m → b < 2 ^ m → a &&& b = 0 → a ||| b = a + b
  | 0, a, b, ha, hb, _ => by
    have : a = 0 ∧ b = 0 := by simp at ha hb; omega
    rw [this.1, this.2]; rfl
  | m + 1, a, b, ha, hb, h => by
    have ea : a = 2 * (a / 2) + a % 2 := by omega
    have eb : b = 2 * (b / 2) + b % 2 := by omega
    have pa : a % 2 < 2 := Nat.mod_lt _ (by decide)
    have pb : b % 2 < 2 := Nat.mod_lt _ (by decide)
    have h1 := land2 (a / 2) (b / 2) (a % 2) (b % 2) pa pb
    rw [← ea, ← eb, h] at h1
    have h2 := lor2 (a / 2) (b / 2) (a % 2) (b % 2) pa pb
    rw [← ea, ← eb] at h2
    rw [Nat.pow_succ] at ha hb
    have ih := or_add m (a / 2) (b / 2) (by omega) (by omega) (by omega)
    have h3 : a % 2 &&& b % 2 = 0 := by omega
    have h4 : (a % 2 ||| b % 2) = a % 2 + b % 2 := by
      have qa : a % 2 = 0 ∨ a % 2 = 1 := by omega
      have qb : b % 2 = 0 ∨ b % 2 = 1 := by omega
      rcases qa with qa | qa <;> rcases qb with qb | qb <;> rw [qa, qb] at h3 ⊢
      · rfl
      · rfl
      · rfl
      · exact absurd h3 (by decide)
    rw [h2, ih, h4]; omega
end Go.Proofs.Ytglpkadpohbfmaa
