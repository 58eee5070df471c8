/- Plain facts about counting bits, and about the lowest bit: no program. -/
import Derived.Test.YtdpikdkhemhmdaaLbPlain
import Derived.Lib.TrailingZeros
namespace Go.Proofs.Ytdpikdkhemhmdaa
open Go

/-- How many compartments there are. -/
def cnt (a : Nat) : Nat := (listTo a 64).length
/-- Bytes, the least first. -/
def valB : List Nat → Nat
  | [] => 0
  | b :: l => 256 * valB l + b
def repB (c : Nat) : Nat → Nat
  | 0 => 0
  | n + 1 => 256 * repB c n + c
theorem land_split (q M b c : Nat) (hb : b < 256) (hc : c < 256) : (256 * q + b) &&& (256 * M + c) = 256 * (q &&& M) + (b &&& c) := by
  have h1 : ((256 * q + b) &&& (256 * M + c)) % 2 ^ 8 = (256 * q + b) % 2 ^ 8 &&& (256 * M + c) % 2 ^ 8 := Nat.and_mod_two_pow ..
  have h2 : ((256 * q + b) &&& (256 * M + c)) / 2 ^ 8 = (256 * q + b) / 2 ^ 8 &&& (256 * M + c) / 2 ^ 8 := Nat.and_div_two_pow ..
  have e1 : (256 * q + b) % 2 ^ 8 = b := by omega
  have e2 : (256 * M + c) % 2 ^ 8 = c := by omega
  have e3 : (256 * q + b) / 2 ^ 8 = q := by omega
  have e4 : (256 * M + c) / 2 ^ 8 = M := by omega
  rw [e1, e2] at h1
  rw [e3, e4] at h2
  omega
def h1B (b : Nat) : Nat := (b / 2 &&& 85) + (b &&& 85)
def h2B (b : Nat) : Nat := (b / 4 &&& 51) + (b &&& 51)
def h3B (b : Nat) : Nat := (b / 16 + b) % 16
theorem m85 : ∀ (b : Fin 256) (e : Fin 2), (128 * e.val + b.val / 2) &&& 85 = b.val / 2 &&& 85 := by decide +kernel
theorem m51 : ∀ (b : Fin 256) (e : Fin 4), (64 * e.val + b.val / 4) &&& 51 = b.val / 4 &&& 51 := by decide +kernel
theorem h1_le : ∀ b : Fin 256, h1B b.val < 256 := by decide +kernel
theorem h2_le : ∀ b : Fin 256, h2B (h1B b.val) < 256 ∧ h2B (h1B b.val) % 16 ≤ 4 ∧ h2B (h1B b.val) / 16 ≤ 4 := by decide +kernel
theorem h3_eq : ∀ b : Fin 256, h3B (h2B (h1B b.val)) = (listTo b.val 8).length := by decide +kernel
theorem f1_val : ∀ l : List Nat, (∀ b ∈ l, b < 256) → (valB l / 2 &&& repB 85 l.length) + (valB l &&& repB 85 l.length) = valB (l.map h1B)
  | [], _ => rfl
  | b :: l, h => by
    have hb : b < 256 := h b (List.mem_cons_self ..)
    have ih := f1_val l fun c hc => h c (List.mem_cons_of_mem _ hc)
    have e : valB (b :: l) / 2 = 256 * (valB l / 2) + (128 * (valB l % 2) + b / 2) := by rw [valB]; omega
    rw [e, List.length_cons, repB, land_split _ _ _ _ (by omega) (by decide), valB, land_split _ _ _ _ hb (by decide), List.map_cons, valB, ← ih]
    have hm := m85 ⟨b, hb⟩ ⟨valB l % 2, Nat.mod_lt _ (by decide)⟩
    simp only at hm
    rw [hm]
    unfold h1B
    omega
theorem f2_val : ∀ l : List Nat, (∀ b ∈ l, b < 256) → (valB l / 4 &&& repB 51 l.length) + (valB l &&& repB 51 l.length) = valB (l.map h2B)
  | [], _ => rfl
  | b :: l, h => by
    have hb : b < 256 := h b (List.mem_cons_self ..)
    have ih := f2_val l fun c hc => h c (List.mem_cons_of_mem _ hc)
    have e : valB (b :: l) / 4 = 256 * (valB l / 4) + (64 * (valB l % 4) + b / 4) := by rw [valB]; omega
    rw [e, List.length_cons, repB, land_split _ _ _ _ (by omega) (by decide), valB, land_split _ _ _ _ hb (by decide), List.map_cons, valB, ← ih]
    have hm := m51 ⟨b, hb⟩ ⟨valB l % 4, Nat.mod_lt _ (by decide)⟩
    simp only at hm
    rw [hm]
    unfold h2B
    omega
theorem low_val : ∀ l : List Nat, (∀ b ∈ l, b % 16 ≤ 4 ∧ b / 16 ≤ 4) → valB l % 16 ≤ 4
  | [], _ => by simp [valB]
  | b :: l, h => by
    have := h b (List.mem_cons_self ..)
    rw [valB]; omega
theorem f3_val : ∀ l : List Nat, (∀ b ∈ l, b % 16 ≤ 4 ∧ b / 16 ≤ 4) → (valB l / 16 + valB l) &&& repB 15 l.length = valB (l.map h3B)
  | [], _ => rfl
  | b :: l, h => by
    have hb := h b (List.mem_cons_self ..)
    have hl : ∀ c ∈ l, c % 16 ≤ 4 ∧ c / 16 ≤ 4 := fun c hc => h c (List.mem_cons_of_mem _ hc)
    have ih := f3_val l hl
    have hlow := low_val l hl
    have e : valB (b :: l) / 16 + valB (b :: l) = 256 * (valB l / 16 + valB l) + (16 * (valB l % 16) + b / 16 + b) := by rw [valB]; omega
    rw [e, List.length_cons, repB, land_split _ _ _ _ (by omega) (by decide), List.map_cons, valB, ← ih]
    have hm : (16 * (valB l % 16) + b / 16 + b) &&& 15 = (16 * (valB l % 16) + b / 16 + b) % 2 ^ 4 := Nat.and_two_pow_sub_one_eq_mod _ 4
    rw [hm]
    unfold h3B
    omega
theorem cnt_split (q b k : Nat) (hb : b < 256) : (listTo (256 * q + b) (8 + k)).length = (listTo b 8).length + (listTo q k).length := by
  have hbit : ∀ j, (256 * q + b).testBit j = if j < 8 then b.testBit j else q.testBit (j - 8) := fun j => Nat.testBit_two_pow_mul_add q (i := 8) hb j
  unfold listTo
  rw [List.range_add, List.filter_append, List.length_append]
  congr 1
  · congr 1
    apply List.filter_congr
    intro i hi
    rw [hbit, if_pos (List.mem_range.1 hi)]
  · rw [List.filter_map, List.length_map]
    congr 1
    apply List.filter_congr
    intro i _
    show (256 * q + b).testBit (8 + i) = _
    rw [hbit, if_neg (by omega)]
    congr 1; omega
theorem cnt_val : ∀ l : List Nat, (∀ b ∈ l, b < 256) → (listTo (valB l) (8 * l.length)).length = (l.map fun b => (listTo b 8).length).sum
  | [], _ => rfl
  | b :: l, h => by
    have e : 8 * (b :: l).length = 8 + 8 * l.length := by rw [List.length_cons]; omega
    rw [e, valB, cnt_split _ _ _ (h b (List.mem_cons_self ..)), cnt_val l fun c hc => h c (List.mem_cons_of_mem _ hc), List.map_cons, List.sum_cons]
def bytesOf (a : Nat) : List Nat := [a % 256, a / 256 % 256, a / 65536 % 256, a / 16777216 % 256, a / 4294967296 % 256, a / 1099511627776 % 256, a / 281474976710656 % 256, a / 72057594037927936 % 256]
theorem bytes_val (a : Nat) (ha : a < 18446744073709551616) : valB (bytesOf a) = a := by
  simp only [bytesOf, valB]; omega
theorem bytes_lt (a : Nat) : ∀ b ∈ bytesOf a, b < 256 := by
  intro b hb
  simp only [bytesOf, List.mem_cons, List.not_mem_nil, or_false] at hb
  omega
theorem all_h2 (a : Nat) : ∀ b ∈ ((bytesOf a).map h1B).map h2B, b % 16 ≤ 4 ∧ b / 16 ≤ 4 := by
  intro b hb
  rw [List.map_map] at hb
  obtain ⟨c, hc, rfl⟩ := List.mem_map.1 hb
  exact (h2_le ⟨c, bytes_lt a c hc⟩).2
def ones1 (a : Nat) : Nat := (a / 2 &&& 6148914691236517205) + (a &&& 6148914691236517205)
def ones2 (a : Nat) : Nat := (a / 4 &&& 3689348814741910323) + (a &&& 3689348814741910323)
def ones3 (a : Nat) : Nat := (a / 16 + a) &&& 1085102592571150095
theorem rep85 : repB 85 8 = 6148914691236517205 := by decide +kernel
theorem rep51 : repB 51 8 = 3689348814741910323 := by decide +kernel
theorem rep15 : repB 15 8 = 1085102592571150095 := by decide +kernel
theorem bytes_len (a : Nat) : (bytesOf a).length = 8 := rfl
theorem ones123 (a : Nat) (ha : a < 18446744073709551616) : ones3 (ones2 (ones1 a)) = valB ((bytesOf a).map fun b => (listTo b 8).length) := by
  have e1 : ones1 a = valB ((bytesOf a).map h1B) := by
    have := f1_val (bytesOf a) (bytes_lt a)
    rw [bytes_val a ha, bytes_len, rep85] at this
    exact this
  have e2 : ones2 (ones1 a) = valB (((bytesOf a).map h1B).map h2B) := by
    have h2 := f2_val ((bytesOf a).map h1B) (by
      intro b hb
      obtain ⟨c, hc, rfl⟩ := List.mem_map.1 hb
      exact h1_le ⟨c, bytes_lt a c hc⟩)
    rw [List.length_map, bytes_len, rep51] at h2
    rw [e1]
    exact h2
  have e3 : ones3 (ones2 (ones1 a)) = valB ((((bytesOf a).map h1B).map h2B).map h3B) := by
    have h3 := f3_val _ (all_h2 a)
    rw [List.length_map, List.length_map, bytes_len, rep15] at h3
    rw [e2]
    exact h3
  rw [e3, List.map_map, List.map_map]
  congr 1
  apply List.map_congr_left
  intro b hb
  exact h3_eq ⟨b, bytes_lt a b hb⟩
theorem len8 (b : Nat) : (listTo b 8).length ≤ 8 := listTo_len b 8
theorem ones1_lt (a : Nat) : ones1 a < 18446744073709551616 ∧ (a / 2 &&& 6148914691236517205) ≤ 6148914691236517205 ∧ (a &&& 6148914691236517205) ≤ 6148914691236517205 := by
  have h1 : (a / 2 &&& 6148914691236517205) ≤ 6148914691236517205 := Nat.and_le_right
  have h2 : (a &&& 6148914691236517205) ≤ 6148914691236517205 := Nat.and_le_right
  unfold ones1
  omega
theorem ones2_lt (a : Nat) : ones2 a ≤ 7378697629483820646 ∧ (a / 4 &&& 3689348814741910323) ≤ 3689348814741910323 ∧ (a &&& 3689348814741910323) ≤ 3689348814741910323 := by
  have h1 : (a / 4 &&& 3689348814741910323) ≤ 3689348814741910323 := Nat.and_le_right
  have h2 : (a &&& 3689348814741910323) ≤ 3689348814741910323 := Nat.and_le_right
  unfold ones2
  omega
theorem ones3_lt (a : Nat) : ones3 a ≤ 1085102592571150095 := Nat.and_le_right
theorem dv (y M hi lo : Nat) (h : y = M * hi + lo) (hlo : lo < M) : y / M = hi := by
  rw [h, Nat.mul_add_div (by omega), Nat.div_eq_of_lt hlo, Nat.add_zero]
theorem sum3 (p0 p1 p2 p3 p4 p5 p6 p7 y z : Nat) (ey : y = 4294967296 * (256 * (256 * (256 * p7 + (p6 + p7)) + (p5 + p6 + p7)) + (p4 + p5 + p6 + p7)) + (256 * (256 * (256 * (p3 + p4 + p5 + p6) + (p2 + p3 + p4 + p5)) + (p1 + p2 + p3 + p4)) + (p0 + p1 + p2 + p3)))
  (hz : z = y + (256 * (256 * (256 * p7 + (p6 + p7)) + (p5 + p6 + p7)) + (p4 + p5 + p6 + p7))) (h : p0 + p1 + p2 + p3 + p4 + p5 + p6 + p7 < 128) : z % 128 = p0 + p1 + p2 + p3 + p4 + p5 + p6 + p7 := by
  obtain ⟨q, hq⟩ : ∃ q, z = 128 * q + (p0 + p1 + p2 + p3 + p4 + p5 + p6 + p7) := by
    rw [hz, ey]
    refine ⟨33554432 * (256 * (256 * (256 * p7 + (p6 + p7)) + (p5 + p6 + p7)) + (p4 + p5 + p6 + p7)) + 2 * (256 * (256 * (p3 + p4 + p5 + p6) + (p2 + p3 + p4 + p5)) + (p1 + p2 + p3 + p4)) + 2 * (256 * (256 * p7 + (p6 + p7)) + (p5 + p6 + p7)), ?_⟩
    generalize (256 * (256 * p7 + (p6 + p7)) + (p5 + p6 + p7)) = A
    generalize (256 * (256 * (p3 + p4 + p5 + p6) + (p2 + p3 + p4 + p5)) + (p1 + p2 + p3 + p4)) = B
    omega
  rw [hq, Nat.mul_add_mod]
  exact Nat.mod_eq_of_lt h
theorem sum1 (p0 p1 p2 p3 p4 p5 p6 p7 X x : Nat) (hX : X = 256 * (256 * (256 * (256 * (256 * (256 * (256 * (256 * 0 + p7) + p6) + p5) + p4) + p3) + p2) + p1) + p0) (h0 : p0 < 256) (hx : x = X + X / 256) :
    x = 65536 * (256 * (256 * (256 * (256 * (256 * p7 + (p6 + p7)) + (p5 + p6)) + (p4 + p5)) + (p3 + p4)) + (p2 + p3)) + (256 * (p1 + p2) + (p0 + p1)) := by
  have d1 := dv X 256 _ p0 hX h0
  rw [d1, hX] at hx
  clear d1 hX
  omega
theorem sum2 (p0 p1 p2 p3 p4 p5 p6 p7 x y : Nat) (ex : x = 65536 * (256 * (256 * (256 * (256 * (256 * p7 + (p6 + p7)) + (p5 + p6)) + (p4 + p5)) + (p3 + p4)) + (p2 + p3)) + (256 * (p1 + p2) + (p0 + p1))) (h : 256 * (p1 + p2) + (p0 + p1) < 65536) (hy : y = x + x / 65536) :
    y = 4294967296 * (256 * (256 * (256 * p7 + (p6 + p7)) + (p5 + p6 + p7)) + (p4 + p5 + p6 + p7)) + (256 * (256 * (256 * (p3 + p4 + p5 + p6) + (p2 + p3 + p4 + p5)) + (p1 + p2 + p3 + p4)) + (p0 + p1 + p2 + p3)) := by
  have d1 := dv x 65536 _ _ ex h
  rw [d1, ex] at hy
  clear d1 ex
  omega
theorem sum_all (p0 p1 p2 p3 p4 p5 p6 p7 X x y z : Nat) (a0 : p0 ≤ 8) (a1 : p1 ≤ 8) (a2 : p2 ≤ 8) (a3 : p3 ≤ 8) (a4 : p4 ≤ 8) (a5 : p5 ≤ 8) (a6 : p6 ≤ 8) (a7 : p7 ≤ 8)
    (hX : X = 256 * (256 * (256 * (256 * (256 * (256 * (256 * (256 * 0 + p7) + p6) + p5) + p4) + p3) + p2) + p1) + p0) (hx : x = X + X / 256) (hy : y = x + x / 65536) (hz : z = y + y / 4294967296) :
    x < 2 ^ 61 ∧ y < 2 ^ 62 ∧ z < 2 ^ 63 ∧ z % 128 = p0 + p1 + p2 + p3 + p4 + p5 + p6 + p7 := by
  have ex := sum1 p0 p1 p2 p3 p4 p5 p6 p7 X x hX (by omega) hx
  have hXl : X < 2 ^ 60 := by clear ex hx hy hz; omega
  have hxl : x < 2 ^ 61 := by clear ex hX hy hz; omega
  have hyl : y < 2 ^ 62 := by clear ex hX hx hz; omega
  have hzl : z < 2 ^ 63 := by clear ex hX hx hy; omega
  have ey := sum2 p0 p1 p2 p3 p4 p5 p6 p7 x y ex (by clear ex hX hx hy hz; omega) hy
  have d3 := dv y 4294967296 _ _ ey (by clear ex ey hX hx hy hz; omega)
  rw [d3] at hz
  exact ⟨hxl, hyl, hzl, sum3 p0 p1 p2 p3 p4 p5 p6 p7 y z ey hz (by clear ex ey d3 hX hx hy hz; omega)⟩
/-- The last three sums, and what is left of them. -/
theorem ones_end (a : Nat) (ha : a < 18446744073709551616) (x y z : Nat) (hx : x = ones3 (ones2 (ones1 a)) + ones3 (ones2 (ones1 a)) / 256) (hy : y = x + x / 65536) (hz : z = y + y / 4294967296) :
    x < 2 ^ 61 ∧ y < 2 ^ 62 ∧ z < 2 ^ 63 ∧ z % 128 = cnt a := by
  have hc : cnt a = ((bytesOf a).map fun b => (listTo b 8).length).sum := by
    have := cnt_val (bytesOf a) (bytes_lt a)
    rw [bytes_val a ha] at this
    exact this
  have hX := ones123 a ha
  obtain ⟨h1, h2, h3, h4⟩ := sum_all _ _ _ _ _ _ _ _ _ x y z (len8 _) (len8 _) (len8 _) (len8 _) (len8 _) (len8 _) (len8 _) (len8 _) hX hx hy hz
  refine ⟨h1, h2, h3, ?_⟩
  rw [h4, hc]
  simp only [bytesOf, List.map_cons, List.map_nil, List.sum_cons, List.sum_nil]
  clear hX h1 h2 h3 h4 hc hx hy hz ha
  omega

theorem cnt_le (a : Nat) : cnt a ≤ 64 := listTo_len a 64
/-- The lowest compartment first. -/
theorem list_low (x : Nat) (h0 : x ≠ 0) (h : x < 18446744073709551616) : listTo x 64 = Lib.ctz 64 x :: listTo (x &&& (x - 1)) 64 ∧ (x &&& (x - 1)) < 18446744073709551616 ∧ Lib.ctz 64 x < 64 := by
  obtain ⟨m, hm, hk⟩ := Lib.ctzFrom_spec 64 x (by omega) h
  have e : Lib.ctz 64 x = Lib.ctzFrom 64 x := by simp [Lib.ctz, h0]
  rw [e]
  generalize Lib.ctzFrom 64 x = k at *
  have hp : 0 < 2 ^ k := Nat.two_pow_pos k
  have h1 : x = 2 ^ (k + 1) * m + 2 ^ k := by rw [hm, Nat.pow_succ, Nat.mul_add, Nat.mul_one, Nat.mul_assoc]
  have h2 : x - 1 = 2 ^ (k + 1) * m + (2 ^ k - 1) := by omega
  have hlt1 : 2 ^ k < 2 ^ (k + 1) := by rw [Nat.pow_succ]; omega
  have bx : ∀ j, x.testBit j = if j < k + 1 then decide (j = k) else m.testBit (j - (k + 1)) := by
    intro j
    rw [h1, Nat.testBit_two_pow_mul_add m hlt1 j, Nat.testBit_two_pow]
    simp only [eq_comm]
  have by_ : ∀ j, (x &&& (x - 1)).testBit j = if j < k + 1 then false else m.testBit (j - (k + 1)) := by
    intro j
    rw [Nat.testBit_and, bx j, h2, Nat.testBit_two_pow_mul_add m (by omega) j]
    by_cases hj : j < k + 1
    · rw [if_pos hj, if_pos hj, if_pos hj, Nat.testBit_two_pow_sub_one]
      by_cases hjk : j = k
      · subst hjk; simp
      · simp [hjk]
    · rw [if_neg hj, if_neg hj, if_neg hj, Bool.and_self]
  obtain ⟨d, hd⟩ : ∃ d, 64 = k + 1 + d := ⟨64 - (k + 1), by omega⟩
  refine ⟨?_, Nat.lt_of_le_of_lt Nat.and_le_left h, hk⟩
  unfold listTo
  rw [hd, List.range_add, List.filter_append, List.filter_append, List.range_succ, List.filter_append, List.filter_append]
  have z1 : (List.range k).filter (fun i => x.testBit i) = [] := by
    rw [List.filter_eq_nil_iff]
    intro i hi
    have := List.mem_range.1 hi
    rw [bx, if_pos (by omega)]
    simp; omega
  have z2 : (List.range k).filter (fun i => (x &&& (x - 1)).testBit i) = [] := by
    rw [List.filter_eq_nil_iff]
    intro i hi
    have := List.mem_range.1 hi
    rw [by_, if_pos (by omega)]
    simp
  have z3 : [k].filter (fun i => x.testBit i) = [k] := by
    have : x.testBit k = true := by rw [bx, if_pos (by omega)]; simp
    simp [this]
  have z4 : [k].filter (fun i => (x &&& (x - 1)).testBit i) = [] := by
    rw [List.filter_eq_nil_iff]
    intro i hi
    have e := List.mem_singleton.1 hi
    rw [by_, if_pos (by omega)]
    simp
  rw [z1, z2, z3, z4]
  simp only [List.nil_append, List.singleton_append, List.cons.injEq, true_and]
  apply List.filter_congr
  intro i hi
  obtain ⟨j, _, rfl⟩ := List.mem_map.1 hi
  rw [bx, by_, if_neg (by omega), if_neg (by omega)]
theorem list_zero : listTo 0 64 = [] := by
  unfold listTo
  rw [List.filter_eq_nil_iff]
  intro i _
  simp
theorem list_lt (a k i : Nat) (h : i ∈ listTo a k) : i < k := by
  unfold listTo at h
  exact List.mem_range.1 (List.mem_filter.1 h).1
end Go.Proofs.Ytdpikdkhemhmdaa
