/-
  Mathematics of the numbers with 16 bits behind the point: a number within the bounds (wi), sum, product, quotient, power of e (expZ) and square root (rootB, bit by bit), and what follows of them.
-/
import Derived.Test.YtkkkabgljppilaaRows
import Derived.WalkKit
import Derived.ProofKit
import Derived.Below
namespace Go.Proofs.Ytkkkabgljppilaa
open Go.RowKit
set_option linter.unusedVariables false
set_option maxRecDepth 1000000

theorem hid {p : Prop} (h : p) : Hid p := h
theorem ret_int {k : IntKind} {a b : Int} (h : a = b) : Ending.returned (.int k a) = .returned (.int k b) := by rw [h]

/-- A number within the bounds. -/
def wi (n : Int) : Int := if n < -2147483648 then -2147483648 else if n > 2147483647 then 2147483647 else n
theorem wi_0 (n : Int) : -2147483648 ≤ wi n := by unfold wi; split <;> (try split) <;> omega
theorem wi_1 (n : Int) : wi n ≤ 2147483647 := by unfold wi; split <;> (try split) <;> omega
theorem wi_in {n : Int} (h0 : -2147483648 ≤ n) (h1 : n ≤ 2147483647) : wi n = n := by unfold wi; rw [if_neg (by omega), if_neg (by omega)]
theorem wi_wi (n : Int) : wi (wi n) = wi n := wi_in (wi_0 n) (wi_1 n)
theorem wi_le {a b : Int} (h : a ≤ b) : wi a ≤ wi b := by unfold wi; split <;> split <;> (try split) <;> (try split) <;> omega

/-- The greatest whole number that is not above the quotient. -/
def byZ (a b : Int) : Int := if b < 0 then -a / -b else a / b
/-- The bound on the side of a number. -/
def farZ (a : Int) : Int := if a > 0 then 2147483647 else if a < 0 then -2147483648 else 0
def addZ (a b : Int) : Int := wi (wi a + wi b)
def mulZ (a b : Int) : Int := wi (wi a * wi b / 65536)
def divZ (a b : Int) : Int := if wi b = 0 then farZ (wi a) else wi (byZ (wi a * 65536) (wi b))
def fromZ (n : Int) : Int := wi (wi n * 65536)
def floorZ (n : Int) : Int := wi n / 65536

theorem addZ_comm (a b : Int) : addZ a b = addZ b a := by unfold addZ; rw [Int.add_comm]
theorem mulZ_comm (a b : Int) : mulZ a b = mulZ b a := by unfold mulZ; rw [Int.mul_comm]
theorem addZ_0 (a : Int) : addZ a 0 = wi a := by unfold addZ; rw [show wi 0 = 0 from rfl, Int.add_zero, wi_wi]
theorem mulZ_one (a : Int) : mulZ a 65536 = wi a := by
  unfold mulZ; rw [show wi 65536 = 65536 from rfl, Int.mul_ediv_cancel _ (by omega), wi_wi]
theorem divZ_one (a : Int) : divZ a 65536 = wi a := by
  unfold divZ byZ; rw [show wi 65536 = 65536 from rfl, if_neg (by omega), if_neg (by omega), Int.mul_ediv_cancel _ (by omega), wi_wi]

/-- A product of two numbers within the bounds. -/
theorem prod_bd (a b : Int) : -4611686018427387904 ≤ wi a * wi b ∧ wi a * wi b ≤ 4611686018427387904 := by
  have a0 := wi_0 a
  have a1 := wi_1 a
  have b0 := wi_0 b
  have b1 := wi_1 b
  generalize wi a = x at *
  generalize wi b = y at *
  have h1 : 0 ≤ (2147483648 - x) * (2147483648 + y) := Int.mul_nonneg (by omega) (by omega)
  have h2 : 0 ≤ (2147483648 + x) * (2147483648 - y) := Int.mul_nonneg (by omega) (by omega)
  have h3 : 0 ≤ (2147483648 - x) * (2147483648 - y) := Int.mul_nonneg (by omega) (by omega)
  have h4 : 0 ≤ (2147483648 + x) * (2147483648 + y) := Int.mul_nonneg (by omega) (by omega)
  simp only [Int.sub_mul, Int.add_mul, Int.mul_sub, Int.mul_add] at h1 h2 h3 h4
  rw [Int.mul_comm x 2147483648] at *
  omega

/-- The language's quotient, gone down where it was cut up. -/
theorem quo_pos {n d : Int} (hd : 0 < d) : (if n.tmod d < 0 then n.tdiv d - 1 else n.tdiv d) = n / d := by
  by_cases hn : 0 ≤ n
  · rw [Int.tmod_eq_emod_of_nonneg hn, Int.tdiv_eq_ediv_of_nonneg hn, if_neg]
    have := Int.emod_nonneg n (b := d) (by omega)
    omega
  · have e1 : n.tdiv d = -((-n) / d) := by rw [← Int.tdiv_eq_ediv_of_nonneg (by omega), Int.neg_tdiv, Int.neg_neg]
    have e2 : n.tmod d = -((-n) % d) := by rw [← Int.tmod_eq_emod_of_nonneg (by omega), Int.neg_tmod, Int.neg_neg]
    have e3 := Int.mul_ediv_add_emod (-n) d
    have e4 := Int.emod_nonneg (-n) (b := d) (by omega)
    have e5 := Int.emod_lt_of_pos (-n) hd
    rw [e1, e2]
    generalize -n / d = q at *
    generalize -n % d = r at *
    split
    · refine (Int.ediv_eq_iff_of_pos hd).mpr ?_ |>.symm
      rw [Int.sub_mul, Int.neg_mul, Int.mul_comm q d] 
      constructor <;> omega
    · refine (Int.ediv_eq_iff_of_pos hd).mpr ?_ |>.symm
      rw [Int.neg_mul, Int.mul_comm q d]
      constructor <;> omega
theorem tmod_neg_iff {n d : Int} (hd : 0 < d) : n.tmod d < 0 ↔ n.tmod d ≠ 0 ∧ n < 0 := by
  by_cases hn : 0 ≤ n
  · rw [Int.tmod_eq_emod_of_nonneg hn]
    have := Int.emod_nonneg n (b := d) (by omega)
    omega
  · have e2 : n.tmod d = -((-n) % d) := by rw [← Int.tmod_eq_emod_of_nonneg (by omega), Int.neg_tmod, Int.neg_neg]
    have e4 := Int.emod_nonneg (-n) (b := d) (by omega)
    rw [e2]
    omega
theorem quo_0 {a b : Int} (hb : b ≠ 0) (h : a.tmod b = 0) : a.tdiv b = byZ a b := by
  unfold byZ
  split
  · rw [← quo_pos (n := -a) (d := -b) (by omega), Int.neg_tmod, Int.tmod_neg, h, if_neg (by omega), Int.neg_tdiv, Int.tdiv_neg, Int.neg_neg]
  · rw [← quo_pos (n := a) (d := b) (by omega), h, if_neg (by omega)]
theorem quo_like {a b : Int} (hb : b ≠ 0) (h : a < 0 ↔ b < 0) : a.tdiv b = byZ a b := by
  unfold byZ
  split
  · rw [← quo_pos (n := -a) (d := -b) (by omega), if_neg, Int.neg_tdiv, Int.tdiv_neg, Int.neg_neg]
    rw [tmod_neg_iff (by omega)]
    omega
  · rw [← quo_pos (n := a) (d := b) (by omega), if_neg]
    rw [tmod_neg_iff (by omega)]
    omega
theorem quo_unlike {a b : Int} (hb : b ≠ 0) (h : a.tmod b ≠ 0) (h' : ¬(a < 0 ↔ b < 0)) : a.tdiv b - 1 = byZ a b := by
  unfold byZ
  have h0 : a ≠ 0 := by rintro rfl; simp at h
  split
  · rw [← quo_pos (n := -a) (d := -b) (by omega), if_pos, Int.neg_tdiv, Int.tdiv_neg, Int.neg_neg]
    rw [tmod_neg_iff (by omega), Int.neg_tmod, Int.tmod_neg]
    omega
  · rw [← quo_pos (n := a) (d := b) (by omega), if_pos]
    rw [tmod_neg_iff (by omega)]
    omega
theorem tdiv_bd (a b : Int) {m : Int} (h0 : -m ≤ a) (h1 : a ≤ m) : -m ≤ a.tdiv b ∧ a.tdiv b ≤ m := by
  have := Int.natAbs_tdiv_le_natAbs a b
  omega

/-! ### Powers -/
/-- 2 to the power of a part of One. -/
def pw (f : Int) : Int := 65536 + f * (43691 + f * 21845 / 65536) / 65536
/-- A number times a power of 2, within the bounds. -/
def liftZ (p k : Int) : Int := if k ≥ 16 then 2147483647 else if k < 0 then p / 2 ^ (-k).toNat else wi (p * 2 ^ k.toNat)
/-- e to the power of a number. -/
def expZ (x : Int) : Int := liftZ (pw (wi x * 94548 / 65536 % 65536)) (wi x * 94548 / 65536 / 65536)

theorem pw_le {f g : Int} (f0 : 0 ≤ f) (h : f ≤ g) : pw f ≤ pw g := by
  unfold pw
  have h1 : f * 21845 / 65536 ≤ g * 21845 / 65536 := by omega
  have h2 : f * (43691 + f * 21845 / 65536) ≤ g * (43691 + g * 21845 / 65536) := Int.mul_le_mul h (by omega) (by omega) (by omega)
  omega
theorem pw_0 : pw 0 = 65536 := by decide
theorem pw_bd {f : Int} (f0 : 0 ≤ f) (f1 : f < 65536) : 65536 ≤ pw f ∧ pw f ≤ 131072 := by
  have h1 := pw_le (Int.le_refl 0) f0
  have h2 := pw_le f0 (show f ≤ 65535 by omega)
  rw [pw_0] at h1
  rw [show pw 65535 = 131070 from by decide] at h2
  omega
theorem part_bd {f : Int} (f0 : 0 ≤ f) (f1 : f < 65536) : 0 ≤ f * (43691 + f * 21845 / 65536) ∧ f * (43691 + f * 21845 / 65536) ≤ 4294967296 :=
  ⟨Int.mul_nonneg f0 (by omega), Int.le_trans (Int.mul_le_mul (show f ≤ 65536 by omega) (show 43691 + f * 21845 / 65536 ≤ 65536 by omega) (by omega) (by omega)) (by omega)⟩

theorem two_pos (n : Nat) : (0 : Int) < 2 ^ n := Int.pow_pos (by omega)
theorem two_le {m n : Nat} (h : m ≤ n) : (2 : Int) ^ m ≤ 2 ^ n := by
  induction h with
  | refl => exact Int.le_refl _
  | step _ ih => rw [Int.pow_succ]; have := two_pos m; omega
theorem liftZ_p {p q : Int} (k : Int) (h : p ≤ q) : liftZ p k ≤ liftZ q k := by
  unfold liftZ
  split
  · omega
  · split
    · exact Int.ediv_le_ediv (two_pos _) h
    · exact wi_le (Int.mul_le_mul_of_nonneg_right h (Int.le_of_lt (two_pos _)))
theorem liftZ_k (k : Int) : liftZ 131072 k ≤ liftZ 65536 (k + 1) := by
  unfold liftZ
  by_cases h16 : k ≥ 16
  · rw [if_pos h16, if_pos (by omega)]; omega
  · by_cases h15 : k = 15
    · subst h15; decide
    · rw [if_neg h16, if_neg (show ¬ k + 1 ≥ 16 by omega)]
      by_cases hm : k = -1
      · subst hm; decide
      · by_cases h0 : k < 0
        · rw [if_pos h0, if_pos (by omega)]
          rw [show (-k).toNat = (-(k + 1)).toNat + 1 by omega, Int.pow_succ, show (131072 : Int) = 65536 * 2 from rfl, Int.mul_ediv_mul_of_pos_left _ _ (by omega)]
          omega
        · rw [if_neg h0, if_neg (by omega), show (k + 1).toNat = k.toNat + 1 by omega, Int.pow_succ, show (131072 : Int) * 2 ^ k.toNat = 65536 * (2 ^ k.toNat * 2) by omega]
          omega
theorem liftZ_up (k : Int) (n : Nat) : liftZ 65536 k ≤ liftZ 65536 (k + n) := by
  induction n with
  | zero => simp
  | succ n ih =>
    refine Int.le_trans ih (Int.le_trans (liftZ_p _ (show (65536 : Int) ≤ 131072 by omega)) ?_)
    have := liftZ_k (k + n)
    rw [show k + ((n + 1 : Nat) : Int) = k + n + 1 by omega]
    exact this
theorem expZ_le {a b : Int} (h : a ≤ b) : expZ a ≤ expZ b := by
  unfold expZ
  have hw := wi_le h
  have hy : wi a * 94548 / 65536 ≤ wi b * 94548 / 65536 := by omega
  generalize wi a * 94548 / 65536 = y at *
  generalize wi b * 94548 / 65536 = z at *
  by_cases hk : y / 65536 = z / 65536
  · rw [hk]
    exact liftZ_p _ (pw_le (by omega) (by omega))
  · have p1 := pw_bd (f := y % 65536) (by omega) (by omega)
    have p2 := pw_bd (f := z % 65536) (by omega) (by omega)
    refine Int.le_trans (liftZ_p _ p1.2) (Int.le_trans (liftZ_k _) (Int.le_trans ?_ (liftZ_p _ p2.1)))
    have := liftZ_up (y / 65536 + 1) (z / 65536 - (y / 65536 + 1)).toNat
    rw [show y / 65536 + 1 + (((z / 65536 - (y / 65536 + 1)).toNat : Nat) : Int) = z / 65536 by omega] at this
    exact this
theorem wi_nn {n : Int} (h : 0 ≤ n) : 0 ≤ wi n := by have := wi_le h; rwa [show wi 0 = 0 from rfl] at this
theorem liftZ_nn {p : Int} (k : Int) (h : 0 ≤ p) : 0 ≤ liftZ p k := by
  unfold liftZ
  split
  · omega
  · split
    · exact Int.ediv_nonneg h (Int.le_of_lt (two_pos _))
    · exact wi_nn (Int.mul_nonneg h (Int.le_of_lt (two_pos _)))
theorem liftZ_bd {p : Int} (k : Int) (h : 0 ≤ p) (h1 : p ≤ 131072) : liftZ p k ≤ 2147483647 := by
  unfold liftZ
  split
  · omega
  · split
    · exact Int.le_trans (Int.ediv_le_self _ h) (by omega)
    · exact wi_1 _
theorem expZ_bd (x : Int) : 0 ≤ expZ x ∧ expZ x ≤ 2147483647 := by
  unfold expZ
  have p := pw_bd (f := wi x * 94548 / 65536 % 65536) (by omega) (by omega)
  exact ⟨liftZ_nn _ (by omega), liftZ_bd _ (by omega) (by omega)⟩
/-- A number that is small enough goes to 0. -/
theorem lift_far {p : Int} (p0 : 0 ≤ p) (p1 : p ≤ 131072) {n : Nat} (h : 18 ≤ n) : p / 2 ^ n = 0 := by
  refine Int.ediv_eq_zero_of_lt p0 (Int.lt_of_lt_of_le (show p < 2 ^ 18 by omega) ?_)
  exact two_le h

/-! ### Roots -/
/-- The root of n, its first bits being s, from the bit i on. -/
def rootB (n : Int) : Nat → Int → Int
  | 0, s => s
  | i + 1, s => rootB n i (if (s + 2 ^ i) * (s + 2 ^ i) ≤ n then s + 2 ^ i else s)
/-- s is the root of n. -/
def Root (n s : Int) : Prop := 0 ≤ s ∧ s * s ≤ n ∧ n < (s + 1) * (s + 1)
theorem rootB_root {n : Int} (i : Nat) : ∀ {s : Int}, 0 ≤ s → s * s ≤ n → n < (s + 2 ^ i) * (s + 2 ^ i) → Root n (rootB n i s) := by
  induction i with
  | zero => intro s h0 h1 h2; exact ⟨h0, h1, h2⟩
  | succ i ih =>
    intro s h0 h1 h2
    have := two_pos i
    unfold rootB
    split
    · refine ih (by omega) (by assumption) ?_
      rw [Int.pow_succ] at h2
      rw [show s + 2 ^ i + 2 ^ i = s + 2 ^ i * 2 by omega]
      exact h2
    · exact ih h0 h1 (by omega)
theorem rootB_neg {n : Int} (h : n < 0) (i : Nat) : rootB n i 0 = 0 := by
  induction i with
  | zero => rfl
  | succ i ih =>
    unfold rootB
    rw [if_neg]
    · exact ih
    · have := two_pos i
      have := Int.mul_nonneg (a := 0 + 2 ^ i) (b := 0 + 2 ^ i) (by omega) (by omega)
      omega
theorem Root.lt {n r s : Int} (hr : Root n r) (hs : Root n s) : ¬ r < s := by
  intro h
  have h1 : (r + 1) * (r + 1) ≤ s * s := Int.mul_le_mul (by omega) (by omega) (by have := hr.1; omega) hs.1
  have := hr.2.2
  have := hs.2.1
  omega
theorem Root.one {n r s : Int} (hr : Root n r) (hs : Root n s) : r = s := by
  have := hr.lt hs
  have := hs.lt hr
  omega
/-- The square root of a number. -/
def sqrtZ (x : Int) : Int := rootB (wi x * 65536) 24 0
theorem sq_lt {n : Int} (i : Nat) (hi : 24 ≤ i) (h : n < 281474976710656) : n < (0 + 2 ^ i) * (0 + 2 ^ i) := by
  have h1 : (16777216 : Int) ≤ 2 ^ i := two_le hi
  have h2 : (16777216 : Int) * 16777216 ≤ (0 + 2 ^ i) * (0 + 2 ^ i) := Int.mul_le_mul (by omega) (by omega) (by omega) (by omega)
  omega
theorem sqrtZ_root {x : Int} (h : 0 ≤ wi x) : Root (wi x * 65536) (sqrtZ x) :=
  rootB_root 24 (Int.le_refl 0) (by omega) (sq_lt 24 (by omega) (by have := wi_1 x; omega))
theorem sqrtZ_neg {x : Int} (h : wi x < 0) : sqrtZ x = 0 := rootB_neg (by omega) 24
theorem sqrtZ_eq (x : Int) : rootB (wi x * 65536) 32 0 = sqrtZ x := by
  by_cases h : wi x < 0
  · rw [sqrtZ_neg h]; exact rootB_neg (by omega) 32
  · exact (rootB_root 32 (Int.le_refl 0) (by omega) (sq_lt 32 (by omega) (by have := wi_1 x; omega))).one (sqrtZ_root (by omega))
theorem sq_small {t n : Int} (h : t * t ≤ n) (hn : n < 281474976710656) : t < 16777216 := by
  refine Int.not_le.mp fun hc => ?_
  have : (16777216 : Int) * 16777216 ≤ t * t := Int.mul_le_mul hc hc (by omega) (by omega)
  omega
end Go.Proofs.Ytkkkabgljppilaa
